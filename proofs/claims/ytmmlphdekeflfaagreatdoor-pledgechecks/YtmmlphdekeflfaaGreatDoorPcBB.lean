/- attestref12: Check, where it says no at once. PledgeChecks: the walk. -/
import Derived.Test.YtmmlphdekeflfaaGreatDoorPcBA
import Derived.Test.YtmmlphdekeflfaaGreatDoorPcAW
import Derived.Test.YtmmlphdekeflfaaGreatDoorPgV
namespace Go.Proofs.YtmmlphdekeflfaaGreatDoor
open Go.RowKit

set_option maxRecDepth 100000 in
set_option maxHeartbeats 4000000 in
theorem rcheck12_no (q rc N : Nat) (r t v a : Int) (a1 a2 a3 a4 : Option Addr) (c1 c2 c3 c4 n1 n2 n3 n4 : Nat) (x4 x5 x6 : Value) (w : World) (hN : N ≤ 65536) (hv1 : -9223372036854775808 ≤ v) (hv2 : v ≤ 9223372036854775807) (hno : ¬ PlK N v a n4 n1 n2 n3) :
    Calls Tryz.prog 27 #[.pointer (some ⟨rc, 0, none⟩), .agg #[.int .i64 q, .int .i64 (N : Int), .int .i64 t, .int .i64 r], .int .i64 v, .slice a4 n4 c4, .int .i64 a, .agg #[.slice a1 n1 c1, .slice a2 n2 c2, .slice a3 n3 c3, x4, x5, x6]] w fun e w' => e = .returned (.tuple #[.int .i64 0, .bool false]) ∧ Below w.heap.size w w' := by
  obtain ⟨W1, hW1⟩ : ∃ W1, W1 = (w.alloc (.cells #[.int .i64 q, .int .i64 (N : Int), .int .i64 t, .int .i64 r] 39)).alloc (.cells #[.slice a1 n1 c1, .slice a2 n2 c2, .slice a3 n3 c3, x4, x5, x6] 51) := ⟨_, rfl⟩
  have hb1 : Below w.heap.size w W1 := by rw [hW1]; exact ((Below.refl _ _).alloc (Nat.le_refl _) _).alloc (by simp) _
  obtain ⟨M, hM⟩ : ∃ M, M = w.heap.size := ⟨_, rfl⟩
  obtain ⟨P, hPP⟩ : ∃ P, P = w.heap.size + 1 := ⟨_, rfl⟩
  have hs1 : W1.heap[M]? = some (.cells #[.int .i64 q, .int .i64 (N : Int), .int .i64 t, .int .i64 r] 39 (0, 0)) := by
    rw [hW1, hM]
    have := heap_alloc_new w (.cells #[.int .i64 q, .int .i64 (N : Int), .int .i64 t, .int .i64 r] 39)
    have hb := (Below.refl (w.alloc (.cells #[.int .i64 q, .int .i64 (N : Int), .int .i64 t, .int .i64 r] 39)).heap.size (w.alloc (.cells #[.int .i64 q, .int .i64 (N : Int), .int .i64 t, .int .i64 r] 39))).alloc (Nat.le_refl _) (.cells #[.slice a1 n1 c1, .slice a2 n2 c2, .slice a3 n3 c3, x4, x5, x6] 51)
    exact (hb.block _ (by simp)).trans this
  have hs2 : W1.heap[P]? = some (.cells #[.slice a1 n1 c1, .slice a2 n2 c2, .slice a3 n3 c3, x4, x5, x6] 51 (0, 0)) := by
    rw [hW1, hPP]
    have := heap_alloc_new (w.alloc (.cells #[.int .i64 q, .int .i64 (N : Int), .int .i64 t, .int .i64 r] 39)) (.cells #[.slice a1 n1 c1, .slice a2 n2 c2, .slice a3 n3 c3, x4, x5, x6] 51)
    simpa using this
  have HK : Hid (∀ W, Below W1.heap.size W1 W → (W.cell? ⟨M, 0, none⟩ = some (.int .i64 q) ∧ W.cell? ⟨P, 0, none⟩ = some (.slice a1 n1 c1) ∧ W.cell? ⟨P, 1, none⟩ = some (.slice a2 n2 c2) ∧ W.cell? ⟨P, 2, none⟩ = some (.slice a3 n3 c3)) ∧ Below w.heap.size w W) := fun W hW => by
    have e1 := (hW.block M (Array.getElem?_eq_some_iff.1 hs1).1).trans hs1
    have e2 := (hW.block P (Array.getElem?_eq_some_iff.1 hs2).1).trans hs2
    refine ⟨⟨?_, ?_, ?_, ?_⟩, hb1.trans (hW.mono hb1.size)⟩ <;> simp [World.cell?, e1, e2]
  have HFI := hid (rfits12_any q N t r v W1 hN hv1 hv2)
  have HW1 := hid hW1
  have HM := hid hM
  have HPP := hid hPP
  have HNO := hid hno
  clear hs1 hs2 hb1 hW1 hM hPP hno
  by_cases hfit : 0 ≤ v ∧ v ≤ 12 ∧ 2 ^ (v.toNat - v.toNat / 2) ≤ N / 2
  · rw [decide_eq_true hfit] at HFI
    obtain ⟨v', rfl⟩ := Int.eq_ofNat_of_zero_le hfit.1
    rw [Int.toNat_natCast] at hfit
    have hv12 : v' ≤ 12 := by omega
    by_cases h4 : n4 = v'
    · have k4 : ((n4 : Int) != (v' : Int)) = false := by rw [h4]; simp
      by_cases e1 : a < 1
      · subst h4
        clear hfit
        go_enter Tryz.func27, Tryz.ntmps27
        go_wp2_with fail
        rw [← HPP.out, ← HM.out, ← HW1.out]
        refine HFI.out.mono ?_
        rintro e w2 ⟨rfl, hb2⟩
        have HBE := hid (HK.out w2 hb2).2
        clear hb2
        go_wp2_with fail
        go_ret2
        exact ⟨rfl, HBE.out⟩
      · by_cases e2 : 64 < a
        · subst h4
          clear hfit
          go_enter Tryz.func27, Tryz.ntmps27
          go_wp2_with fail
          rw [← HPP.out, ← HM.out, ← HW1.out]
          refine HFI.out.mono ?_
          rintro e w2 ⟨rfl, hb2⟩
          have HBE := hid (HK.out w2 hb2).2
          clear hb2
          go_wp2_with fail
          go_ret2
          exact ⟨rfl, HBE.out⟩
        · obtain ⟨lo, hlo⟩ : ∃ lo, lo = v' - v' / 2 := ⟨_, rfl⟩
          obtain ⟨hi, hhi⟩ : ∃ hi, hi = v' / 2 := ⟨_, rfl⟩
          have HNF : Hid (¬ (n1 = 4 ∧ n2 = 2 ^ lo ∧ n3 = 2 ^ lo)) := fun h => HNO.out ⟨v', rfl, hv12, hfit.2.2, h4, ⟨by omega, by omega⟩, h.1, by rw [← hlo]; exact h.2.1, by rw [← hlo]; exact h.2.2⟩
          have q1 : (v' : Int).tdiv 2 = (hi : Int) := by rw [Int.tdiv_eq_ediv_of_nonneg (by omega)]; omega
          have q0 : (v' : Int) / 2 = (hi : Int) := by omega
          have q2 : IntKind.i64.wrap (hi : Int) = (hi : Int) := by rw [IntKind.wrap_i64]; omega
          have q3 : (v' : Int) - (hi : Int) = (lo : Int) := by omega
          have q4 : IntKind.i64.wrap (lo : Int) = (lo : Int) := by rw [IntKind.wrap_i64]; omega
          have HTL := hid (fun W => rtwo_any lo W (by omega))
          obtain ⟨X, hX⟩ : ∃ X, X = 2 ^ lo := ⟨_, rfl⟩
          rw [← hX] at HTL HNF
          subst h4
          clear hfit hlo hhi hX HNO
          by_cases c1' : n1 = 4
          · have k1 : ((n1 : Int) != 4) = false := by rw [c1']; rfl
            by_cases c2' : n2 = X
            · have k2 : ((n2 : Int) != (X : Int)) = false := by rw [c2']; simp
              have k3 : ((n3 : Int) != (X : Int)) = true := by
                simp
                exact fun h => HNF.out ⟨c1', c2', by omega⟩
              have k3' : ¬ n3 = X := fun h => HNF.out ⟨c1', c2', h⟩
              clear c1' c2' HNF
              go_enter Tryz.func27, Tryz.ntmps27
              go_wp2_with fail
              rw [← HPP.out, ← HM.out, ← HW1.out]
              refine HFI.out.mono ?_
              rintro e w2 ⟨rfl, hb2⟩
              obtain ⟨⟨m0, p0, p1, p2⟩, hbe⟩ := HK.out w2 hb2
              have HBE := hid hbe
              clear hb2 hbe
              go_wp2_with fail
              refine (HTL.out _).mono ?_
              rintro e w3 ⟨rfl, hw3⟩
              have hw3' := hw3.symm
              subst hw3'
              clear hw3
              go_wp2_with fail
              go_ret2
              exact ⟨rfl, HBE.out⟩
            · have k2 : ((n2 : Int) != (X : Int)) = true := by simp; omega
              clear c1' HNF
              go_enter Tryz.func27, Tryz.ntmps27
              go_wp2_with fail
              rw [← HPP.out, ← HM.out, ← HW1.out]
              refine HFI.out.mono ?_
              rintro e w2 ⟨rfl, hb2⟩
              obtain ⟨⟨m0, p0, p1, p2⟩, hbe⟩ := HK.out w2 hb2
              have HBE := hid hbe
              clear hb2 hbe
              go_wp2_with fail
              refine (HTL.out _).mono ?_
              rintro e w3 ⟨rfl, hw3⟩
              have hw3' := hw3.symm
              subst hw3'
              clear hw3
              go_wp2_with fail
              go_ret2
              exact ⟨rfl, HBE.out⟩
          · have k1 : ((n1 : Int) != 4) = true := by simp; omega
            clear HNF
            go_enter Tryz.func27, Tryz.ntmps27
            go_wp2_with fail
            rw [← HPP.out, ← HM.out, ← HW1.out]
            refine HFI.out.mono ?_
            rintro e w2 ⟨rfl, hb2⟩
            obtain ⟨⟨m0, p0, p1, p2⟩, hbe⟩ := HK.out w2 hb2
            have HBE := hid hbe
            clear hb2 hbe
            go_wp2_with fail
            refine (HTL.out _).mono ?_
            rintro e w3 ⟨rfl, hw3⟩
            have hw3' := hw3.symm
            subst hw3'
            clear hw3
            go_wp2_with fail
            go_ret2
            exact ⟨rfl, HBE.out⟩
    · have k4 : ((n4 : Int) != (v' : Int)) = true := by simp; omega
      have k5 : ¬ (n4 : Int) = (v' : Int) := by omega
      clear hfit
      go_enter Tryz.func27, Tryz.ntmps27
      go_wp2_with fail
      rw [← HPP.out, ← HM.out, ← HW1.out]
      refine HFI.out.mono ?_
      rintro e w2 ⟨rfl, hb2⟩
      have HBE := hid (HK.out w2 hb2).2
      clear hb2
      go_wp2_with fail
      go_ret2
      exact ⟨rfl, HBE.out⟩
  · rw [decide_eq_false hfit] at HFI
    clear hfit
    go_enter Tryz.func27, Tryz.ntmps27
    go_wp2_with fail
    rw [← HPP.out, ← HM.out, ← HW1.out]
    refine HFI.out.mono ?_
    rintro e w2 ⟨rfl, hb2⟩
    have HBE := hid (HK.out w2 hb2).2
    clear hb2
    go_wp2_with fail
    go_ret2
    exact ⟨rfl, HBE.out⟩

end Go.Proofs.YtmmlphdekeflfaaGreatDoor

namespace Go.Proofs.YtmmlphdekeflfaaGreatDoor
open Go.RowKit

/-- both sides say the same -/
theorem checks_both (q n N k0 : Nat) (r t v a : Int) (A : PlA) (o : Plg) (a4 : Option Addr) (c4 : Nat) (at' D : List Int) (F : PlF o.root o.mixed o.point o.ps o.rows o.nodes at') (hD : Dig D) (hN : N = 2 ^ k0) (hk : k0 ≤ 16) (hv1 : -9223372036854775808 ≤ v) (hv2 : v ≤ 9223372036854775807) :
    ∃ (m : Int) (k : Bool),
      (∀ (N0 dd sb s b d c : Nat) (w : World), PlO w c q n dd sb s b d N r t A.a1 A.a2 A.a3 A.ap A.ar A.an a4 A.c1 A.c2 A.c3 A.cp A.cr A.cn c4 o.root o.mixed o.point o.ps o.rows o.nodes at' → SpgOk q n dd → PCh N0 q n w c D →
        Calls Tryz.prog 25 #[.pointer (some ⟨s, 0, none⟩), .pointer (some ⟨c, 0, none⟩), .pointer (some ⟨d, 0, none⟩), .int .i64 v, .slice a4 at'.length c4, .int .i64 a, .agg (plC A o)] w fun e w' => e = .returned (.tuple #[.int .i64 m, .bool k]) ∧ w.grownBy w' (some c)) ∧
      (∀ (rc : Nat) (w : World), 5 ≤ q → q ≤ 2147483647 → Spo.PowIs q n → 0 ≤ r → r < q → 0 ≤ t → t < q → RCh q w rc D → (∀ W, w.grownBy W (some rc) → PlW W A o ∧ Lst W.heap.size W a4 c4 at') →
        Calls Tryz.prog 27 #[.pointer (some ⟨rc, 0, none⟩), .agg #[.int .i64 q, .int .i64 (N : Int), .int .i64 t, .int .i64 r], .int .i64 v, .slice a4 at'.length c4, .int .i64 a, .agg (plC A o)] w fun e w' => e = .returned (.tuple #[.int .i64 m, .bool k]) ∧ w.grownBy w' (some rc)) := by
  have hN1 : 1 ≤ N := by rw [hN]; exact Nat.two_pow_pos k0
  have hN2 : N ≤ 65536 := by rw [hN]; exact two_pow_le hk
  by_cases hK : PlK N v a at'.length o.root.length o.mixed.length o.point.length
  · obtain ⟨v', rfl, h12, hf, hl4, ⟨k1, k2⟩, hr4, hmx, hpt⟩ := hK
    obtain ⟨a', rfl⟩ := Int.eq_ofNat_of_zero_le (show 0 ≤ a by omega)
    by_cases ht : pgSh q n N (v' / 2) o.root o.ps (pgP q n N a' (pgE q n o.mixed o.point (pgD q n o.root at' D))) o.rows o.nodes = true ∧ agB q N r t o.mixed o.ps o.rows (fun l => evz q l (zat (pgD q n o.root at' D) 0)) = true ∧ agB q N r t o.point o.ps o.rows (fun l => dtz q l.length l (wgL q (at'.take (v' / 2)))) = true
    · refine ⟨dtz q o.point.length o.point (wgL q (at'.drop (v' / 2))), true, fun N0 dd sb s b d c w O ok hP => ?_, fun rc w h5 h4 hpn hr0 hr1 ht0 ht1 hch RO => ?_⟩
      · refine (pcheck_yes N0 q n dd sb s b d N v' a' c r t A.a1 A.a2 A.a3 A.ap A.ar A.an a4 A.c1 A.c2 A.c3 A.cp A.cr A.cn c4 o.root o.mixed o.point o.ps o.rows o.nodes at' D w O F ok hP hD h12 hf hl4 (by omega) (by omega) hr4 hmx hpt).mono ?_
        rintro e w' ⟨hy, _, _, hg⟩
        exact ⟨hy ht, hg⟩
      · refine (rcheck12_yes q n rc N v' a' r t A o a4 c4 at' D w h5 h4 hpn hr0 hr1 ht0 ht1 hN1 hN2 hch hD RO F h12 hf hl4 (by omega) (by omega) hr4 hmx hpt).mono ?_
        rintro e w' ⟨hy, _, hg⟩
        exact ⟨hy ht, hg⟩
    · refine ⟨0, false, fun N0 dd sb s b d c w O ok hP => ?_, fun rc w h5 h4 hpn hr0 hr1 ht0 ht1 hch RO => ?_⟩
      · refine (pcheck_yes N0 q n dd sb s b d N v' a' c r t A.a1 A.a2 A.a3 A.ap A.ar A.an a4 A.c1 A.c2 A.c3 A.cp A.cr A.cn c4 o.root o.mixed o.point o.ps o.rows o.nodes at' D w O F ok hP hD h12 hf hl4 (by omega) (by omega) hr4 hmx hpt).mono ?_
        rintro e w' ⟨_, hy, _, hg⟩
        exact ⟨hy ht, hg⟩
      · refine (rcheck12_yes q n rc N v' a' r t A o a4 c4 at' D w h5 h4 hpn hr0 hr1 ht0 ht1 hN1 hN2 hch hD RO F h12 hf hl4 (by omega) (by omega) hr4 hmx hpt).mono ?_
        rintro e w' ⟨_, hy, hg⟩
        exact ⟨hy ht, hg⟩
  · refine ⟨0, false, fun N0 dd sb s b d c w O ok hP => ?_, fun rc w h5 h4 hpn hr0 hr1 ht0 ht1 hch RO => ?_⟩
    · have D0 := O.dm w (gb_below (Below.refl _ _))
      refine (pcheck_no b d N c s v a r t A.a1 A.a2 A.a3 a4 A.c1 A.c2 A.c3 c4 o.root.length o.mixed.length o.point.length at'.length _ _ _ w D0.da D0.pos.2 hK).mono ?_
      rintro e w' ⟨rfl, hb⟩
      exact ⟨rfl, gb_below hb⟩
    · refine (rcheck12_no q rc N r t v a A.a1 A.a2 A.a3 a4 A.c1 A.c2 A.c3 c4 o.root.length o.mixed.length o.point.length at'.length _ _ _ w hN2 hv1 hv2 hK).mono ?_
      rintro e w' ⟨rfl, hb⟩
      exact ⟨rfl, gb_below hb⟩

set_option maxRecDepth 100000 in
set_option maxHeartbeats 8000000 in
theorem echecks_good (q k0 : Nat) (s v asked : Int) (a3 a5 : Option Addr) (c3 c5 : Nat) (label at' : List Int) (A : PlA) (o : Plg) (w : World) (hg : GoodT q k0 s) (hs1 : -9223372036854775808 ≤ s) (hs2 : s ≤ 9223372036854775807) (hv1 : -9223372036854775808 ≤ v) (hv2 : v ≤ 9223372036854775807)
    (hll : label.length ≤ 17592186043904) (hfl : Fits label) (h3 : Lst w.heap.size w a3 c3 label) (h5 : Lst w.heap.size w a5 c5 at') (hA : PlW w A o) (FA : PlF o.root o.mixed o.point o.ps o.rows o.nodes at') :
    Calls Tryz.prog 5 #[.int .i64 q, .int .i64 ((2 ^ k0 : Nat) : Int), .int .i64 s, .slice a3 label.length c3, .int .i64 v, .slice a5 at'.length c5, .int .i64 asked, .agg (plC A o)] w fun e w' => e = .returned (.bool true) ∧ Below w.heap.size w w' := by
  have h23 := hg.h23
  have hq3 := hg.at'.h3
  have hq4 := hg.at'.h4
  have hpr := hid hg.at'.pr
  have hkN := two_pow_le hg.at'.hk
  have hk16 := hg.at'.hk
  obtain ⟨W0, hW0⟩ : ∃ W0, W0 = w.alloc (.cells (plC A o) 51) := ⟨_, rfl⟩
  have hb0 : Below w.heap.size w W0 := by rw [hW0]; exact (Below.refl _ _).alloc (Nat.le_refl _) _
  obtain ⟨PA, hPA⟩ : ∃ PA, PA = w.heap.size := ⟨_, rfl⟩
  have hsA : W0.heap[PA]? = some (.cells (plC A o) 51 (0, 0)) := by rw [hW0, hPA]; exact heap_alloc_new w _
  have HKA : Hid (∀ W, Below W0.heap.size W0 W → W.cell? ⟨PA, 0, none⟩ = some (.slice A.a1 o.root.length A.c1) ∧ W.cell? ⟨PA, 1, none⟩ = some (.slice A.a2 o.mixed.length A.c2) ∧ W.cell? ⟨PA, 2, none⟩ = some (.slice A.a3 o.point.length A.c3) ∧ W.cell? ⟨PA, 3, none⟩ = some (.slice A.ap o.ps.length A.cp) ∧ W.cell? ⟨PA, 4, none⟩ = some (.slice A.ar o.rows.length A.cr) ∧ W.cell? ⟨PA, 5, none⟩ = some (.slice A.an o.nodes.length A.cn)) := fun W hW => by
    have e1 := (hW.block PA (Array.getElem?_eq_some_iff.1 hsA).1).trans hsA
    refine ⟨?_, ?_, ?_, ?_, ?_, ?_⟩ <;> simp [World.cell?, e1]
  have HTH := hid (things_yes q k0 s W0 hg hs1 hs2)
  have HA := hid hA
  have H3 := hid h3
  have H5 := hid h5
  have HFA := hid FA
  have HFL := hid hfl
  have HB0 := hid hb0
  obtain ⟨N, hN⟩ : ∃ N, N = 2 ^ k0 := ⟨_, rfl⟩
  have HNK := hid hN
  simp only [← hN] at HTH hkN ⊢
  obtain ⟨t, ht⟩ : ∃ t, t = s % (q : Int) := ⟨_, rfl⟩
  rw [← ht] at HTH
  obtain ⟨t0, t1⟩ := emod_bounds s q hq3
  rw [← ht] at t0 t1
  have HNW := hid (fun W => rdnew_any q (N : Int) s W hpr.out hq3 hq4 (by omega) (by omega) hs1 hs2)
  rw [← ht] at HNW
  have HW0 := hid hW0
  have HPAE := hid hPA
  clear hg hA h3 h5 FA hfl hb0 hsA hN ht hW0 hPA
  go_enter Tryz.func5, Tryz.ntmps5
  go_wp2_with fail
  rw [← HPAE.out, ← HW0.out]
  clear HW0 HPAE
  refine HTH.out.mono ?_
  rintro e w1 ⟨sp, b, n, dd, d, r, rfl, hok, hsp, hrt, hD, hb1⟩
  have HS1 := hid hsp
  have HD1 := hid hD
  have HB1 := hid hb1
  have HOK := hid hok
  have HRT := hid hrt
  have hsl := hsp.lt
  have hbl := hsp.ltb
  have hdl := hD.dlt
  have HC1 : Hid (Below w.heap.size w w1) := HB0.out.trans (hb1.mono HB0.out.size)
  have HN1 := hid (cnew_any w1.heap.size q n dd sp b c3 a3 label w1 hok hsp (Nat.le_refl _) hsl hbl hll HFL.out ((H3.out.below HC1.out).mono HC1.out.size))
  have hDG : Dig (digl q n (2 :: label)) := dig_digl hq3 hq4 _ _
  obtain ⟨m0, kk, HBP, HBR⟩ := checks_both q n N k0 r t v asked A o a5 c5 at' (digl q n (2 :: label)) HFA.out hDG HNK.out hk16 hv1 hv2
  have HBP' := hid HBP
  have HBR' := hid HBR
  clear hok hsp hrt hD hb1 HTH HBP HBR
  go_wp2_with fail
  refine HN1.out.mono ?_
  rintro e w2 ⟨c, rfl, hc2, hP2, hb2⟩
  have HB2 := hid hb2
  have HC2 : Hid (Below w.heap.size w w2) := HC1.out.trans (hb2.mono HC1.out.size)
  have hcg := hP2.ge
  have hw01 : w.heap.size ≤ w1.heap.size := HC1.out.size
  have HCA := hid (HBP'.out w1.heap.size dd b sp b d c w2 (plO_of HA.out H5.out HC2.out hcg hw01 hb2.size (HS1.out.keep hb2) hsl hbl (HD1.out.step hb2) hbl hdl) HOK.out hP2)
  obtain ⟨x0, x1, x2, x3, x4, x5⟩ := HKA.out w2 (HB1.out.trans (hb2.mono HB1.out.size))
  clear hP2 hb2 HN1 HBP'
  go_wp2_with fail
  refine HCA.out.mono ?_
  rintro e w3 ⟨rfl, hg3⟩
  have hB3 : Below w1.heap.size w2 w3 := gb_to hg3 hcg HB2.out.size
  have HB3 : Hid (Below w1.heap.size w1 w3) := HB2.out.trans hB3
  have HC3 : Hid (Below w.heap.size w w3) := HC2.out.trans (hB3.mono hw01)
  clear hg3 hB3 HCA HB2 HC2 x0 x1 x2 x3 x4 x5
  go_wp2_with fail
  refine (HNW.out w3).mono ?_
  rintro e w4 ⟨r2, rfl, hr2, hb4⟩
  obtain rfl : r2 = r := rootIs_unique hr2 HRT.out
  have hba : Below w4.heap.size w4 (w4.alloc (.cells #[.int .i64 q, .int .i64 (N : Int), .int .i64 t, .int .i64 r2] 39)) := (Below.refl _ _).alloc (Nat.le_refl _) _
  have HQ4 : Hid ((w4.alloc (.cells #[.int .i64 q, .int .i64 (N : Int), .int .i64 t, .int .i64 r2] 39)).heap[w4.heap.size]? = some (.cells #[.int .i64 q, .int .i64 (N : Int), .int .i64 t, .int .i64 r2] 39 (0, 0))) := heap_alloc_new w4 _
  have HB4 : Hid (Below w1.heap.size w1 (w4.alloc (.cells #[.int .i64 q, .int .i64 (N : Int), .int .i64 t, .int .i64 r2] 39))) := (HB3.out.trans (hb4.mono HB3.out.size)).trans (hba.mono (Nat.le_trans HB3.out.size hb4.size))
  have HC4 : Hid (Below w.heap.size w (w4.alloc (.cells #[.int .i64 q, .int .i64 (N : Int), .int .i64 t, .int .i64 r2] 39))) := (HC3.out.trans (hb4.mono HC3.out.size)).trans (hba.mono (Nat.le_trans HC3.out.size hb4.size))
  obtain ⟨Q, hQ⟩ : ∃ Q, Q = w4.heap.size := ⟨_, rfl⟩
  obtain ⟨w5, hw5⟩ : ∃ w5, w5 = w4.alloc (.cells #[.int .i64 q, .int .i64 (N : Int), .int .i64 t, .int .i64 r2] 39) := ⟨_, rfl⟩
  rw [← hw5, ← hQ] at HQ4
  rw [← hw5] at HB4 HC4
  have HBG := hid (rbegin_any q n c3 a3 label w5 (by omega) hq4 HOK.out.pw (by omega) HFL.out ((H3.out.below HC4.out).mono HC4.out.size))
  have HW5 := hid hw5
  have HQE := hid hQ
  clear hr2 hb4 hba hQ hw5 HNW HB3 HC3
  go_wp2_with fail
  rw [← HW5.out, ← HQE.out]
  clear HW5 HQE
  refine HBG.out.mono ?_
  rintro e w6 ⟨rc, rfl, hrc, hR6, hb6⟩
  have hQl : Q < w5.heap.size := (Array.getElem?_eq_some_iff.1 HQ4.out).1
  have hq6 := (hb6.block Q hQl).trans HQ4.out
  have z0 := four0 hq6
  have z1 := four1 hq6
  have z2 := four2 hq6
  have z3 := four3 hq6
  have HC6 : Hid (Below w.heap.size w w6) := HC4.out.trans (hb6.mono HC4.out.size)
  obtain ⟨x0, x1, x2, x3, x4, x5⟩ := HKA.out w6 (HB1.out.trans ((HB4.out.trans (hb6.mono HB4.out.size)).mono HB1.out.size))
  have HRC := hid (HBR'.out rc w6 (by omega) hq4 HOK.out.pw (by omega) (HD1.out.hr1) t0 t1 hR6 (fun W hW => by
    have hBB := gb_to hW (show w.heap.size ≤ rc by have := HC4.out.size; omega) HC6.out.size
    have hh := HC6.out.trans hBB
    exact ⟨HA.out.step hh, (H5.out.below hh).mono hh.size⟩))
  have HRCL : Hid (w.heap.size ≤ rc) := by have := HC4.out.size; unfold Hid; omega
  clear hR6 hb6 hq6 HBG HBR'
  go_wp2_with fail
  refine HRC.out.mono ?_
  rintro e w7 ⟨rfl, hg7⟩
  have HBE : Hid (Below w.heap.size w w7) := HC6.out.trans (gb_to hg7 HRCL.out HC6.out.size)
  have hm0 : (m0 == m0) = true := by simp
  have hk0 : (kk == kk) = true := by simp
  clear hg7 HRC x0 x1 x2 x3 x4 x5 z0 z1 z2 z3
  go_wp2_with fail
  go_ret
  exact ⟨by first | rfl | simp, HBE.out⟩

set_option maxRecDepth 100000 in
theorem echecks_walk (p z s v asked : Int) (a3 a5 : Option Addr) (c3 c5 : Nat) (label at' : List Int) (A : PlA) (o : Plg) (w : World) (hL : Laid w) (hp1 : -9223372036854775808 ≤ p) (hp2 : p ≤ 9223372036854775807) (hz1 : -9223372036854775808 ≤ z) (hz2 : z ≤ 9223372036854775807) (hs1 : -9223372036854775808 ≤ s) (hs2 : s ≤ 9223372036854775807) (hv1 : -9223372036854775808 ≤ v) (hv2 : v ≤ 9223372036854775807)
    (hll : label.length ≤ 17592186043904) (hfl : Fits label) (h3 : Lst w.heap.size w a3 c3 label) (h5 : Lst w.heap.size w a5 c5 at') (hA : PlW w A o) (FA : PlF o.root o.mixed o.point o.ps o.rows o.nodes at') :
    Calls Tryz.prog 5 #[.int .i64 p, .int .i64 z, .int .i64 s, .slice a3 label.length c3, .int .i64 v, .slice a5 at'.length c5, .int .i64 asked, .agg (plC A o)] w fun e w' => e = .returned (.bool true) ∧ Below w.heap.size w w' := by
  by_cases hg : Good10 p z s
  · obtain ⟨q, k, rfl, rfl, hg⟩ := hg
    exact echecks_good q k s v asked a3 a5 c3 c5 label at' A o w hg hs1 hs2 hv1 hv2 hll hfl h3 h5 hA FA
  · have HB0 : Hid (Below w.heap.size w (w.alloc (.cells (plC A o) 51))) := (Below.refl _ _).alloc (Nat.le_refl _) _
    have HTH := hid (things_no p z s _ (hL.below HB0.out) hg hp1 hp2 hz1 hz2 hs1 hs2)
    clear h3 h5 hA FA hfl hL
    go_enter Tryz.func5, Tryz.ntmps5
    go_wp2_with fail
    refine HTH.out.mono ?_
    rintro e w1 ⟨rfl, hb1⟩
    have HB1 := hid (HB0.out.trans (hb1.mono HB0.out.size))
    clear hb1
    go_wp2_with fail
    go_ret
    exact ⟨rfl, HB1.out⟩

end Go.Proofs.YtmmlphdekeflfaaGreatDoor
