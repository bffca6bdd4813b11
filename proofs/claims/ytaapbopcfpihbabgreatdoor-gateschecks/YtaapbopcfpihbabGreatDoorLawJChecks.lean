/- The law GatesChecks: its walk. -/
import Derived.Test.YtaapbopcfpihbabGreatDoorGuG
import Derived.Test.YtaapbopcfpihbabGreatDoorGuI
import Derived.Test.YtaapbopcfpihbabGreatDoorGkAG
import Derived.Test.YtaapbopcfpihbabGreatDoorFld
namespace Go.Proofs.YtaapbopcfpihbabGreatDoor
open Go.RowKit

set_option maxRecDepth 100000 in
set_option maxHeartbeats 4000000 in
theorem jchecks_good (q cL co cR cS : Nat) (wide : Int) (aL ao aR aS : Option Addr) (lys : List (List GatZ)) (outs : List Int) (Rs : List (List (List Int))) (Ls : List (List Int)) (w : World) (hT : TabAt 2 Lib.deBruijn64tab w) (h23 : 23 ≤ q) (h4 : q ≤ 2147483647) (hpr : Num.Prime q) (hB : CirB lys) (hl : LstGG w.heap.size w aL cL lys) (lo : Lst w.heap.size w ao co outs) (fo : Fits outs) (hRs : LstRR w.heap.size w aR cR Rs) (hLs : LstR w.heap.size w aS cS Ls) (hLB : LayB Rs Ls) :
    Calls Tryz.prog 3 #[.int .i64 (q : Int), .agg #[.int .i64 wide, .slice aL lys.length cL], .slice ao outs.length co, .agg #[.slice aR Rs.length cR, .slice aS Ls.length cS]] w fun e w' => e = .returned (.bool true) ∧ Below w.heap.size w w' := by
  have h3 : 3 ≤ q := by omega
  obtain ⟨nL, hnL⟩ : ∃ nL, nL = lys.length := ⟨_, rfl⟩
  obtain ⟨no, hno⟩ : ∃ no, no = outs.length := ⟨_, rfl⟩
  obtain ⟨nR, hnR⟩ : ∃ nR, nR = Rs.length := ⟨_, rfl⟩
  obtain ⟨nS, hnS⟩ : ∃ nS, nS = Ls.length := ⟨_, rfl⟩
  obtain ⟨W1, hW1⟩ : ∃ W1, W1 = (w.alloc (.cells #[.int .i64 wide, .slice aL nL cL] 24)).alloc (.cells #[.slice aR nR cR, .slice aS nS cS] 29) := ⟨_, rfl⟩
  obtain ⟨G, hG⟩ : ∃ G, G = w.heap.size := ⟨_, rfl⟩
  obtain ⟨L, hL⟩ : ∃ L, L = w.heap.size + 1 := ⟨_, rfl⟩
  have hb1 : Below w.heap.size w W1 := by rw [hW1]; exact ((Below.refl _ _).alloc (Nat.le_refl _) _).alloc (by simp) _
  have hz1 : W1.heap.size = w.heap.size + 2 := by rw [hW1]; simp
  have hs1 : W1.heap[G]? = some (.cells #[.int .i64 wide, .slice aL nL cL] 24 (0, 0)) := by
    rw [hW1, hG]
    exact (hao _ _ (by simp)).trans (heap_alloc_new w _)
  have hs2 : W1.heap[L]? = some (.cells #[.slice aR nR cR, .slice aS nS cS] 29 (0, 0)) := by
    rw [hW1, hL]
    have := heap_alloc_new (w.alloc (.cells #[.int .i64 wide, .slice aL nL cL] 24)) (.cells #[.slice aR nR cR, .slice aS nS cS] 29)
    simpa using this
  have HCC : Hid (∀ W, Below W1.heap.size W1 W → (W.cell? ⟨G, 0, none⟩ = some (.int .i64 wide) ∧ W.cell? ⟨G, 1, none⟩ = some (.slice aL nL cL)) ∧ W.cell? ⟨L, 0, none⟩ = some (.slice aR nR cR) ∧ W.cell? ⟨L, 1, none⟩ = some (.slice aS nS cS)) := fun W hW => by
    have e1 := (hW.block G (by omega)).trans hs1
    have e2 := (hW.block L (by omega)).trans hs2
    exact ⟨⟨by simp [World.cell?, e1], by simp [World.cell?, e1]⟩, by simp [World.cell?, e2], by simp [World.cell?, e2]⟩
  have HBW : Hid (∀ W, Below W1.heap.size W1 W → Below w.heap.size w W) := fun W hW => hb1.trans (hW.mono (by omega))
  have HSY := hid (sponge_yes q W1 h23 h4 hpr)
  have HPC : Hid (∀ (W W0 : World) (sp b n d : Nat), SpgOk q n d → SpgAt W0 sp b q n d → Below W1.heap.size W1 W0 → Below W0.heap.size W0 W → Calls Tryz.prog 6 #[.pointer (some ⟨sp, 0, none⟩), .agg #[.int .i64 wide, .slice aL nL cL], .slice ao no co, .agg #[.slice aR nR cR, .slice aS nS cS]] W fun e w' => ∃ a' z' c' v' t', e = .returned (.tuple #[.slice a' z'.length c', .int .i64 v', .bool t']) ∧ Lst w'.heap.size w' a' c' z' ∧ z'.length ≤ 6 ∧ ((GcO q n wide lys outs Rs Ls → z' = (gst q n wide lys Rs Ls (gs0 q n wide lys outs) lys.length).z ∧ v' = (gst q n wide lys Rs Ls (gs0 q n wide lys outs) lys.length).c ∧ t' = true) ∧ (¬ GcO q n wide lys outs Rs Ls → z' = [] ∧ v' = 0 ∧ t' = false)) ∧ Below W.heap.size W w') := fun W W0 sp b n d ok hs h0 hW => by
    have hb0 := HBW.out W0 h0
    have hb := hb0.trans (hW.mono hb0.size)
    have hsW := hs.below hW hs.lt hs.ltb
    have hIT : InT q b W := ⟨⟨hpr, h3, h4, hsW.p⟩, tabu_below hT hb⟩
    rw [hnL, hno, hnR, hnS]
    by_cases hGs : GsO wide lys outs Rs Ls
    · refine (gcheck_yes q n d sp b cL co cR cS wide aL ao aR aS lys outs Rs Ls W ok hsW h23 hIT hB (hl.step hb) ((lo.below hb).mono hb.size) fo ⟨fun k hk => by obtain ⟨b', o', ak, ck, e1, e2, e3, e4⟩ := (hRs.below hb).row k hk; exact ⟨b', o', ak, ck, e1, by have := hb.size; omega, e3, e4.mono hb.size⟩, hRs.room, hRs.nil⟩ ((hLs.below hb).mono hb.size) hLB hGs).mono ?_
      rintro e w' ⟨h1, h2, h5⟩
      by_cases hc : GcO q n wide lys outs Rs Ls
      · obtain ⟨a', c', e1, e2⟩ := h1 hc
        exact ⟨a', _, c', _, true, e1, e2.1, (by have hS := (flt_zero hGs.1).1; rw [(gst_ok h3 h4 n wide lys outs Rs Ls lys.length (Nat.le_refl _)).len]; exact (hS.bn (show lys.length - lys.length ≤ lys.length by omega)).2), ⟨fun _ => ⟨rfl, rfl, rfl⟩, fun h => absurd hc h⟩, h5⟩
      · exact ⟨none, [], 0, 0, false, h2 hc, Lst.none _ _, (by simp), ⟨fun h => absurd h hc, fun _ => ⟨rfl, rfl, rfl⟩⟩, h5⟩
    · refine (gcheck_no sp cL co cR cS wide aL ao aR aS lys outs Rs Ls W hB (hl.step hb) hGs).mono ?_
      rintro e w' ⟨h1, h5⟩
      exact ⟨none, [], 0, 0, false, h1, Lst.none _ _, (by simp), ⟨fun h => absurd h.1 hGs, fun _ => ⟨rfl, rfl, rfl⟩⟩, h5⟩
  have HRC : Hid (∀ (W : World) (n : Nat), Spo.PowIs q n → Below W1.heap.size W1 W → Calls Tryz.prog 7 #[.int .i64 (q : Int), .agg #[.int .i64 wide, .slice aL nL cL], .slice ao no co, .agg #[.slice aR nR cR, .slice aS nS cS]] W fun e w' => ∃ a' z' c' v' t', e = .returned (.tuple #[.slice a' z'.length c', .int .i64 v', .bool t']) ∧ Lst w'.heap.size w' a' c' z' ∧ z'.length ≤ 6 ∧ ((GcO q n wide lys outs Rs Ls → z' = (gst q n wide lys Rs Ls (gs0 q n wide lys outs) lys.length).z ∧ v' = (gst q n wide lys Rs Ls (gs0 q n wide lys outs) lys.length).c ∧ t' = true) ∧ (¬ GcO q n wide lys outs Rs Ls → z' = [] ∧ v' = 0 ∧ t' = false)) ∧ Below W.heap.size W w') := fun W n hpn h0 => by
    have hb := HBW.out W h0
    rw [hnL, hno, hnR, hnS]
    by_cases hGs : GsO wide lys outs Rs Ls
    · refine (rcheck13_yes q n cL co cR cS wide aL ao aR aS lys outs Rs Ls W h23 h4 hpn hB (hl.step hb) ((lo.below hb).mono hb.size) fo ⟨fun k hk => by obtain ⟨b', o', ak, ck, e1, e2, e3, e4⟩ := (hRs.below hb).row k hk; exact ⟨b', o', ak, ck, e1, by have := hb.size; omega, e3, e4.mono hb.size⟩, hRs.room, hRs.nil⟩ ((hLs.below hb).mono hb.size) hLB hGs).mono ?_
      rintro e w' ⟨h1, h2, h5⟩
      by_cases hc : GcO q n wide lys outs Rs Ls
      · obtain ⟨a', c', e1, e2⟩ := h1 hc
        exact ⟨a', _, c', _, true, e1, e2.1, (by have hS := (flt_zero hGs.1).1; rw [(gst_ok h3 h4 n wide lys outs Rs Ls lys.length (Nat.le_refl _)).len]; exact (hS.bn (show lys.length - lys.length ≤ lys.length by omega)).2), ⟨fun _ => ⟨rfl, rfl, rfl⟩, fun h => absurd hc h⟩, h5⟩
      · exact ⟨none, [], 0, 0, false, h2 hc, Lst.none _ _, (by simp), ⟨fun h => absurd h hc, fun _ => ⟨rfl, rfl, rfl⟩⟩, h5⟩
    · refine (rcheck13_no q cL co cR cS wide aL ao aR aS lys outs Rs Ls W hB (hl.step hb) hGs).mono ?_
      rintro e w' ⟨h1, h5⟩
      exact ⟨none, [], 0, 0, false, h1, Lst.none _ _, (by simp), ⟨fun h => absurd h.1 hGs, fun _ => ⟨rfl, rfl, rfl⟩⟩, h5⟩
  have HW1 := hid hW1
  have HGE := hid hG
  have HLE := hid hL
  rw [← hnL, ← hno, ← hnR, ← hnS]
  clear hnL hno hnR hnS hW1 hG hL hs1 hs2 hz1 hb1 hB hl lo fo hRs hLs hLB hT hpr
  go_enter Tryz.func3, Tryz.ntmps3
  go_wp2_with fail
  rw [← HW1.out]
  refine HSY.out.mono ?_
  rintro e w1 ⟨sp, b, n, d, rfl, hok, hat, hb1⟩
  rw [← HLE.out, ← HGE.out]
  obtain ⟨⟨k0, k1⟩, k2, k3⟩ := HCC.out w1 hb1
  have HOK := hid hok
  have HB1 := hid hb1
  have HPX := hid (HPC.out w1 w1 sp b n d hok hat hb1 (Below.refl _ _))
  clear hok hat hb1 HSY HPC
  go_wp2_with fail
  refine HPX.out.mono ?_
  rintro e w2 ⟨a1, z1, c1, v1, t1, rfl, hl1, hz6, hv1, hb2⟩
  have HZ6 := hid hz6
  have HB2 : Hid (Below W1.heap.size W1 w2) := HB1.out.trans (hb2.mono HB1.out.size)
  obtain ⟨⟨k0, k1⟩, k2, k3⟩ := HCC.out w2 HB2.out
  have HRX := hid (HRC.out w2 n HOK.out.pw HB2.out)
  have HL1 := hid hl1
  have HV1 := hid hv1
  clear hl1 hv1 hb2 HPX HRC hz6
  go_wp2_with fail
  refine HRX.out.mono ?_
  rintro e w3 ⟨a2, z2, c2, v2, t2, rfl, hl2, _, hv2, hb3⟩
  have HE : Hid (Below W1.heap.size W1 w3) := HB2.out.trans (hb3.mono HB2.out.size)
  have hsame : z1 = z2 ∧ v1 = v2 ∧ t1 = t2 := by
    by_cases hc : GcO q n wide lys outs Rs Ls
    · obtain ⟨e1, e2, e3⟩ := HV1.out.1 hc
      obtain ⟨e4, e5, e6⟩ := hv2.1 hc
      exact ⟨e1.trans e4.symm, e2.trans e5.symm, e3.trans e6.symm⟩
    · obtain ⟨e1, e2, e3⟩ := HV1.out.2 hc
      obtain ⟨e4, e5, e6⟩ := hv2.2 hc
      exact ⟨e1.trans e4.symm, e2.trans e5.symm, e3.trans e6.symm⟩
  obtain ⟨rfl, rfl, rfl⟩ := hsame
  have HIN : Hid (Calls Tryz.prog 8 #[.slice a1 z1.length c1, .slice a2 z1.length c2] w3 fun e w' => e = .returned (.bool true) ∧ ∃ nd, w' = w3.drewN nd) := by
    exact ints_same w2.heap.size w3.heap.size z1 a1 a2 c1 c2 w3 (HL1.out.below hb3).row hl2.row (by have := HZ6.out; omega)
  obtain ⟨nz, hnz⟩ : ∃ nz, nz = z1.length := ⟨_, rfl⟩
  rw [← hnz] at HIN ⊢
  clear hl2 hv2 hb3 HL1 HV1 HRX hnz k0 k1 k2 k3
  go_wp2_with fail
  refine HIN.out.mono ?_
  rintro e w4 ⟨rfl, nd, rfl⟩
  have HE4 : Hid (Below w.heap.size w (w3.drewN nd)) := HBW.out _ (below_drewN HE.out nd)
  have tv : (v1 == v1) = true := by simp
  have tt : (t1 == t1) = true := by simp
  clear HE HIN
  go_wp2_with fail
  go_ret
  exact ⟨rfl, HE4.out⟩

set_option maxRecDepth 100000 in
set_option maxHeartbeats 2000000 in
theorem jchecks_no (p : Int) (cL nL no co nR cR nS cS : Nat) (wide : Int) (aL ao aR aS : Option Addr) (w : World) (hL : Laid w) (hno : ¬ GoodS p) (hp1 : -9223372036854775808 ≤ p) (hp2 : p ≤ 9223372036854775807) :
    Calls Tryz.prog 3 #[.int .i64 p, .agg #[.int .i64 wide, .slice aL nL cL], .slice ao no co, .agg #[.slice aR nR cR, .slice aS nS cS]] w fun e w' => e = .returned (.bool true) ∧ Below w.heap.size w w' := by
  obtain ⟨W1, hW1⟩ : ∃ W1, W1 = (w.alloc (.cells #[.int .i64 wide, .slice aL nL cL] 24)).alloc (.cells #[.slice aR nR cR, .slice aS nS cS] 29) := ⟨_, rfl⟩
  have hb1 : Below w.heap.size w W1 := by rw [hW1]; exact ((Below.refl _ _).alloc (Nat.le_refl _) _).alloc (by simp) _
  have HSN := hid (sponge_no p W1 (hL.below hb1) hno hp1 hp2)
  have HB1 := hid hb1
  have HW1 := hid hW1
  clear hb1 hW1 hL hno hp1 hp2
  go_enter Tryz.func3, Tryz.ntmps3
  go_wp2_with fail
  rw [← HW1.out]
  refine HSN.out.mono ?_
  rintro e w1 ⟨rfl, hb1⟩
  have HE : Hid (Below w.heap.size w w1) := HB1.out.trans (hb1.mono HB1.out.size)
  clear hb1 HSN
  go_wp2_with fail
  go_ret
  exact ⟨rfl, HE.out⟩

theorem jchecks_walk (p : Int) (cL co cR cS : Nat) (wide : Int) (aL ao aR aS : Option Addr) (lys : List (List GatZ)) (outs : List Int) (Rs : List (List (List Int))) (Ls : List (List Int)) (w : World) (hL : Laid w) (hT : TabAt 2 Lib.deBruijn64tab w) (hp1 : -9223372036854775808 ≤ p) (hp2 : p ≤ 9223372036854775807) (hB : CirB lys) (hl : LstGG w.heap.size w aL cL lys) (lo : Lst w.heap.size w ao co outs) (fo : Fits outs) (hRs : LstRR w.heap.size w aR cR Rs) (hLs : LstR w.heap.size w aS cS Ls) (hLB : LayB Rs Ls) :
    Calls Tryz.prog 3 #[.int .i64 p, .agg #[.int .i64 wide, .slice aL lys.length cL], .slice ao outs.length co, .agg #[.slice aR Rs.length cR, .slice aS Ls.length cS]] w fun e w' => e = .returned (.bool true) ∧ Below w.heap.size w w' := by
  by_cases hg : GoodS p
  · obtain ⟨⟨hq3, hq4, hqp⟩, h23⟩ := hg
    obtain ⟨q, rfl⟩ := Int.eq_ofNat_of_zero_le (show 0 ≤ p by omega)
    rw [Int.toNat_natCast] at hqp
    exact jchecks_good q cL co cR cS wide aL ao aR aS lys outs Rs Ls w hT (by omega) (by omega) hqp hB hl lo fo hRs hLs hLB
  · exact jchecks_no p cL lys.length outs.length co Rs.length cR Ls.length cS wide aL ao aR aS w hL hg hp1 hp2

end Go.Proofs.YtaapbopcfpihbabGreatDoor
