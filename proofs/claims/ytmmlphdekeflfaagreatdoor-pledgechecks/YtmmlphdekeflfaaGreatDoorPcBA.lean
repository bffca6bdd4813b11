/- PledgeBinds: the walk. attestref12: draw, Fits. -/
import Derived.Test.YtmmlphdekeflfaaGreatDoorPcAW
import Derived.Test.YtmmlphdekeflfaaGreatDoorPcAX
import Derived.Test.YtmmlphdekeflfaaGreatDoorPcAY
import Derived.Test.YtmmlphdekeflfaaGreatDoorLawTBinds
import Derived.Test.YtmmlphdekeflfaaGreatDoorPcAZ
import Derived.Test.YtmmlphdekeflfaaGreatDoorPgH
import Derived.Test.YtmmlphdekeflfaaGreatDoorPcAQ
import Derived.Test.YtmmlphdekeflfaaGreatDoorTres
namespace Go.Proofs.YtmmlphdekeflfaaGreatDoor
open Go.RowKit

/-- a pledge -/
structure Plg where
  root : List Int
  mixed : List Int
  point : List Int
  ps : List Int
  rows : List (List Int)
  nodes : List (List Int)
/-- where a pledge lies -/
structure PlA where
  a1 : Option Addr
  a2 : Option Addr
  a3 : Option Addr
  ap : Option Addr
  ar : Option Addr
  an : Option Addr
  c1 : Nat
  c2 : Nat
  c3 : Nat
  cp : Nat
  cr : Nat
  cn : Nat
/-- a pledge that can be read -/
structure PlW (w : World) (A : PlA) (o : Plg) : Prop where
  l1 : Lst w.heap.size w A.a1 A.c1 o.root
  l2 : Lst w.heap.size w A.a2 A.c2 o.mixed
  l3 : Lst w.heap.size w A.a3 A.c3 o.point
  lp : Lst w.heap.size w A.ap A.cp o.ps
  lr : LstR w.heap.size w A.ar A.cr o.rows
  ln : LstR w.heap.size w A.an A.cn o.nodes
theorem PlW.step {w W : World} {A : PlA} {o : Plg} (h : PlW w A o) (e : Below w.heap.size w W) : PlW W A o :=
  ⟨(h.l1.below e).mono e.size, (h.l2.below e).mono e.size, (h.l3.below e).mono e.size, (h.lp.below e).mono e.size, (h.lr.below e).mono e.size, (h.ln.below e).mono e.size⟩
abbrev plC (A : PlA) (o : Plg) : Array Value := #[.slice A.a1 o.root.length A.c1, .slice A.a2 o.mixed.length A.c2, .slice A.a3 o.point.length A.c3, .slice A.ap o.ps.length A.cp, .slice A.ar o.rows.length A.cr, .slice A.an o.nodes.length A.cn]
/-- what a pledge looks at, out of what lies below the chain -/
theorem plO_of {w0 w : World} {N0 c q n dd sb s b d N : Nat} {r t : Int} {A : PlA} {o : Plg} {a4 : Option Addr} {c4 : Nat} {at' : List Int} (hw : PlW w0 A o) (h4 : Lst w0.heap.size w0 a4 c4 at') (hb : Below w0.heap.size w0 w) (hc : N0 ≤ c) (h0 : w0.heap.size ≤ N0) (hNw : N0 ≤ w.heap.size) (hs : SpgAt w s sb q n dd) (hsN : s < N0) (hbN : sb < N0) (D : DO w q b d N r t) (hb2 : b < N0) (hd2 : d < N0) :
    PlO w c q n dd sb s b d N r t A.a1 A.a2 A.a3 A.ap A.ar A.an a4 A.c1 A.c2 A.c3 A.cp A.cr A.cn c4 o.root o.mixed o.point o.ps o.rows o.nodes at' := by
  have hB : ∀ W, w.grownBy W (some c) → Below N0 w W := fun W g => gb_to g hc hNw
  have hW : ∀ W, w.grownBy W (some c) → Below w0.heap.size w0 W := fun W g => hb.trans ((hB W g).mono h0)
  exact ⟨fun W g => hs.below (hB W g) hsN hbN, fun W g => D.below (hB W g) hb2 hd2, fun W g => (hw.step (hW W g)).l1, fun W g => (hw.step (hW W g)).l2, fun W g => (hw.step (hW W g)).l3, fun W g => (hw.step (hW W g)).lp, fun W g => (hw.step (hW W g)).lr, fun W g => (hw.step (hW W g)).ln, fun W g => (h4.below (hW W g)).mono (hW W g).size⟩

end Go.Proofs.YtmmlphdekeflfaaGreatDoor

namespace Go.Proofs.YtmmlphdekeflfaaGreatDoor
open Go.RowKit

set_option maxRecDepth 100000 in
set_option maxHeartbeats 1000000 in
theorem rdraw12_any (q n r N m : Nat) (D : List Int) (w : World) (h5 : 5 ≤ q) (h4 : q ≤ 2147483647) (hpn : Spo.PowIs q n) (hlen : D.length ≤ 17592186044000) (hfd : Fits D) (hr : RCh q w r D) (hN1 : 1 ≤ N) (hN2 : N ≤ 65536) (hm : m ≤ 1000) :
    Calls Tryz.prog 59 #[.pointer (some ⟨r, 0, none⟩), .int .i64 (N : Int), .int .i64 (m : Int)] w fun e w' => ∃ v, e = .returned v ∧ RCh q w' r (pld q n m D) ∧ w'.ownsRow w.heap.size 3 1 v (pgP q n N m D).length ((pgP q n N m D).map (Value.int .i64)) ∧ w.grownBy w' (some r) := by
  obtain ⟨i0, hi, hz0, hz1, hz2⟩ := info_parts Tryz.infoInt
  have HPN := hid hpn
  have HLN : Hid (∀ i, (pld q n i D).length ≤ 17592186044000) := pld_len hlen
  have HFT : Hid (∀ i, Fits (pld q n i D)) := pld_fits (by omega) h4 hfd
  have hrl := hr.lt
  have HR0 := hid hr
  obtain ⟨h, hh⟩ : ∃ h, h = N := ⟨_, rfl⟩
  have hh1 : 1 ≤ h := by omega
  have hh2 : h ≤ 65536 := by omega
  have HPG : Hid (pgP q n N m D = onc (ls (plz q n N D) m)) := rfl
  rw [HPG.out, ← hh]
  obtain ⟨G, hG⟩ : ∃ G, G = plz q n h D := ⟨_, rfl⟩
  rw [← hG]
  have HGP : Hid (∀ i, G i = (zat (digl q n (4 :: pld q n i D)) 0 * q + zat (digl q n (4 :: pld q n i D)) 1) % (h : Int)) := fun i => by rw [hG]; rfl
  clear hpn hlen hfd hr hG HPG
  subst hh
  go_enter Tryz.func59, Tryz.ntmps59
  go_wp2_with fail
  go_loopw [7, 8] (fun v iv wr => ∃ k : Nat, k ≤ m ∧ iv = .int .i64 k ∧ Hid (RCh q wr r (pld q n k D) ∧ wr.ownsRow w.heap.size 3 1 v (ls G k).length ((ls G k).map (Value.int .i64)) ∧ w.grownBy wr (some r))) (fun _ iv _ => m - (intOf iv).toNat)
  case atStart => exact ⟨0, by omega, rfl, HR0.out, World.ownsRow_nil _ _ _ _, gb_refl _ _⟩
  case round =>
    obtain ⟨k, hk, rfl, hI⟩ := hrel
    by_cases hlt : k < m
    · have hlt2 : (k : Int) < (m : Int) := by omega
      have hks : IntKind.i64.wrap ((k : Int) + 1) = (k : Int) + 1 := by rw [IntKind.wrap_i64]; omega
      have HPL := hid (rplace_new q n r (h : Int) (pld q n k D) wr h5 h4 HPN.out (HLN.out k) (HFT.out k) hI.out.1 (by omega) (by omega))
      rw [← HGP.out k] at HPL
      have HSC := hid (ls_succ G k)
      have HLS := hid (ls_len G k)
      generalize G k = z at *
      have HII := hI
      have hw : w.heap.size ≤ wr.heap.size := hI.out.2.2.size
      clear hI
      go_wp2_with fail
      refine HPL.out.mono ?_
      rintro e w1 ⟨rfl, hrc, hg1⟩
      have hob : ∀ (v : Value) (xs : List Value) (n' : Nat), wr.ownsRow w.heap.size 3 1 v n' xs → v.ownBlock = none ∨ v.ownBlock ≠ some r := fun v xs n' ho => by
        rcases ho.2 with ⟨rfl, _⟩ | ⟨g, cap, cur, rfl, _, hg, _⟩
        · exact .inl rfl
        · right
          intro e
          simp [Value.ownBlock] at e
          subst e
          exact HII.out.1.not _ _ hg
      have hown := HII.out.2.1.kept hg1 (hob _ _ _ HII.out.2.1)
      have holt := HII.out.2.1.lt
      have hg0 := gb_trans HII.out.2.2 hg1
      have hne := hob _ _ _ HII.out.2.1
      have hrn := hrc.below ((Below.refl _ _).alloc (Nat.le_refl _) (.cells #[.int .i64 z] 3))
      have hs1 := hg1.size
      generalize ls G k = Z at *
      have hZ : Z.length ≤ 17592186043904 := by rw [HLS.out]; omega
      clear HII HPL hrc hg1 hob
      go_wp2_with (at_builtin; refine wpList_append_own _ rfl _ _ 23 rfl w.heap.size 3 i0 (.int .i64 0) 1 8 Tryz.underlying23 hi hz0 hz1 hz2 rfl (by decide) _ _ _ rfl (hown.alloc _) ⟨w1.heap.size, 0, none⟩ 1 1 [.int .i64 z] rfl rfl ?c1 ?c2 ?c3 ?c4 ?c5 ?_)
      case c1 =>
        intro j u hj
        match j, hj with
        | 0, hj => simp at hj; subst hj; simp [Addr.add]
      case c2 => intro u hu; simp at hu; subst hu; rfl
      case c3 => unfold maxLen; omega
      case c4 => omega
      case c5 => simp; omega
      intro v' w5 hown2 hgrow _
      have hown3 := owns_succ hown2
      have HE : Hid (RCh q w5 r (pld q n (k + 1) D) ∧ w5.ownsRow w.heap.size 3 1 v' (ls G (k + 1)).length ((ls G (k + 1)).map (Value.int .i64)) ∧ w.grownBy w5 (some r)) := by
        refine ⟨hrn.own hgrow (fun e => ?_) (fun g hg => (holt g hg).2), by rw [HSC.out]; exact hown3, ?_⟩
        · rcases hne with h0 | h0
          · rw [h0] at e; cases e
          · exact h0 e.symm
        · have hg2 : (w1.alloc (.cells #[.int .i64 z] 3)).heap.size = w1.heap.size + 1 := by simp
          refine ⟨hgrow.os.trans hg0.os, hgrow.tape.trans hg0.tape, hgrow.output.trans hg0.output, by have := hgrow.size; have := hg0.size; omega, fun b hb hbr => ?_⟩
          have := hg0.size
          refine (hgrow.block b (by omega) (fun e => ?_)).trans ((Below.heap_alloc w1 _ b (by omega)).trans (hg0.block b hb hbr))
          have := (holt b e.symm).1
          omega
      clear hown2 hown3 hgrow hown holt hg0 hne hrn
      go_wp2_with fail
      go_roundw
      case rel => exact ⟨k + 1, by omega, by go_num, HE⟩
      case measure => simp [intOf]; omega
    · obtain rfl : k = m := by omega
      have hlt2 : ¬ (k : Int) < (k : Int) := by omega
      obtain ⟨av, cv, hv, hlv⟩ := lst_of_owns hI.out.2.1
      rw [ls_len] at hv
      subst hv
      have HON := hid (ronce_any cv av (ls G k) wr (by rw [ls_len]; omega) hlv.row)
      rw [ls_len] at HON
      have HRC := hid hI.out.1
      have HGR := hid hI.out.2.2
      clear hI hlv
      go_wp2_with fail
      refine HON.out.mono ?_
      rintro e w2 ⟨v2, os, rfl, hos, hown, hb2⟩
      have HE : Hid (RCh q w2 r (pld q n k D) ∧ w2.ownsRow w.heap.size 3 1 v2 (onc (ls G k)).length ((onc (ls G k)).map (Value.int .i64)) ∧ w.grownBy w2 (some r)) := by
        rw [← onc_eq hos]
        exact ⟨HRC.out.below hb2, hown.mono HGR.out.size, gb_trans HGR.out (gb_below hb2)⟩
      clear hos hown hb2 HON
      go_wp2_with fail
      go_ret
      exact ⟨v2, rfl, HE.out⟩


set_option maxRecDepth 100000 in
set_option maxHeartbeats 1000000 in
theorem rfits12_any (q N : Nat) (s r v : Int) (w : World) (hN : N ≤ 65536) (hv1 : -9223372036854775808 ≤ v) (hv2 : v ≤ 9223372036854775807) :
    Calls Tryz.prog 17 #[.agg #[.int .i64 q, .int .i64 (N : Int), .int .i64 s, .int .i64 r], .int .i64 v] w fun e w' => e = .returned (.bool (decide (0 ≤ v ∧ v ≤ 12 ∧ 2 ^ (v.toNat - v.toNat / 2) ≤ N / 2))) ∧ Below w.heap.size w w' := by
  obtain ⟨W0, hW0⟩ : ∃ W0, W0 = w.alloc (.cells #[.int .i64 q, .int .i64 (N : Int), .int .i64 s, .int .i64 r] 39) := ⟨_, rfl⟩
  have hb0 : Below w.heap.size w W0 := by rw [hW0]; exact (Below.refl _ _).alloc (Nat.le_refl _) _
  have hs0 : W0.heap[w.heap.size]? = some (.cells #[.int .i64 q, .int .i64 (N : Int), .int .i64 s, .int .i64 r] 39 (0, 0)) := by rw [hW0]; exact heap_alloc_new w _
  have HB0 := hid hb0
  by_cases h0 : v < 0
  · rw [decide_eq_false (show ¬ (0 ≤ v ∧ v ≤ 12 ∧ 2 ^ (v.toNat - v.toNat / 2) ≤ N / 2) from fun h => by omega)]
    have HW0 := hid hW0
    clear hb0 hs0 hW0
    go_enter Tryz.func17, Tryz.ntmps17
    go_wp2_with fail
    rw [← HW0.out]
    go_ret
    exact ⟨rfl, HB0.out⟩
  · by_cases h12 : 12 < v
    · rw [decide_eq_false (show ¬ (0 ≤ v ∧ v ≤ 12 ∧ 2 ^ (v.toNat - v.toNat / 2) ≤ N / 2) from fun h => by omega)]
      have HW0 := hid hW0
      clear hb0 hs0 hW0
      go_enter Tryz.func17, Tryz.ntmps17
      go_wp2_with fail
      rw [← HW0.out]
      go_ret
      exact ⟨rfl, HB0.out⟩
    · obtain ⟨v', rfl⟩ := Int.eq_ofNat_of_zero_le (show 0 ≤ v by omega)
      obtain ⟨lo, hlo⟩ : ∃ lo, lo = v' - v' / 2 := ⟨_, rfl⟩
      have HD : Hid (decide (0 ≤ (v' : Int) ∧ (v' : Int) ≤ 12 ∧ 2 ^ ((v' : Int).toNat - (v' : Int).toNat / 2) ≤ N / 2) = decide (2 ^ lo ≤ N / 2)) := by
        unfold Hid
        rw [Int.toNat_natCast, ← hlo]
        congr 1
        simp
        omega
      rw [HD.out]
      have q1 : (v' : Int).tdiv 2 = ((v' / 2 : Nat) : Int) := by rw [Int.tdiv_eq_ediv_of_nonneg (by omega)]; omega
      have q0 : (v' : Int) / 2 = ((v' / 2 : Nat) : Int) := by omega
      have q2 : IntKind.i64.wrap ((v' / 2 : Nat) : Int) = ((v' / 2 : Nat) : Int) := by rw [IntKind.wrap_i64]; omega
      have q3 : (v' : Int) - ((v' / 2 : Nat) : Int) = (lo : Int) := by omega
      have q4 : IntKind.i64.wrap (lo : Int) = (lo : Int) := by rw [IntKind.wrap_i64]; omega
      have n0 : (N : Int).tdiv 2 = ((N / 2 : Nat) : Int) := by rw [Int.tdiv_eq_ediv_of_nonneg (by omega)]; omega
      have n1 : (N : Int) / 2 = ((N / 2 : Nat) : Int) := by omega
      have n2 : IntKind.i64.wrap ((N / 2 : Nat) : Int) = ((N / 2 : Nat) : Int) := by rw [IntKind.wrap_i64]; omega
      have HTW := hid (rtwo_any lo W0 (by omega))
      obtain ⟨X, hX⟩ : ∃ X, X = 2 ^ lo := ⟨_, rfl⟩
      rw [← hX] at HTW ⊢
      have z1 : W0.cell? ⟨w.heap.size, 1, none⟩ = some (.int .i64 (N : Int)) := by simp [World.cell?, hs0]
      generalize v' / 2 = hh at *
      generalize N / 2 = H at *
      have HW0 := hid hW0
      clear hb0 hs0 hW0 HD hX hlo
      go_enter Tryz.func17, Tryz.ntmps17
      go_wp2_with fail
      rw [← HW0.out]
      clear HW0
      refine HTW.out.mono ?_
      rintro e w1 ⟨rfl, hw1⟩
      have hw1' := hw1.symm
      subst hw1'
      clear hw1
      go_wp2_with fail
      go_ret
      exact ⟨rfl, HB0.out⟩

end Go.Proofs.YtmmlphdekeflfaaGreatDoor
