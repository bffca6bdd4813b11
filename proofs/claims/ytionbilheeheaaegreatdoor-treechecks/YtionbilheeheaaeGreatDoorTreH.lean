/- attestref3: Check. -/
import Derived.Test.YtionbilheeheaaeGreatDoorTreG
import Derived.Test.YtionbilheeheaaeGreatDoorRefs
import Derived.StillTailTactics
namespace Go.Proofs.YtionbilheeheaaeGreatDoor
open Go.RowKit

/-- places ascending below N -/
def AscN (N : Int) (ps : List Int) : Prop := ∀ j, j < ps.length → 0 ≤ zat ps j ∧ zat ps j < N ∧ (0 < j → zat ps (j - 1) < zat ps j)
instance (N : Int) (ps : List Int) : Decidable (AscN N ps) := by unfold AscN; infer_instance

/-- what Check answers -/
def chkf (q n : Nat) (root : List Int) (N : Int) (ps : List Int) (rows nodes : List (List Int)) : Bool :=
  decide (1 ≤ N ∧ N ≤ 65536 ∧ rows.length = ps.length ∧ root.length = 4 ∧ AscN N ps) &&
    (samb q (upf q n ps rows nodes N.toNat 0 N.toNat 0 false).1 root && !(upf q n ps rows nodes N.toNat 0 N.toNat 0 false).2.2 && (upf q n ps rows nodes N.toNat 0 N.toNat 0 false).2.1 == nodes.length)
theorem chkf_no {q n : Nat} {root : List Int} {N : Int} {ps : List Int} {rows nodes : List (List Int)} (h : ¬ (1 ≤ N ∧ N ≤ 65536 ∧ rows.length = ps.length ∧ root.length = 4 ∧ AscN N ps)) : chkf q n root N ps rows nodes = false := by
  unfold chkf
  rw [decide_eq_false h]
  rfl
theorem chkf_yes {q n : Nat} {root : List Int} {N : Int} {ps : List Int} {rows nodes : List (List Int)} (h : 1 ≤ N ∧ N ≤ 65536 ∧ rows.length = ps.length ∧ root.length = 4 ∧ AscN N ps) : chkf q n root N ps rows nodes = (samb q (upf q n ps rows nodes N.toNat 0 N.toNat 0 false).1 root && !(upf q n ps rows nodes N.toNat 0 N.toNat 0 false).2.2 && (upf q n ps rows nodes N.toNat 0 N.toNat 0 false).2.1 == nodes.length) := by
  unfold chkf
  rw [decide_eq_true h]
  rfl

theorem six_new (w : World) (t : TypeId) (a b c d e f : Value) : (w.alloc (.cells #[a, b, c, d, e, f] t)).rowIs w.heap.size t 6 (six a b c d e f) :=
  ⟨#[a, b, c, d, e, f], heap_alloc_new w _, rfl, fun i hi => by
    have : i = 0 ∨ i = 1 ∨ i = 2 ∨ i = 3 ∨ i = 4 ∨ i = 5 := by omega
    rcases this with rfl | rfl | rfl | rfl | rfl | rfl <;> rfl⟩

attribute [local irreducible] wpStill

set_option maxRecDepth 100000 in
set_option maxHeartbeats 4000000 in
theorem rcheck_any (q n : Nat) (h5 : 5 ≤ q) (h4 : q ≤ 2147483647) (hpn : Spo.PowIs q n) (c4 cp cr cn : Nat) (a4 ap ar an' : Option Addr) (root : List Int) (N : Int) (ps : List Int) (rows nodes : List (List Int)) (w : World) (h4l : root.length ≤ 281474976710656) (hps : ps.length ≤ 281474976710656) (hnl : nodes.length ≤ 281474976710656)
    (hf4 : Fits root) (hfr : FitsR rows) (hfn : FitsR nodes) (hr4 : RowB w.heap.size w a4 root) (hrp : RowB w.heap.size w ap ps) (hlr : LstR w.heap.size w ar cr rows) (hln : LstR w.heap.size w an' cn nodes) :
    Calls Tryz.prog 17 #[.int .i64 q, .slice a4 root.length c4, .int .i64 N, .slice ap ps.length cp, .slice ar rows.length cr, .slice an' nodes.length cn] w fun e w' => e = .returned (.bool (chkf q n root N ps rows nodes)) ∧ Below w.heap.size w w' := by
  have hmx : Tryz.prog.follows .mixedOrders = true := by kernel_rfl
  have HPN := hid hpn
  have HF4 := hid hf4
  have HFR := hid hfr
  have HFN := hid hfn
  have HR4 := hid hr4
  have HRP := hid hrp
  have HLR := hid hlr
  have HLN := hid hln
  clear hpn hf4 hfr hfn hr4 hrp hlr hln
  by_cases hn1 : N < 1
  · have HE : Hid (chkf q n root N ps rows nodes = false) := chkf_no (by omega)
    go_enter Tryz.func17, Tryz.ntmps17
    go_wp2_with fail
    go_ret
    exact ⟨ret_bool HE.out.symm, Below.refl _ _⟩
  by_cases hn2 : 65536 < N
  · have HE : Hid (chkf q n root N ps rows nodes = false) := chkf_no (by omega)
    go_enter Tryz.func17, Tryz.ntmps17
    go_wp2_with fail
    go_ret
    exact ⟨ret_bool HE.out.symm, Below.refl _ _⟩
  by_cases hlp : rows.length ≠ ps.length
  · have HE : Hid (chkf q n root N ps rows nodes = false) := chkf_no (by omega)
    have hb : ((rows.length : Int) != (ps.length : Int)) = true := by rw [bne_iff_ne]; omega
    clear hlp
    generalize rows.length = lr at *
    go_enter Tryz.func17, Tryz.ntmps17
    go_wp2_with fail
    go_ret
    exact ⟨ret_bool HE.out.symm, Below.refl _ _⟩
  by_cases hl4 : root.length ≠ 4
  · have HE : Hid (chkf q n root N ps rows nodes = false) := chkf_no (by omega)
    have hb : ((rows.length : Int) != (ps.length : Int)) = false := by rw [bne_eq_false_iff_eq]; omega
    have hb4 : ((root.length : Int) != 4) = true := by rw [bne_iff_ne]; omega
    clear hlp hl4
    generalize rows.length = lr at *
    generalize root.length = l4 at *
    go_enter Tryz.func17, Tryz.ntmps17
    go_wp2_with fail
    go_ret
    exact ⟨ret_bool HE.out.symm, Below.refl _ _⟩
  have HLP : Hid (rows.length = ps.length) := by unfold Hid; omega
  have HL4 : Hid (root.length = 4) := by unfold Hid; omega
  have hb : ((rows.length : Int) != (ps.length : Int)) = false := by rw [bne_eq_false_iff_eq]; omega
  have hb4 : ((root.length : Int) != 4) = false := by rw [bne_eq_false_iff_eq]; omega
  have hn3 : 1 ≤ N := by omega
  have hn4 : N ≤ 65536 := by omega
  clear hlp hl4
  go_enter Tryz.func17, Tryz.ntmps17
  go_wp2_with fail
  go_loopw [13] (fun iv wr => ∃ k : Nat, k ≤ ps.length ∧ iv = .int .i64 k ∧ Hid (∀ j, j < k → 0 ≤ zat ps j ∧ zat ps j < N ∧ (0 < j → zat ps (j - 1) < zat ps j)) ∧ Hid (∃ nn, wr = w.drewN nn)) (fun iv _ => ps.length - (intOf iv).toNat)
  case atStart => exact ⟨0, Nat.zero_le _, rfl, fun j hj => by omega, 0, rfl⟩
  case round =>
    obtain ⟨k, hk, rfl, hok, hw⟩ := hrel
    have HW2 : Hid (∃ nn, wr.drew = w.drewN nn) := by
      obtain ⟨nn, e⟩ := hw.out
      exact ⟨nn + 1, by rw [e]; rfl⟩
    have HBW : Hid (Below w.heap.size w wr) := by
      obtain ⟨nn, e⟩ := hw.out
      unfold Hid
      rw [e]
      exact below_drewN (Below.refl _ _) nn
    have HSZ : Hid (wr.heap.size = w.heap.size) := by
      obtain ⟨nn, e⟩ := hw.out
      unfold Hid
      rw [e]
      rfl
    have HBK : Hid (∀ p, wr.cell? p = w.cell? p) := by
      obtain ⟨nn, e⟩ := hw.out
      intro p
      rw [e]
      rfl
    clear hw
    by_cases hlt : k < ps.length
    · have hlt2 : (k : Int) < (ps.length : Int) := by omega
      have hkw : IntKind.i64.wrap ((k : Int) + 1) = (k : Int) + 1 := by rw [IntKind.wrap_i64]; omega
      obtain ⟨b1, o1, rfl, hb1, hc1⟩ := HRP.out k hlt
      have hc2 : wr.cell? ⟨b1, o1 + k, none⟩ = some (.int .i64 (zat ps k)) := (HBK.out _).trans hc1
      have HNO : Hid (¬ (0 ≤ zat ps k ∧ zat ps k < N ∧ (0 < k → zat ps (k - 1) < zat ps k)) → chkf q n root N ps rows nodes = false) := fun h => chkf_no (fun hh => h (hh.2.2.2.2 k hlt))
      have HYE : Hid (0 ≤ zat ps k ∧ zat ps k < N ∧ (0 < k → zat ps (k - 1) < zat ps k) → ∀ j, j < k + 1 → 0 ≤ zat ps j ∧ zat ps j < N ∧ (0 < j → zat ps (j - 1) < zat ps j)) := fun h j hj => by
        by_cases e : j = k
        · subst e; exact h
        · exact hok.out j (by omega)
      clear hc1 hok
      by_cases hx0 : zat ps k < 0
      · have HE := hid (HNO.out (by omega))
        have hd0 : decide (zat ps k < 0) = true := decide_eq_true hx0
        clear HNO HYE
        generalize zat ps k = x at *
        go_wp2_with fail
        refine wp_region_still_lit hmx (by kernel_rfl) ?_
        refine wpStill_wantG (by kernel_rfl) (fun K hK => ?_); go_simp; refine hK _ ?_; clear hK K
        refine wpStill_wantG (by kernel_rfl) (fun K hK => ?_); go_simp; refine hK _ ?_; clear hK K
        refine wpStill_wantG (by kernel_rfl) (fun K hK => ?_); go_simp; refine hK _ ?_; clear hK K
        refine wpStill_wantG (by kernel_rfl) (fun K hK => ?_); go_simp; refine hK _ ?_; clear hK K
        refine wpStill_wantG (by kernel_rfl) (fun K hK => ?_); go_simp; refine hK _ ?_; clear hK K
        refine wpStill_wantG (by kernel_rfl) (fun K hK => ?_); go_simp; refine hK _ ?_; clear hK K
        refine wpStill_skipG (by kernel_rfl) (fun K hK => ?_); go_simp; refine hK _ ?_; clear hK K
        refine wpStill_skipG (by kernel_rfl) (fun K hK => ?_); go_simp; refine hK _ ?_; clear hK K
        refine wpStill_skipG (by kernel_rfl) (fun K hK => ?_); go_simp; refine hK _ ?_; clear hK K
        refine wpStill_skipG (by kernel_rfl) (fun K hK => ?_); go_simp; refine hK _ ?_; clear hK K
        refine wpStill_skipG (by kernel_rfl) (fun K hK => ?_); go_simp; refine hK _ ?_; clear hK K
        refine wpStill_skipG (by kernel_rfl) (fun K hK => ?_); go_simp; refine hK _ ?_; clear hK K
        refine wpStill_wantG (by kernel_rfl) (fun K hK => ?_); go_simp; refine hK _ ?_; clear hK K
        refine wpStill_wantG (by kernel_rfl) (fun K hK => ?_); go_simp; refine hK _ ?_; clear hK K
        refine wpStill_skipG (by kernel_rfl) (fun K hK => ?_); go_simp; refine hK _ ?_; clear hK K
        refine wpStill_skipG (by kernel_rfl) (fun K hK => ?_); go_simp; refine hK _ ?_; clear hK K
        refine wpStill_skipG (by kernel_rfl) (fun K hK => ?_); go_simp; refine hK _ ?_; clear hK K
        refine wpStill_skipG (by kernel_rfl) (fun K hK => ?_); go_simp; refine hK _ ?_; clear hK K
        refine wpStill_skipG (by kernel_rfl) (fun K hK => ?_); go_simp; refine hK _ ?_; clear hK K
        refine wpStill_skipG (by kernel_rfl) (fun K hK => ?_); go_simp; refine hK _ ?_; clear hK K
        refine wpStill_skipG (by kernel_rfl) (fun K hK => ?_); go_simp; refine hK _ ?_; clear hK K
        refine wpStill_skipG (by kernel_rfl) (fun K hK => ?_); go_simp; refine hK _ ?_; clear hK K
        refine wpStill_skipG (by kernel_rfl) (fun K hK => ?_); go_simp; refine hK _ ?_; clear hK K
        refine wpStill_skipG (by kernel_rfl) (fun K hK => ?_); go_simp; refine hK _ ?_; clear hK K
        refine wpStill_skipG (by kernel_rfl) (fun K hK => ?_); go_simp; refine hK _ ?_; clear hK K
        refine wpStill_skipG (by kernel_rfl) (fun K hK => ?_); go_simp; refine hK _ ?_; clear hK K
        refine wpStill_skipG (by kernel_rfl) (fun K hK => ?_); go_simp; refine hK _ ?_; clear hK K
        refine wpStill_skipG (by kernel_rfl) (fun K hK => ?_); go_simp; refine hK _ ?_; clear hK K
        refine wpStill_wantG (by kernel_rfl) (fun K hK => ?_); go_simp; refine hK _ ?_; clear hK K
        refine wpStill_nil ?_
        go_wp2_with fail
        go_ret
        exact ⟨ret_bool HE.out.symm, HBW.out.drew⟩
      have hd0 : decide (zat ps k < 0) = false := decide_eq_false hx0
      by_cases hx1 : N ≤ zat ps k
      · have HE := hid (HNO.out (by omega))
        have hd1 : decide (N ≤ zat ps k) = true := decide_eq_true hx1
        clear HNO HYE
        generalize zat ps k = x at *
        go_wp2_with fail
        refine wp_region_still_lit hmx (by kernel_rfl) ?_
        refine wpStill_wantG (by kernel_rfl) (fun K hK => ?_); go_simp; refine hK _ ?_; clear hK K
        refine wpStill_wantG (by kernel_rfl) (fun K hK => ?_); go_simp; refine hK _ ?_; clear hK K
        refine wpStill_wantG (by kernel_rfl) (fun K hK => ?_); go_simp; refine hK _ ?_; clear hK K
        refine wpStill_wantG (by kernel_rfl) (fun K hK => ?_); go_simp; refine hK _ ?_; clear hK K
        refine wpStill_wantG (by kernel_rfl) (fun K hK => ?_); go_simp; refine hK _ ?_; clear hK K
        refine wpStill_wantG (by kernel_rfl) (fun K hK => ?_); go_simp; refine hK _ ?_; clear hK K
        refine wpStill_wantG (by kernel_rfl) (fun K hK => ?_); go_simp; refine hK _ ?_; clear hK K
        refine wpStill_wantG (by kernel_rfl) (fun K hK => ?_); go_simp; refine hK _ ?_; clear hK K
        refine wpStill_wantG (by kernel_rfl) (fun K hK => ?_); go_simp; refine hK _ ?_; clear hK K
        refine wpStill_wantG (by kernel_rfl) (fun K hK => ?_); go_simp; refine hK _ ?_; clear hK K
        refine wpStill_wantG (by kernel_rfl) (fun K hK => ?_); go_simp; refine hK _ ?_; clear hK K
        refine wpStill_wantG (by kernel_rfl) (fun K hK => ?_); go_simp; refine hK _ ?_; clear hK K
        refine wpStill_wantG (by kernel_rfl) (fun K hK => ?_); go_simp; refine hK _ ?_; clear hK K
        refine wpStill_wantG (by kernel_rfl) (fun K hK => ?_); go_simp; refine hK _ ?_; clear hK K
        refine wpStill_skipG (by kernel_rfl) (fun K hK => ?_); go_simp; refine hK _ ?_; clear hK K
        refine wpStill_skipG (by kernel_rfl) (fun K hK => ?_); go_simp; refine hK _ ?_; clear hK K
        refine wpStill_skipG (by kernel_rfl) (fun K hK => ?_); go_simp; refine hK _ ?_; clear hK K
        refine wpStill_skipG (by kernel_rfl) (fun K hK => ?_); go_simp; refine hK _ ?_; clear hK K
        refine wpStill_skipG (by kernel_rfl) (fun K hK => ?_); go_simp; refine hK _ ?_; clear hK K
        refine wpStill_skipG (by kernel_rfl) (fun K hK => ?_); go_simp; refine hK _ ?_; clear hK K
        refine wpStill_skipG (by kernel_rfl) (fun K hK => ?_); go_simp; refine hK _ ?_; clear hK K
        refine wpStill_skipG (by kernel_rfl) (fun K hK => ?_); go_simp; refine hK _ ?_; clear hK K
        refine wpStill_skipG (by kernel_rfl) (fun K hK => ?_); go_simp; refine hK _ ?_; clear hK K
        refine wpStill_skipG (by kernel_rfl) (fun K hK => ?_); go_simp; refine hK _ ?_; clear hK K
        refine wpStill_skipG (by kernel_rfl) (fun K hK => ?_); go_simp; refine hK _ ?_; clear hK K
        refine wpStill_skipG (by kernel_rfl) (fun K hK => ?_); go_simp; refine hK _ ?_; clear hK K
        refine wpStill_skipG (by kernel_rfl) (fun K hK => ?_); go_simp; refine hK _ ?_; clear hK K
        refine wpStill_skipG (by kernel_rfl) (fun K hK => ?_); go_simp; refine hK _ ?_; clear hK K
        refine wpStill_wantG (by kernel_rfl) (fun K hK => ?_); go_simp; refine hK _ ?_; clear hK K
        refine wpStill_nil ?_
        go_wp2_with fail
        go_ret
        exact ⟨ret_bool HE.out.symm, HBW.out.drew⟩
      have hd1 : decide (N ≤ zat ps k) = false := decide_eq_false hx1
      by_cases hk0 : k = 0
      · have HT := hid (HYE.out (by omega))
        have hd2 : decide (0 < k) = false := decide_eq_false (by omega)
        clear HNO HYE hk0
        generalize zat ps k = x at *
        go_wp2_with fail
        refine wp_region_still_lit hmx (by kernel_rfl) ?_
        refine wpStill_wantG (by kernel_rfl) (fun K hK => ?_); go_simp; refine hK _ ?_; clear hK K
        refine wpStill_wantG (by kernel_rfl) (fun K hK => ?_); go_simp; refine hK _ ?_; clear hK K
        refine wpStill_wantG (by kernel_rfl) (fun K hK => ?_); go_simp; refine hK _ ?_; clear hK K
        refine wpStill_wantG (by kernel_rfl) (fun K hK => ?_); go_simp; refine hK _ ?_; clear hK K
        refine wpStill_wantG (by kernel_rfl) (fun K hK => ?_); go_simp; refine hK _ ?_; clear hK K
        refine wpStill_wantG (by kernel_rfl) (fun K hK => ?_); go_simp; refine hK _ ?_; clear hK K
        refine wpStill_wantG (by kernel_rfl) (fun K hK => ?_); go_simp; refine hK _ ?_; clear hK K
        refine wpStill_wantG (by kernel_rfl) (fun K hK => ?_); go_simp; refine hK _ ?_; clear hK K
        refine wpStill_wantG (by kernel_rfl) (fun K hK => ?_); go_simp; refine hK _ ?_; clear hK K
        refine wpStill_wantG (by kernel_rfl) (fun K hK => ?_); go_simp; refine hK _ ?_; clear hK K
        refine wpStill_wantG (by kernel_rfl) (fun K hK => ?_); go_simp; refine hK _ ?_; clear hK K
        refine wpStill_wantG (by kernel_rfl) (fun K hK => ?_); go_simp; refine hK _ ?_; clear hK K
        refine wpStill_wantG (by kernel_rfl) (fun K hK => ?_); go_simp; refine hK _ ?_; clear hK K
        refine wpStill_wantG (by kernel_rfl) (fun K hK => ?_); go_simp; refine hK _ ?_; clear hK K
        refine wpStill_wantG (by kernel_rfl) (fun K hK => ?_); go_simp; refine hK _ ?_; clear hK K
        refine wpStill_wantG (by kernel_rfl) (fun K hK => ?_); go_simp; refine hK _ ?_; clear hK K
        refine wpStill_wantG (by kernel_rfl) (fun K hK => ?_); go_simp; refine hK _ ?_; clear hK K
        refine wpStill_skipG (by kernel_rfl) (fun K hK => ?_); go_simp; refine hK _ ?_; clear hK K
        refine wpStill_skipG (by kernel_rfl) (fun K hK => ?_); go_simp; refine hK _ ?_; clear hK K
        refine wpStill_skipG (by kernel_rfl) (fun K hK => ?_); go_simp; refine hK _ ?_; clear hK K
        refine wpStill_skipG (by kernel_rfl) (fun K hK => ?_); go_simp; refine hK _ ?_; clear hK K
        refine wpStill_skipG (by kernel_rfl) (fun K hK => ?_); go_simp; refine hK _ ?_; clear hK K
        refine wpStill_skipG (by kernel_rfl) (fun K hK => ?_); go_simp; refine hK _ ?_; clear hK K
        refine wpStill_skipG (by kernel_rfl) (fun K hK => ?_); go_simp; refine hK _ ?_; clear hK K
        refine wpStill_skipG (by kernel_rfl) (fun K hK => ?_); go_simp; refine hK _ ?_; clear hK K
        refine wpStill_skipG (by kernel_rfl) (fun K hK => ?_); go_simp; refine hK _ ?_; clear hK K
        refine wpStill_skipG (by kernel_rfl) (fun K hK => ?_); go_simp; refine hK _ ?_; clear hK K
        refine wpStill_wantG (by kernel_rfl) (fun K hK => ?_); go_simp; refine hK _ ?_; clear hK K
        refine wpStill_wantG (by kernel_rfl) (fun K hK => ?_); go_simp; refine hK _ ?_; clear hK K
        refine wpStill_nil ?_
        go_wp2_with fail
        go_roundw
        case rel => exact ⟨k + 1, by omega, by go_num, HT, HW2⟩
        case measure => simp [intOf]; omega
      obtain ⟨m, hkm⟩ : ∃ m, k = m + 1 := ⟨k - 1, by omega⟩
      obtain ⟨b2, o2, e2, hb2, hm2⟩ := HRP.out m (by omega)
      cases e2
      have hm3 : wr.cell? ⟨b1, o1 + m, none⟩ = some (.int .i64 (zat ps m)) := (HBK.out _).trans hm2
      have hmlt : (m : Int) < (ps.length : Int) := by omega
      clear hm2
      have hkm2 : (k : Int) - 1 = (m : Int) := by omega
      have hmw : IntKind.i64.wrap (m : Int) = (m : Int) := by rw [IntKind.wrap_i64]; omega
      have hd2 : decide (0 < k) = true := decide_eq_true (by omega)
      have HKM : Hid (k - 1 = m) := by unfold Hid; omega
      by_cases hx2 : zat ps k ≤ zat ps m
      · have HE := hid (HNO.out (fun h => by have := h.2.2 (by omega); rw [HKM.out] at this; omega))
        have hd3 : decide (zat ps k ≤ zat ps m) = true := decide_eq_true hx2
        clear HNO HYE hkm
        generalize zat ps k = x at *
        generalize zat ps m = y at *
        go_wp2_with fail
        refine wp_region_still_lit hmx (by kernel_rfl) ?_
        refine wpStill_wantG (by kernel_rfl) (fun K hK => ?_); go_simp; refine hK _ ?_; clear hK K
        refine wpStill_wantG (by kernel_rfl) (fun K hK => ?_); go_simp; refine hK _ ?_; clear hK K
        refine wpStill_wantG (by kernel_rfl) (fun K hK => ?_); go_simp; refine hK _ ?_; clear hK K
        refine wpStill_wantG (by kernel_rfl) (fun K hK => ?_); go_simp; refine hK _ ?_; clear hK K
        refine wpStill_wantG (by kernel_rfl) (fun K hK => ?_); go_simp; refine hK _ ?_; clear hK K
        refine wpStill_wantG (by kernel_rfl) (fun K hK => ?_); go_simp; refine hK _ ?_; clear hK K
        refine wpStill_wantG (by kernel_rfl) (fun K hK => ?_); go_simp; refine hK _ ?_; clear hK K
        refine wpStill_wantG (by kernel_rfl) (fun K hK => ?_); go_simp; refine hK _ ?_; clear hK K
        refine wpStill_wantG (by kernel_rfl) (fun K hK => ?_); go_simp; refine hK _ ?_; clear hK K
        refine wpStill_wantG (by kernel_rfl) (fun K hK => ?_); go_simp; refine hK _ ?_; clear hK K
        refine wpStill_wantG (by kernel_rfl) (fun K hK => ?_); go_simp; refine hK _ ?_; clear hK K
        refine wpStill_wantG (by kernel_rfl) (fun K hK => ?_); go_simp; refine hK _ ?_; clear hK K
        refine wpStill_wantG (by kernel_rfl) (fun K hK => ?_); go_simp; refine hK _ ?_; clear hK K
        refine wpStill_wantG (by kernel_rfl) (fun K hK => ?_); go_simp; refine hK _ ?_; clear hK K
        refine wpStill_wantG (by kernel_rfl) (fun K hK => ?_); go_simp; refine hK _ ?_; clear hK K
        refine wpStill_wantG (by kernel_rfl) (fun K hK => ?_); go_simp; refine hK _ ?_; clear hK K
        refine wpStill_wantG (by kernel_rfl) (fun K hK => ?_); go_simp; refine hK _ ?_; clear hK K
        refine wpStill_wantG (by kernel_rfl) (fun K hK => ?_); go_simp; refine hK _ ?_; clear hK K
        refine wpStill_wantG (by kernel_rfl) (fun K hK => ?_); go_simp; refine hK _ ?_; clear hK K
        refine wpStill_wantG (by kernel_rfl) (fun K hK => ?_); go_simp; refine hK _ ?_; clear hK K
        refine wpStill_wantG (by kernel_rfl) (fun K hK => ?_); go_simp; refine hK _ ?_; clear hK K
        refine wpStill_wantG (by kernel_rfl) (fun K hK => ?_); go_simp; refine hK _ ?_; clear hK K
        refine wpStill_wantG (by kernel_rfl) (fun K hK => ?_); go_simp; refine hK _ ?_; clear hK K
        refine wpStill_wantG (by kernel_rfl) (fun K hK => ?_); go_simp; refine hK _ ?_; clear hK K
        refine wpStill_wantG (by kernel_rfl) (fun K hK => ?_); go_simp; refine hK _ ?_; clear hK K
        refine wpStill_wantG (by kernel_rfl) (fun K hK => ?_); go_simp; refine hK _ ?_; clear hK K
        refine wpStill_wantG (by kernel_rfl) (fun K hK => ?_); go_simp; refine hK _ ?_; clear hK K
        refine wpStill_wantG (by kernel_rfl) (fun K hK => ?_); go_simp; refine hK _ ?_; clear hK K
        refine wpStill_wantG (by kernel_rfl) (fun K hK => ?_); go_simp; refine hK _ ?_; clear hK K
        refine wpStill_nil ?_
        go_wp2_with fail
        go_ret
        exact ⟨ret_bool HE.out.symm, HBW.out.drew⟩
      · have HT := hid (HYE.out ⟨by omega, by omega, fun _ => by rw [HKM.out]; omega⟩)
        have hd3 : decide (zat ps k ≤ zat ps m) = false := decide_eq_false hx2
        clear HNO HYE hkm
        generalize zat ps k = x at *
        generalize zat ps m = y at *
        go_wp2_with fail
        refine wp_region_still_lit hmx (by kernel_rfl) ?_
        refine wpStill_wantG (by kernel_rfl) (fun K hK => ?_); go_simp; refine hK _ ?_; clear hK K
        refine wpStill_wantG (by kernel_rfl) (fun K hK => ?_); go_simp; refine hK _ ?_; clear hK K
        refine wpStill_wantG (by kernel_rfl) (fun K hK => ?_); go_simp; refine hK _ ?_; clear hK K
        refine wpStill_wantG (by kernel_rfl) (fun K hK => ?_); go_simp; refine hK _ ?_; clear hK K
        refine wpStill_wantG (by kernel_rfl) (fun K hK => ?_); go_simp; refine hK _ ?_; clear hK K
        refine wpStill_wantG (by kernel_rfl) (fun K hK => ?_); go_simp; refine hK _ ?_; clear hK K
        refine wpStill_wantG (by kernel_rfl) (fun K hK => ?_); go_simp; refine hK _ ?_; clear hK K
        refine wpStill_wantG (by kernel_rfl) (fun K hK => ?_); go_simp; refine hK _ ?_; clear hK K
        refine wpStill_wantG (by kernel_rfl) (fun K hK => ?_); go_simp; refine hK _ ?_; clear hK K
        refine wpStill_wantG (by kernel_rfl) (fun K hK => ?_); go_simp; refine hK _ ?_; clear hK K
        refine wpStill_wantG (by kernel_rfl) (fun K hK => ?_); go_simp; refine hK _ ?_; clear hK K
        refine wpStill_wantG (by kernel_rfl) (fun K hK => ?_); go_simp; refine hK _ ?_; clear hK K
        refine wpStill_wantG (by kernel_rfl) (fun K hK => ?_); go_simp; refine hK _ ?_; clear hK K
        refine wpStill_wantG (by kernel_rfl) (fun K hK => ?_); go_simp; refine hK _ ?_; clear hK K
        refine wpStill_wantG (by kernel_rfl) (fun K hK => ?_); go_simp; refine hK _ ?_; clear hK K
        refine wpStill_wantG (by kernel_rfl) (fun K hK => ?_); go_simp; refine hK _ ?_; clear hK K
        refine wpStill_wantG (by kernel_rfl) (fun K hK => ?_); go_simp; refine hK _ ?_; clear hK K
        refine wpStill_wantG (by kernel_rfl) (fun K hK => ?_); go_simp; refine hK _ ?_; clear hK K
        refine wpStill_wantG (by kernel_rfl) (fun K hK => ?_); go_simp; refine hK _ ?_; clear hK K
        refine wpStill_wantG (by kernel_rfl) (fun K hK => ?_); go_simp; refine hK _ ?_; clear hK K
        refine wpStill_wantG (by kernel_rfl) (fun K hK => ?_); go_simp; refine hK _ ?_; clear hK K
        refine wpStill_wantG (by kernel_rfl) (fun K hK => ?_); go_simp; refine hK _ ?_; clear hK K
        refine wpStill_wantG (by kernel_rfl) (fun K hK => ?_); go_simp; refine hK _ ?_; clear hK K
        refine wpStill_wantG (by kernel_rfl) (fun K hK => ?_); go_simp; refine hK _ ?_; clear hK K
        refine wpStill_wantG (by kernel_rfl) (fun K hK => ?_); go_simp; refine hK _ ?_; clear hK K
        refine wpStill_wantG (by kernel_rfl) (fun K hK => ?_); go_simp; refine hK _ ?_; clear hK K
        refine wpStill_wantG (by kernel_rfl) (fun K hK => ?_); go_simp; refine hK _ ?_; clear hK K
        refine wpStill_wantG (by kernel_rfl) (fun K hK => ?_); go_simp; refine hK _ ?_; clear hK K
        refine wpStill_wantG (by kernel_rfl) (fun K hK => ?_); go_simp; refine hK _ ?_; clear hK K
        refine wpStill_nil ?_
        go_wp2_with fail
        go_roundw
        case rel => exact ⟨k + 1, by omega, by go_num, HT, HW2⟩
        case measure => simp [intOf]; omega
    · obtain rfl : k = ps.length := by omega
      have HYE := hid (chkf_yes (q := q) (n := n) (root := root) (nodes := nodes) ⟨hn3, hn4, HLP.out, HL4.out, hok.out⟩)
      clear hok
      obtain ⟨cnt, rfl⟩ : ∃ cnt : Nat, N = (cnt : Int) := ⟨N.toNat, by omega⟩
      rw [Int.toNat_natCast] at HYE
      go_wp2_with fail
      have HCW : Hid (w.heap.size ≤ wr.heap.size) := by unfold Hid; rw [HSZ.out]; omega
      have HNW := hid (six_new wr 81 (.int .i64 q) (.slice ap ps.length cp) (.slice ar rows.length cr) (.slice an' nodes.length cn) (.int .i64 0) (.bool false))
      have HBA : Hid (Below w.heap.size w (wr.alloc (.cells #[.int .i64 q, .slice ap ps.length cp, .slice ar rows.length cr, .slice an' nodes.length cn, .int .i64 0, .bool false] 81))) := HBW.out.alloc HCW.out _
      have HCL : Hid (wr.heap.size < (wr.alloc (.cells #[.int .i64 q, .slice ap ps.length cp, .slice ar rows.length cr, .slice an' nodes.length cn, .int .i64 0, .bool false] 81)).heap.size) := by unfold Hid; simp
      have HUP := hid (rup_any q n h5 h4 HPN.out wr.heap.size w.heap.size cp cr cn ap ar an' ps rows nodes hps HLP.out hnl HFR.out HFN.out HCW.out cnt 0 cnt 0 false _ (by omega) (Nat.le_refl _) (by omega) (Int.le_refl _) (by omega) (by omega) HNW.out (HRP.out.below HBA.out) (HLR.out.below HBA.out) (HLN.out.below HBA.out))
      have HUL := hid (upf_len q n ps rows nodes cnt 0 cnt 0 false (by omega))
      have HUF := hid (upf_fits (show 3 ≤ q by omega) h4 n ps rows nodes cnt 0 cnt 0 false)
      obtain ⟨⟨D, T, B⟩, hU⟩ : ∃ U, U = upf q n ps rows nodes cnt 0 cnt 0 false := ⟨_, rfl⟩
      rw [← hU] at HUP HYE HUL HUF
      dsimp only at HUP HYE HUL HUF
      generalize wr.alloc (.cells #[.int .i64 q, .slice ap ps.length cp, .slice ar rows.length cr, .slice an' nodes.length cn, .int .i64 0, .bool false] 81) = WA at *
      obtain ⟨C, hC⟩ : ∃ C, C = wr.heap.size := ⟨_, rfl⟩
      rw [← hC] at HUP HCL HCW ⊢
      clear hU HNW hC HW2 HBW HSZ HBK
      refine HUP.out.mono ?_
      rintro e w3 ⟨g, N1, rfl, h6, h7, h8, h9⟩
      have c4' := h8.cell (i := 4) (by omega)
      have c5' := h8.cell (i := 5) (by omega)
      simp only [six] at c4' c5'
      have HB3 : Hid (Below w.heap.size w w3) := HBA.out.trans (below_of_gb h9 HCW.out HCL.out)
      have HSA := hid (rsame_any q N1 c4 (some ⟨g, 0, none⟩) a4 D root w3 (by omega) h4 (by rw [HUL.out]; omega) h4l HUF.out HF4.out h7.1.row ((HR4.out.below HB3.out).mono HB3.out.size))
      rw [HUL.out] at HSA
      clear h6 h7 h8 h9 HUP HBA HCL
      generalize samb q D root = bs at *
      go_wp2_with fail
      refine HSA.out.mono ?_
      rintro e w4 ⟨rfl, rfl⟩
      cases bs
      · go_wp2_with fail
        go_ret
        exact ⟨ret_bool HYE.out.symm, HB3.out⟩
      · cases B
        · by_cases ht : T = nodes.length
          · have hbt : ((T : Int) == (nodes.length : Int)) = true := by rw [beq_iff_eq]; omega
            have HE : Hid ((T == nodes.length) = true) := by unfold Hid; rw [beq_iff_eq]; exact ht
            clear ht
            go_wp2_with fail
            go_ret
            exact ⟨ret_bool (by rw [HYE.out, HE.out]; rfl), HB3.out⟩
          · have hbt : ((T : Int) == (nodes.length : Int)) = false := by rw [beq_eq_false_iff_ne]; omega
            have HE : Hid ((T == nodes.length) = false) := by unfold Hid; rw [beq_eq_false_iff_ne]; exact ht
            clear ht
            go_wp2_with fail
            go_ret
            exact ⟨ret_bool (by rw [HYE.out, HE.out]; rfl), HB3.out⟩
        · go_wp2_with fail
          go_ret
          exact ⟨ret_bool HYE.out.symm, HB3.out⟩

end Go.Proofs.YtionbilheeheaaeGreatDoor
