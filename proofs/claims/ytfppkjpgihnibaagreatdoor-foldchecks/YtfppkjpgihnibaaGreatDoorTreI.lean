/- attestref5.Row; attestsame.Openings. -/
import Derived.Test.YtfppkjpgihnibaaGreatDoorTres
import Derived.Test.YtfppkjpgihnibaaGreatDoorPls
import Derived.StillTailTactics
namespace Go.Proofs.YtfppkjpgihnibaaGreatDoor
open Go.RowKit

set_option maxRecDepth 100000 in
set_option maxHeartbeats 4000000 in
theorem rrow_any (cp cr : Nat) (ap ar : Option Addr) (ps : List Int) (rows : List (List Int)) (vn : Value) (place : Int) (w : World) (hps : ps.length ≤ 281474976710656) (hrl : rows.length = ps.length) (hrp : RowB w.heap.size w ap ps) (hlr : LstR w.heap.size w ar cr rows) (hex : ∃ j, j < ps.length ∧ zat ps j = place) :
    Calls Tryz.prog 121 #[.agg #[.slice ap ps.length cp, .slice ar rows.length cr, vn], .int .i64 place] w fun e w' => ∃ a c, e = .returned (.slice a (rat rows (fx ps place)).length c) ∧ Lst w.heap.size w a c (rat rows (fx ps place)) ∧ fx ps place < ps.length ∧ zat ps (fx ps place) = place ∧ Below w.heap.size w w' := by
  have HRP := hid hrp
  have HLR := hid hlr
  have HEX := hid hex
  have HRL := hid hrl
  clear hrp hlr hex hrl
  go_enter Tryz.func121, Tryz.ntmps121
  go_wp2_with fail
  have d0 : (w.alloc (.cells #[.slice ap ps.length cp, .slice ar rows.length cr, vn] 107)).cell? ⟨w.heap.size, 0, none⟩ = some (.slice ap ps.length cp) := by simp
  have d1 : (w.alloc (.cells #[.slice ap ps.length cp, .slice ar rows.length cr, vn] 107)).cell? ⟨w.heap.size, 1, none⟩ = some (.slice ar rows.length cr) := by simp
  have HB0 : Hid (Below w.heap.size w (w.alloc (.cells #[.slice ap ps.length cp, .slice ar rows.length cr, vn] 107))) := (Below.refl _ _).alloc (Nat.le_refl _) _
  generalize w.alloc (.cells #[.slice ap ps.length cp, .slice ar rows.length cr, vn] 107) = W0 at *
  go_loop [5] (fun iv => ∃ i : Nat, i ≤ ps.length ∧ iv = .int .i64 i ∧ Hid (∀ j, j < i → zat ps j ≠ place)) (fun iv => ps.length - (intOf iv).toNat)
  case atStart => exact ⟨0, Nat.zero_le _, rfl, fun j hj => by omega⟩
  case round =>
    obtain ⟨i, hi, rfl, hno⟩ := hrel
    by_cases hlt : i < ps.length
    · have hlt2 : (i : Int) < (ps.length : Int) := by omega
      have hiw : IntKind.i64.wrap ((i : Int) + 1) = (i : Int) + 1 := by rw [IntKind.wrap_i64]; omega
      obtain ⟨b1, o1, rfl, hb1, hc1⟩ := HRP.out i hlt
      have hc1' := (HB0.out.cell (p := ⟨b1, o1 + i, none⟩) hb1).trans hc1
      by_cases heq : zat ps i = place
      · have HFX := hid (fx_eq hlt heq hno.out)
        have hlr2 : i < rows.length := by rw [HRL.out]; exact hlt
        obtain ⟨b2, o2, ak, ck, rfl, hb2, hc2, hlk⟩ := HLR.out.row i hlr2
        have hc2' := (HB0.out.cell (p := ⟨b2, o2 + i, none⟩) hb2).trans hc2
        have hir : (i : Int) < (rows.length : Int) := by omega
        rw [heq] at hc1'
        have hb0 : (place == place) = true := by simp
        have HE : Hid (Lst w.heap.size w ak ck (rat rows (fx ps place)) ∧ fx ps place < ps.length ∧ zat ps (fx ps place) = place) := by
          unfold Hid
          rw [HFX.out]
          exact ⟨hlk, hlt, heq⟩
        have HEL : Hid (rat rows (fx ps place) = rat rows i) := by unfold Hid; rw [HFX.out]
        clear heq hno HFX hlk HRP HLR HEX hc1 hc2 HRL
        go_wp2_with fail
        go_ret
        refine ⟨ak, ck, ?_, HE.out.1, HE.out.2.1, HE.out.2.2, HB0.out⟩
        rw [HEL.out]
        rfl
      · have HT : Hid (∀ j, j < i + 1 → zat ps j ≠ place) := fun j hj => by
          by_cases e : j = i
          · subst e; exact heq
          · exact hno.out j (by omega)
        have heb : (zat ps i == place) = false := by rw [beq_eq_false_iff_ne]; exact heq
        clear hno heq hc1
        generalize zat ps i = x at *
        go_wp2_with fail
        go_round
        case rel => exact ⟨i + 1, by omega, by go_num, HT⟩
        case measure => simp [intOf]; omega
    · obtain ⟨j, h6, h7⟩ := HEX.out
      exact absurd h7 (hno.out j (by omega))

set_option maxRecDepth 100000 in
set_option maxHeartbeats 4000000 in
theorem openings_any (c1 c2 c3 c4 c5 c6 : Nat) (a1 a2 a3 a4 a5 a6 : Option Addr) (p1 p2 : List Int) (r1 r2 n1 n2 : List (List Int)) (w : World) (hx1 : p1.length ≤ 9223372036854775807) (hx2 : p2.length ≤ 9223372036854775807) (hx3 : r1.length ≤ 9223372036854775807) (hx4 : r2.length ≤ 9223372036854775807) (hx5 : n1.length ≤ 9223372036854775807) (hx6 : n2.length ≤ 9223372036854775807)
    (hf3 : ∀ k, k < r1.length → (rat r1 k).length ≤ 9223372036854775807) (hf4 : ∀ k, k < r2.length → (rat r2 k).length ≤ 9223372036854775807) (hf5 : ∀ k, k < n1.length → (rat n1 k).length ≤ 9223372036854775807) (hf6 : ∀ k, k < n2.length → (rat n2 k).length ≤ 9223372036854775807)
    (hl1 : RowB w.heap.size w a1 p1) (hl2 : RowB w.heap.size w a4 p2) (hl3 : LstR w.heap.size w a2 c2 r1) (hl4 : LstR w.heap.size w a5 c5 r2) (hl5 : LstR w.heap.size w a3 c3 n1) (hl6 : LstR w.heap.size w a6 c6 n2) :
    Calls Tryz.prog 52 #[.agg #[.slice a1 p1.length c1, .slice a2 r1.length c2, .slice a3 n1.length c3], .agg #[.slice a4 p2.length c4, .slice a5 r2.length c5, .slice a6 n2.length c6]] w fun e w' => e = .returned (.bool (decide (p1 = p2) && decide (r1 = r2) && decide (n1 = n2))) ∧ Below w.heap.size w w' := by
  have HI : Hid (∀ W, Below w.heap.size w W → Calls Tryz.prog 14 #[.slice a1 p1.length c1, .slice a4 p2.length c4] W fun e w' => e = .returned (.bool (decide (p1 = p2))) ∧ ∃ n, w' = W.drewN n) := fun W h => ints_any p1 p2 _ _ W (rowZ_of_B c1 (hl1.below h)) (rowZ_of_B c4 (hl2.below h)) hx1 hx2
  have HR : Hid (∀ W, Below w.heap.size w W → Calls Tryz.prog 28 #[.slice a2 r1.length c2, .slice a5 r2.length c5] W fun e w' => e = .returned (.bool (decide (r1 = r2))) ∧ ∃ n, w' = W.drewN n) := fun W h => srows_any c2 c5 a2 a5 r1 r2 _ _ W hx3 hx4 hf3 hf4 (hl3.below h) (hl4.below h)
  have HN : Hid (∀ W, Below w.heap.size w W → Calls Tryz.prog 28 #[.slice a3 n1.length c3, .slice a6 n2.length c6] W fun e w' => e = .returned (.bool (decide (n1 = n2))) ∧ ∃ n, w' = W.drewN n) := fun W h => srows_any c3 c6 a3 a6 n1 n2 _ _ W hx5 hx6 hf5 hf6 (hl5.below h) (hl6.below h)
  clear hl1 hl2 hl3 hl4 hl5 hl6 hf3 hf4 hf5 hf6 hx1 hx2 hx3 hx4 hx5 hx6
  generalize decide (p1 = p2) = x at *
  generalize decide (r1 = r2) = y at *
  generalize decide (n1 = n2) = z at *
  generalize p1.length = l1 at *
  generalize p2.length = l4 at *
  generalize r1.length = l2 at *
  generalize r2.length = l5 at *
  generalize n1.length = l3 at *
  generalize n2.length = l6 at *
  go_enter Tryz.func52, Tryz.ntmps52
  go_wp2_with fail
  have e1 : ((w.alloc (.cells #[.slice a1 l1 c1, .slice a2 l2 c2, .slice a3 l3 c3] 107)).alloc (.cells #[.slice a4 l4 c4, .slice a5 l5 c5, .slice a6 l6 c6] 107)).cell? ⟨w.heap.size, 1, none⟩ = some (.slice a2 l2 c2) := by simp
  have e2 : ((w.alloc (.cells #[.slice a1 l1 c1, .slice a2 l2 c2, .slice a3 l3 c3] 107)).alloc (.cells #[.slice a4 l4 c4, .slice a5 l5 c5, .slice a6 l6 c6] 107)).cell? ⟨w.heap.size, 2, none⟩ = some (.slice a3 l3 c3) := by simp
  have e3 : ((w.alloc (.cells #[.slice a1 l1 c1, .slice a2 l2 c2, .slice a3 l3 c3] 107)).alloc (.cells #[.slice a4 l4 c4, .slice a5 l5 c5, .slice a6 l6 c6] 107)).cell? ⟨w.heap.size + 1, 1, none⟩ = some (.slice a5 l5 c5) := by simp
  have e4 : ((w.alloc (.cells #[.slice a1 l1 c1, .slice a2 l2 c2, .slice a3 l3 c3] 107)).alloc (.cells #[.slice a4 l4 c4, .slice a5 l5 c5, .slice a6 l6 c6] 107)).cell? ⟨w.heap.size + 1, 2, none⟩ = some (.slice a6 l6 c6) := by simp
  have HB0 : Hid (Below w.heap.size w ((w.alloc (.cells #[.slice a1 l1 c1, .slice a2 l2 c2, .slice a3 l3 c3] 107)).alloc (.cells #[.slice a4 l4 c4, .slice a5 l5 c5, .slice a6 l6 c6] 107))) := ((Below.refl _ _).alloc (Nat.le_refl _) _).alloc (by simp) _
  generalize (w.alloc (.cells #[.slice a1 l1 c1, .slice a2 l2 c2, .slice a3 l3 c3] 107)).alloc (.cells #[.slice a4 l4 c4, .slice a5 l5 c5, .slice a6 l6 c6] 107) = W0 at *
  refine (HI.out _ HB0.out).mono ?_
  rintro e w1 ⟨rfl, n1', rfl⟩
  have HB1 : Hid (Below w.heap.size w (W0.drewN n1')) := below_drewN HB0.out n1'
  have f1 : (W0.drewN n1').cell? ⟨w.heap.size, 1, none⟩ = some (.slice a2 l2 c2) := e1
  have f2 : (W0.drewN n1').cell? ⟨w.heap.size, 2, none⟩ = some (.slice a3 l3 c3) := e2
  have f3 : (W0.drewN n1').cell? ⟨w.heap.size + 1, 1, none⟩ = some (.slice a5 l5 c5) := e3
  have f4 : (W0.drewN n1').cell? ⟨w.heap.size + 1, 2, none⟩ = some (.slice a6 l6 c6) := e4
  generalize W0.drewN n1' = W1 at *
  clear e1 e2 e3 e4 HI HB0
  go_wp2_with fail
  refine (HR.out _ HB1.out).mono ?_
  rintro e w2 ⟨rfl, n2', rfl⟩
  have HB2 : Hid (Below w.heap.size w (W1.drewN n2')) := below_drewN HB1.out n2'
  have g2 : (W1.drewN n2').cell? ⟨w.heap.size, 2, none⟩ = some (.slice a3 l3 c3) := f2
  have g4 : (W1.drewN n2').cell? ⟨w.heap.size + 1, 2, none⟩ = some (.slice a6 l6 c6) := f4
  generalize W1.drewN n2' = W2 at *
  clear f1 f2 f3 f4 HR HB1
  go_wp2_with fail
  refine (HN.out _ HB2.out).mono ?_
  rintro e w3 ⟨rfl, n3', rfl⟩
  have HB3 : Hid (Below w.heap.size w (W2.drewN n3')) := below_drewN HB2.out n3'
  generalize W2.drewN n3' = W3 at *
  clear g2 g4 HN HB2
  cases x
  · go_wp2_with fail
    go_ret
    exact ⟨rfl, HB3.out⟩
  · cases y
    · go_wp2_with fail
      go_ret
      exact ⟨rfl, HB3.out⟩
    · cases z
      · go_wp2_with fail
        go_ret
        exact ⟨rfl, HB3.out⟩
      · go_wp2_with fail
        go_ret
        exact ⟨rfl, HB3.out⟩

end Go.Proofs.YtfppkjpgihnibaaGreatDoor
