/- attestref5.Row; attestsame.Openings. -/
import Derived.Test.YtcajofdmadpmoaaDoorTres
import Derived.Test.YtcajofdmadpmoaaDoorPls
import Derived.StillTailTactics
namespace Go.Proofs.YtcajofdmadpmoaaDoor
open Go.RowKit

set_option maxRecDepth 100000 in
set_option maxHeartbeats 4000000 in
theorem openings_any (c1 c2 c3 c4 c5 c6 : Nat) (a1 a2 a3 a4 a5 a6 : Option Addr) (p1 p2 : List Int) (r1 r2 n1 n2 : List (List Int)) (w : World) (hx1 : p1.length ≤ 9223372036854775807) (hx2 : p2.length ≤ 9223372036854775807) (hx3 : r1.length ≤ 9223372036854775807) (hx4 : r2.length ≤ 9223372036854775807) (hx5 : n1.length ≤ 9223372036854775807) (hx6 : n2.length ≤ 9223372036854775807)
    (hf3 : ∀ k, k < r1.length → (rat r1 k).length ≤ 9223372036854775807) (hf4 : ∀ k, k < r2.length → (rat r2 k).length ≤ 9223372036854775807) (hf5 : ∀ k, k < n1.length → (rat n1 k).length ≤ 9223372036854775807) (hf6 : ∀ k, k < n2.length → (rat n2 k).length ≤ 9223372036854775807)
    (hl1 : RowB w.heap.size w a1 p1) (hl2 : RowB w.heap.size w a4 p2) (hl3 : LstR w.heap.size w a2 c2 r1) (hl4 : LstR w.heap.size w a5 c5 r2) (hl5 : LstR w.heap.size w a3 c3 n1) (hl6 : LstR w.heap.size w a6 c6 n2) :
    Calls Tryd.prog 24 #[.agg #[.slice a1 p1.length c1, .slice a2 r1.length c2, .slice a3 n1.length c3], .agg #[.slice a4 p2.length c4, .slice a5 r2.length c5, .slice a6 n2.length c6]] w fun e w' => e = .returned (.bool (decide (p1 = p2) && decide (r1 = r2) && decide (n1 = n2))) ∧ Below w.heap.size w w' := by
  have HI : Hid (∀ W, Below w.heap.size w W → Calls Tryd.prog 22 #[.slice a1 p1.length c1, .slice a4 p2.length c4] W fun e w' => e = .returned (.bool (decide (p1 = p2))) ∧ ∃ n, w' = W.drewN n) := fun W h => ints_any p1 p2 _ _ W (rowZ_of_B c1 (hl1.below h)) (rowZ_of_B c4 (hl2.below h)) hx1 hx2
  have HR : Hid (∀ W, Below w.heap.size w W → Calls Tryd.prog 37 #[.slice a2 r1.length c2, .slice a5 r2.length c5] W fun e w' => e = .returned (.bool (decide (r1 = r2))) ∧ ∃ n, w' = W.drewN n) := fun W h => srows_any c2 c5 a2 a5 r1 r2 _ _ W hx3 hx4 hf3 hf4 (hl3.below h) (hl4.below h)
  have HN : Hid (∀ W, Below w.heap.size w W → Calls Tryd.prog 37 #[.slice a3 n1.length c3, .slice a6 n2.length c6] W fun e w' => e = .returned (.bool (decide (n1 = n2))) ∧ ∃ n, w' = W.drewN n) := fun W h => srows_any c3 c6 a3 a6 n1 n2 _ _ W hx5 hx6 hf5 hf6 (hl5.below h) (hl6.below h)
  clear hl1 hl2 hl3 hl4 hl5 hl6 hf3 hf4 hf5 hf6 hx1 hx2 hx3 hx4 hx5 hx6
  generalize decide (p1 = p2) = x at *
  generalize decide (r1 = r2) = y at *
  generalize decide (n1 = n2) = z at *
  generalize p1.length = l1 at *
  generalize p2.length = l4 at *
  generalize r1.length = l2 at *
  generalize r2.length = l5 at *
  generalize n1.length = l3 at *
  generalize n2.length = l6 at *
  go_enter Tryd.func24, Tryd.ntmps24
  go_wp2_with fail
  have e1 : ((w.alloc (.cells #[.slice a1 l1 c1, .slice a2 l2 c2, .slice a3 l3 c3] 28)).alloc (.cells #[.slice a4 l4 c4, .slice a5 l5 c5, .slice a6 l6 c6] 28)).cell? ⟨w.heap.size, 1, none⟩ = some (.slice a2 l2 c2) := by simp
  have e2 : ((w.alloc (.cells #[.slice a1 l1 c1, .slice a2 l2 c2, .slice a3 l3 c3] 28)).alloc (.cells #[.slice a4 l4 c4, .slice a5 l5 c5, .slice a6 l6 c6] 28)).cell? ⟨w.heap.size, 2, none⟩ = some (.slice a3 l3 c3) := by simp
  have e3 : ((w.alloc (.cells #[.slice a1 l1 c1, .slice a2 l2 c2, .slice a3 l3 c3] 28)).alloc (.cells #[.slice a4 l4 c4, .slice a5 l5 c5, .slice a6 l6 c6] 28)).cell? ⟨w.heap.size + 1, 1, none⟩ = some (.slice a5 l5 c5) := by simp
  have e4 : ((w.alloc (.cells #[.slice a1 l1 c1, .slice a2 l2 c2, .slice a3 l3 c3] 28)).alloc (.cells #[.slice a4 l4 c4, .slice a5 l5 c5, .slice a6 l6 c6] 28)).cell? ⟨w.heap.size + 1, 2, none⟩ = some (.slice a6 l6 c6) := by simp
  have HB0 : Hid (Below w.heap.size w ((w.alloc (.cells #[.slice a1 l1 c1, .slice a2 l2 c2, .slice a3 l3 c3] 28)).alloc (.cells #[.slice a4 l4 c4, .slice a5 l5 c5, .slice a6 l6 c6] 28))) := ((Below.refl _ _).alloc (Nat.le_refl _) _).alloc (by simp) _
  generalize (w.alloc (.cells #[.slice a1 l1 c1, .slice a2 l2 c2, .slice a3 l3 c3] 28)).alloc (.cells #[.slice a4 l4 c4, .slice a5 l5 c5, .slice a6 l6 c6] 28) = W0 at *
  refine (HI.out _ HB0.out).mono ?_
  rintro e w1 ⟨rfl, n1', rfl⟩
  have HB1 : Hid (Below w.heap.size w (W0.drewN n1')) := below_drewN HB0.out n1'
  have f1 : (W0.drewN n1').cell? ⟨w.heap.size, 1, none⟩ = some (.slice a2 l2 c2) := e1
  have f2 : (W0.drewN n1').cell? ⟨w.heap.size, 2, none⟩ = some (.slice a3 l3 c3) := e2
  have f3 : (W0.drewN n1').cell? ⟨w.heap.size + 1, 1, none⟩ = some (.slice a5 l5 c5) := e3
  have f4 : (W0.drewN n1').cell? ⟨w.heap.size + 1, 2, none⟩ = some (.slice a6 l6 c6) := e4
  generalize W0.drewN n1' = W1 at *
  clear e1 e2 e3 e4 HI HB0
  go_wp2_with fail
  refine (HR.out _ HB1.out).mono ?_
  rintro e w2 ⟨rfl, n2', rfl⟩
  have HB2 : Hid (Below w.heap.size w (W1.drewN n2')) := below_drewN HB1.out n2'
  have g2 : (W1.drewN n2').cell? ⟨w.heap.size, 2, none⟩ = some (.slice a3 l3 c3) := f2
  have g4 : (W1.drewN n2').cell? ⟨w.heap.size + 1, 2, none⟩ = some (.slice a6 l6 c6) := f4
  generalize W1.drewN n2' = W2 at *
  clear f1 f2 f3 f4 HR HB1
  go_wp2_with fail
  refine (HN.out _ HB2.out).mono ?_
  rintro e w3 ⟨rfl, n3', rfl⟩
  have HB3 : Hid (Below w.heap.size w (W2.drewN n3')) := below_drewN HB2.out n3'
  generalize W2.drewN n3' = W3 at *
  clear g2 g4 HN HB2
  cases x
  · go_wp2_with fail
    go_ret
    exact ⟨rfl, HB3.out⟩
  · cases y
    · go_wp2_with fail
      go_ret
      exact ⟨rfl, HB3.out⟩
    · cases z
      · go_wp2_with fail
        go_ret
        exact ⟨rfl, HB3.out⟩
      · go_wp2_with fail
        go_ret
        exact ⟨rfl, HB3.out⟩

end Go.Proofs.YtcajofdmadpmoaaDoor
