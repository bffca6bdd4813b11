/- Package domain: Field, Size, Point, Points, Half. -/
import Derived.Test.YtidkhgplejglaacDoorDomB
import Derived.Test.YtidkhgplejglaacDoorOwns
import Derived.Test.YtidkhgplejglaacDoorTold
import Derived.Deep.QuietTactic
import Derived.BigQuiet
namespace Go.Proofs.YtidkhgplejglaacDoor
open Go.RowKit

theorem size_any (d b : Nat) (n r s : Int) (w : World) (h : DomAt w d b n r s) :
    Calls Tryd.prog 10 #[.pointer (some ⟨d, 0, none⟩)] w fun e w' => e = .returned (.int .i64 n) ∧ w' = w := by
  obtain ⟨c0, c1, c2, c3⟩ := h
  go_enter Tryd.func10, Tryd.ntmps10
  go_wp2_with fail
  go_ret
  exact ⟨rfl, rfl⟩

theorem dfield_any (d b : Nat) (n r s : Int) (w : World) (h : DomAt w d b n r s) :
    Calls Tryd.prog 11 #[.pointer (some ⟨d, 0, none⟩)] w fun e w' => e = .returned (.pointer (some ⟨b, 0, none⟩)) ∧ w' = w := by
  obtain ⟨c0, c1, c2, c3⟩ := h
  go_enter Tryd.func11, Tryd.ntmps11
  go_wp2_with fail
  go_ret
  exact ⟨rfl, rfl⟩

set_option maxRecDepth 100000 in
set_option maxHeartbeats 1000000 in
theorem points_any (p b d n : Nat) (r s : Int) (w : World) (h3 : 3 ≤ p) (hm : p ≤ 2147483647) (hp : w.cell? ⟨b, 0, none⟩ = some (.int .i64 p)) (hd : DomAt w d b n r s)
    (hn : n ≤ 65536) (hr0 : 0 ≤ r) (hr1 : r < p) (hs0 : 0 ≤ s) (hs1 : s < p) :
    Calls Tryd.prog 7 #[.pointer (some ⟨d, 0, none⟩)] w fun e w' =>
      e = .returned (.slice (some ⟨w.heap.size, 0, none⟩) n n) ∧ w'.rowIs w.heap.size 3 n (fun j => .int .i64 (Dom.pt p s r j)) ∧ Below w.heap.size w w' ∧ w'.heap.size = w.heap.size + 1 := by
  have hbl : b < w.heap.size := by
    rcases Nat.lt_or_ge b w.heap.size with g | g
    · exact g
    · simp [World.cell?, Array.getElem?_eq_none g] at hp
  have hdl := hd.lt
  obtain ⟨c0, c1, c2, c3⟩ := hd
  have hmk := fun n h1 h2 w => run_make_row' (P := Tryd.prog) 27 3 (.int .i64 0) 8 Tryd.underlying27 Tryd.infoInt rfl .i64 .i64 n h1 h2 w
  have hmk2 := hmk n (by omega) (by omega)
  clear hmk
  go_enter Tryd.func7, Tryd.ntmps7
  go_wp2_with fail
  go_loopw [4, 18] (fun xv iv wr => ∃ (k : Nat) (o : Nat → Int), k ≤ n ∧ iv = .int .i64 k ∧ xv = .int .i64 (Dom.pt p s r k) ∧ Hid (wr.rowIs w.heap.size 3 n (fun j => .int .i64 (o j))) ∧ Hid (∀ j, j < k → o j = Dom.pt p s r j) ∧ Hid (Below w.heap.size w wr) ∧ wr.heap.size = w.heap.size + 1)
    (fun _ iv _ => n - (intOf iv).toNat)
  case atStart =>
    refine ⟨0, fun _ => 0, Nat.zero_le _, rfl, by rw [Dom.pt_zero r hs0 hs1], World.rowIs_made _ _ _ _, fun j hj => by omega, ?_, by simp⟩
    exact (Below.refl _ _).alloc (Nat.le_refl _) _
  case round =>
    obtain ⟨k, o, hk, rfl, rfl, hri, hoj, hbel, hsz⟩ := hrel
    by_cases hlt : k < n
    · have hlt2 : (k : Int) < (n : Int) := by omega
      have hok := hri.out.cell hlt
      have hos := hri.out.frozen k
      have hpt := emod_bounds (s * r ^ k) p h3
      rw [show s * r ^ k % (p : Int) = Dom.pt p s r k from rfl] at hpt
      have HRI : Hid ((wr.setCell ⟨w.heap.size, k, none⟩ (.int .i64 (Dom.pt p s r k))).rowIs w.heap.size 3 n (fun j => .int .i64 (up o k (Dom.pt p s r k) j))) :=
        (hri.out.set k (.int .i64 (Dom.pt p s r k))).congr (fun j _ => by show (if j = k then _ else _) = Value.int .i64 (up o k _ j); unfold up; split <;> rfl)
      have HB := hid (hbel.out.setCell (p := ⟨w.heap.size, k, none⟩) (by simp) (.int .i64 (Dom.pt p s r k)))
      have HJ : Hid (∀ j, j < k + 1 → up o k (Dom.pt p s r k) j = Dom.pt p s r j) := fun j hj => by
        unfold up
        by_cases hjk : j = k
        · rw [if_pos hjk, hjk]
        · rw [if_neg hjk]; exact hoj.out j (by omega)
      have hpc := (HB.out.cell (p := ⟨b, 0, none⟩) hbl).trans hp
      have d0 := (HB.out.cell (p := ⟨d, 0, none⟩) hdl).trans c0
      have d2 := (HB.out.cell (p := ⟨d, 2, none⟩) hdl).trans c2
      have HM : Hid (∀ w1 : World, w1.cell? ⟨b, 0, none⟩ = some (.int .i64 p) → Calls Tryd.prog 27 #[.pointer (some ⟨b, 0, none⟩), .int .i64 (Dom.pt p s r k), .int .i64 r] w1 fun e w' => e = .returned (.int .i64 (Dom.pt p s r (k + 1))) ∧ w' = w1) :=
        fun w1 h => by rw [← Dom.pt_succ]; exact mul_any p b _ _ w1 h3 hm h (by omega) (by omega) (by omega) (by omega)
      generalize Dom.pt p s r k = x at *
      go_wp2_with fail
      go_quiet (first
        | (go_at_call 27; exact Calls.quiet_of_same (HM.out _ hpc)))
      go_wp2_with fail
      go_roundw
      case rel => exact ⟨k + 1, _, by omega, by go_num, rfl, HRI, HJ, below_drewN HB.out _, by simp [World.setCell]; exact hsz⟩
      case measure => simp [intOf]; omega
    · have hlt2 : ¬ (k : Int) < (n : Int) := by omega
      go_wp2_with fail
      go_ret
      exact ⟨rfl, hri.out.congr (fun j hj => by rw [hoj.out j (by omega)]), hbel.out, hsz⟩

end Go.Proofs.YtidkhgplejglaacDoor
