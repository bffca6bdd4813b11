/- What package attestref1's Vanish and Fit answer. -/
import Derived.Test.YtecaifjbmfianafDoorPolH
import Derived.Test.YtecaifjbmfianafDoorPls
namespace Go.Proofs.YtecaifjbmfianafDoor
open Go.RowKit

theorem vsk_beyond (xs : Nat → Int) (k n j : Nat) (h : n < j) : Pol.vsk xs k n j = 0 := by
  induction n generalizing j with
  | zero => simp [Pol.vsk, Pol.one]; omega
  | succ n ih =>
    rw [Pol.vsk]
    by_cases e : n = k
    · rw [if_pos e]; exact ih j (by omega)
    · rw [if_neg e, Pol.mul_lin]; simp only [Pol.sub, Pol.sh, Pol.sc]
      rw [if_neg (by omega), ih _ (by omega), ih _ (by omega)]; simp
theorem vsk_b (p : Nat) (xs : Nat → Int) (k n : Nat) : ∀ j, n + 1 ≤ j → Pol.vsk xs k n j % (p : Int) = 0 := fun j hj => by rw [vsk_beyond _ _ _ _ (by omega)]; simp

theorem vskl_zero {p : Nat} (h3 : 3 ≤ p) (xs : List Int) (k : Nat) : vskl p xs k 0 = [1] := by
  refine Pol.can_eq (by omega) (Pol.mk_can (by omega) _ _) ⟨fun j hj => ?_, fun _ => ?_⟩ ((Pol.mk_eqp (vsk_b p _ k 0)).trans (Pol.Eqp.of_eq ?_))
  · simp at hj; subst hj; simp; omega
  · simp
  · rw [Pol.cf_one]; rfl
theorem vskl_skip {p : Nat} (h3 : 3 ≤ p) (xs : List Int) (k : Nat) : vskl p xs k (k + 1) = vskl p xs k k := by
  refine Pol.mk_congr (by omega) (vsk_b p _ k (k + 1)) (vsk_b p _ k k) (Pol.Eqp.of_eq ?_)
  rw [Pol.vsk, if_pos rfl]
theorem lin_list (p : Nat) (x : Int) : Pol.Eqp p (Pol.cf [(0 - x) % (p : Int), 1]) (Pol.lin x) := fun j => by
  match j with
  | 0 =>
    have := Pol.emod_dvd p (0 - x)
    simpa [Pol.cf, Pol.lin, Pol.sub, Pol.sh, Pol.sc, Pol.one] using this
  | 1 => simp [Pol.cf, Pol.lin, Pol.sub, Pol.sh, Pol.sc, Pol.one]
  | j + 2 => simp [Pol.cf, Pol.lin, Pol.sub, Pol.sh, Pol.sc, Pol.one]
theorem vskl_succ {p : Nat} (h3 : 3 ≤ p) (xs : List Int) (k i : Nat) (h : i ≠ k) : Pol.pmul p (vskl p xs k i) [(0 - zat xs i) % (p : Int), 1] = vskl p xs k (i + 1) := by
  refine Pol.mk_congr (by omega) (Pol.pmul_b p _ _) (vsk_b p _ k (i + 1)) ?_
  rw [Pol.vsk, if_neg h]
  exact (Pol.mk_eqp (vsk_b p _ k i)).mul (lin_list p (zat xs i))
theorem vskl_le (p : Nat) (xs : List Int) (k i : Nat) : (vskl p xs k i).length ≤ i + 1 := by rw [vskl, Pol.mk_length]; exact Pol.tp_le _ _ _
theorem vskl_can {p : Nat} (h3 : 3 ≤ p) (xs : List Int) (k i : Nat) : Pol.Can p (vskl p xs k i) := Pol.mk_can (by omega) _ _
theorem vskl_van (p : Nat) (xs : List Int) : vskl p xs xs.length xs.length = pvan p xs := by
  unfold vskl pvan; rw [Pol.vsk_van _ _ _ (Nat.le_refl _)]

theorem two_at (W : World) (x y : Int) : (W.alloc (.cells #[.int .i64 x, .int .i64 y] 3)).cell? ⟨W.heap.size, 0, none⟩ = some (.int .i64 x) ∧ (W.alloc (.cells #[.int .i64 x, .int .i64 y] 3)).cell? ⟨W.heap.size, 1, none⟩ = some (.int .i64 y) := by simp
theorem one_at' (W : World) (x : Int) : (W.alloc (.cells #[.int .i64 x] 3)).cell? ⟨W.heap.size, 0, none⟩ = some (.int .i64 x) := by simp

/-- the sum of the first i, as a list -/
def fl (p : Nat) (xs ys : List Int) (i : Nat) : List Int := Pol.mk p (FS p xs ys i) xs.length
theorem fl_b (p : Nat) (xs ys : List Int) (i : Nat) (hi : i ≤ xs.length) : ∀ j, xs.length ≤ j → FS p xs ys i j % (p : Int) = 0 := fun j hj => by rw [FS_zero p xs ys i hi j hj]; simp
theorem fl_zero {p : Nat} (xs ys : List Int) : fl p xs ys 0 = [] := by
  have : (fl p xs ys 0).length = 0 := by
    rw [fl, Pol.mk_length]
    exact Nat.le_zero.1 (Pol.tp_bound (fun j _ => by simp [FS, Pol.zero]))
  exact List.length_eq_zero_iff.1 this
theorem fl_succ {p : Nat} (h3 : 3 ≤ p) (xs ys : List Int) (i : Nat) (hi : i < xs.length) : Pol.padd p (fl p xs ys i) (Pol.pscale p (vskl p xs i xs.length) (fc p xs ys i) 0) = fl p xs ys (i + 1) := by
  refine Pol.mk_congr (by omega) (Pol.padd_b p _ _) (fl_b p xs ys (i + 1) (by omega)) ?_
  rw [FS]
  refine (Pol.mk_eqp (fl_b p xs ys i (by omega))).add ((Pol.pscale_eqp p _ _ 0).trans ?_)
  rw [Pol.sh_zero]
  exact (Pol.mk_eqp (vsk_b p _ i xs.length)).sc _
theorem fl_le (p : Nat) (xs ys : List Int) (i : Nat) : (fl p xs ys i).length ≤ xs.length := by rw [fl, Pol.mk_length]; exact Pol.tp_le _ _ _
theorem fl_can {p : Nat} (h3 : 3 ≤ p) (xs ys : List Int) (i : Nat) : Pol.Can p (fl p xs ys i) := Pol.mk_can (by omega) _ _

end Go.Proofs.YtecaifjbmfianafDoor
