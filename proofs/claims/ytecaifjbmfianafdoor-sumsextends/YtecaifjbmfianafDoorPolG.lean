/- What package poly's slopes and addWithoutRoot answer; plain facts on the polynomial through points. -/
import Derived.Test.YtecaifjbmfianafDoorPolF
import Derived.Test.YtecaifjbmfianafDoorPls
namespace Go.Proofs.YtecaifjbmfianafDoor
open Go.RowKit

theorem Cells.drewN {g o n : Nat} {f : Nat → Int} {W : World} (h : Cells g o n f W) (k : Nat) : Cells g o n f (W.drewN k) := ⟨h.cells, h.soft⟩

theorem ps_more' {p : Nat} {f : Nat → Int} (x : Int) (n m : Nat) (hnm : n ≤ m) (h : ∀ j, n ≤ j → j < m → (p : Int) ∣ f j) : (p : Int) ∣ Pol.ps f x m - Pol.ps f x n := by
  induction m with
  | zero => obtain rfl : n = 0 := by omega
            simp
  | succ m ih =>
    by_cases e : n = m + 1
    · subst e; simp
    · have := Int.dvd_add (ih (by omega) (fun j h1 h2 => h j h1 (by omega))) (Int.dvd_mul_of_dvd_left (c := x ^ m) (h m (by omega) (by omega)))
      simp only [Pol.ps]
      rwa [show Pol.ps f x m - Pol.ps f x n + f m * x ^ m = Pol.ps f x m + f m * x ^ m - Pol.ps f x n from by omega] at this

theorem evz_mk {p : Nat} (h3 : 3 ≤ p) (F : Nat → Int) (N : Nat) (x : Int) : evz p (Pol.mk p F N) x = Pol.ps F x N % (p : Int) := by
  unfold evz
  rw [Pol.mk_length]
  refine (Pol.emod_eq_iff (by omega)).2 ?_
  have h1 : (p : Int) ∣ Pol.ps (zat (Pol.mk p F N)) x (Pol.tp p F N) - Pol.ps F x (Pol.tp p F N) := Pol.ps_congr x _ (fun j hj => by
    rw [show zat (Pol.mk p F N) j = (Pol.mk p F N).getD j 0 from rfl, Pol.mk_at p F N j hj]
    exact Pol.emod_dvd p _)
  have h2 := ps_more' (p := p) (f := F) x (Pol.tp p F N) N (Pol.tp_le p F N) (fun j h1 h2 => Pol.emod_zero_iff.1 (Pol.tp_behind p F N j h1 h2))
  have := Int.dvd_sub h1 h2
  rwa [show ∀ a b c : Int, a - b - (c - b) = a - c from fun a b c => by omega] at this

/-- the list of the product without x - xs[k], of the first i -/
def vskl (p : Nat) (xs : List Int) (k i : Nat) : List Int := Pol.mk p (Pol.vsk (zat xs) k i) (i + 1)

theorem slope_eq {p : Nat} (h3 : 3 ≤ p) (xs : List Int) (k : Nat) (hk : k < xs.length) : evz p (pdv p (pvan p xs)) (zat xs k) = evz p (vskl p xs k xs.length) (zat xs k) := by
  have hl := (pvan_list h3 xs).1
  unfold pdv vskl
  rw [evz_mk h3, evz_mk h3, hl, Nat.add_sub_cancel]
  refine (Pol.emod_eq_iff (by omega)).2 ?_
  have h1 : (p : Int) ∣ Pol.ps (Pol.dv (Pol.cf (pvan p xs))) (zat xs k) xs.length - Pol.ps (Pol.dv (Pol.van (zat xs) xs.length)) (zat xs k) xs.length := Pol.ps_congr _ _ (fun j hj => by
    simp only [Pol.dv]
    have e : Pol.cf (pvan p xs) (j + 1) = vn p xs xs.length (j + 1) := (pvan_list h3 xs).2 (j + 1) (by omega)
    rw [e]
    obtain ⟨c, hc⟩ := Pol.emod_dvd p (Pol.van (zat xs) xs.length (j + 1))
    exact ⟨c * ((j : Int) + 1), by rw [show vn p xs xs.length (j + 1) = Pol.van (zat xs) xs.length (j + 1) % (p : Int) from rfl, ← Int.sub_mul, hc]; grind⟩)
  have h2 := Pol.slope (zat xs) k xs.length hk xs.length
  have h0 := Pol.vsk_zero (zat xs) k xs.length xs.length hk (Nat.le_refl _)
  rw [h0] at h2
  have h4 : Pol.ps (Pol.vsk (zat xs) k xs.length) (zat xs k) (xs.length + 1) = Pol.ps (Pol.vsk (zat xs) k xs.length) (zat xs k) xs.length := by
    rw [Pol.ps, h0]; simp
  rw [h4]
  rw [h2] at h1
  rwa [show Pol.ps (Pol.vsk (zat xs) k xs.length) (zat xs k) xs.length - (xs.length : Int) * (0 * zat xs k ^ xs.length) = Pol.ps (Pol.vsk (zat xs) k xs.length) (zat xs k) xs.length from by simp] at h1

/-- what comes of dividing by x - root, from the last place down -/
def sd (p : Nat) (zs : List Int) (root : Int) (n : Nat) : Nat → Int
  | 0 => 0
  | i + 1 => (zat zs (n - i) + sd p zs root n i * root % (p : Int)) % (p : Int)
theorem sd_bounds (p : Nat) (zs : List Int) (root : Int) (n i : Nat) (h3 : 3 ≤ p) : 0 ≤ sd p zs root n i ∧ sd p zs root n i < p := by
  cases i with
  | zero => simp only [sd]; omega
  | succ i => exact emod_bounds _ p h3

theorem sd_vsk {p : Nat} (h3 : 3 ≤ p) (xs : List Int) (k : Nat) (hk : k < xs.length) (i : Nat) (hi : i ≤ xs.length) : sd p (pvan p xs) (zat xs k) xs.length i = Pol.vsk (zat xs) k xs.length (xs.length - i) % (p : Int) := by
  induction i with
  | zero => rw [sd, Nat.sub_zero, Pol.vsk_zero _ _ _ _ hk (Nat.le_refl _)]; simp
  | succ i ih =>
    rw [sd, ih (by omega), (pvan_list h3 xs).2 (xs.length - i) (by omega)]
    have := Pol.vsk_down (zat xs) k xs.length (xs.length - (i + 1)) hk
    rw [show xs.length - (i + 1) + 1 = xs.length - i from by omega] at this
    rw [this]
    unfold vn
    rw [Int.mul_emod (Pol.vsk (zat xs) k xs.length (xs.length - i) % (p : Int)), Int.emod_emod_of_dvd _ (Int.dvd_refl _), ← Int.mul_emod, ← Int.add_emod]

def awf (p : Nat) (f : Nat → Int) (zs : List Int) (root times : Int) (n k : Nat) : Nat → Int := fun j => if n - k ≤ j ∧ j < n then (f j + sd p zs root n (n - j) * times % (p : Int)) % (p : Int) else f j
theorem awf_zero (p : Nat) (f : Nat → Int) (zs : List Int) (root times : Int) (n : Nat) : awf p f zs root times n 0 = f := by
  funext j; unfold awf; rw [if_neg (by omega)]
theorem awf_succ (p : Nat) (f : Nat → Int) (zs : List Int) (root times : Int) (n k : Nat) (hk : k < n) : up (awf p f zs root times n k) (n - 1 - k) ((f (n - 1 - k) + sd p zs root n (k + 1) * times % (p : Int)) % (p : Int)) = awf p f zs root times n (k + 1) := by
  funext j; unfold up awf
  by_cases h : j = n - 1 - k
  · rw [if_pos h, if_pos (by omega), h, show n - (n - 1 - k) = k + 1 from by omega]
  · rw [if_neg h]
    by_cases h2 : n - k ≤ j ∧ j < n
    · rw [if_pos h2, if_pos (by omega)]
    · rw [if_neg h2, if_neg (by omega)]
theorem awf_at (p : Nat) (f : Nat → Int) (zs : List Int) (root times : Int) (n k j : Nat) (h : j < n - k) : awf p f zs root times n k j = f j := by unfold awf; rw [if_neg (by omega)]

end Go.Proofs.YtecaifjbmfianafDoor
