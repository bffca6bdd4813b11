/- Plain facts on sums over a cube, of no program: the polynomial through some points is what it should be there; a Total with its first variable let be x; extensions. Pledges, plainly: columns, sums of rows, what a table that is 1 at one place extends to. Package pledge: areWide, column, powers, across, Mix. Plain facts on mending a word: lists of places; what is 0 at given points alone; the polynomial that a word is of, but for few places, is what the division gives. -/
import Derived.Test.YtlhjifpomchnfaaGreatDoorPoAD
import Derived.Test.YtlhjifpomchnfaaGreatDoorPlain
import Derived.Test.YtlhjifpomchnfaaGreatDoorRefs
import Derived.Test.YtlhjifpomchnfaaGreatDoorSpgs
import Derived.Test.YtlhjifpomchnfaaGreatDoorPls
import Derived.StillTailTactics
import Derived.Test.YtlhjifpomchnfaaGreatDoorPoAB
import Derived.Test.YtlhjifpomchnfaaGreatDoorDoms
namespace Go.Proofs.YtlhjifpomchnfaaGreatDoor.Sum
open Pol Dom

/-- a product of the first n -/
def prz (f : Nat → Int) : Nat → Int
  | 0 => 1
  | n + 1 => prz f n * f n
theorem prz_same {f g : Nat → Int} {n : Nat} (h : ∀ i, i < n → f i = g i) : prz f n = prz g n := by
  induction n with
  | zero => rfl
  | succ n ih => simp only [prz]; rw [ih (fun i hi => h i (by omega)), h n (by omega)]
theorem dvd_mul_sub {p : Nat} {a b c d : Int} (h : (p : Int) ∣ a - b) (k : (p : Int) ∣ c - d) : (p : Int) ∣ a * c - b * d := by
  have h1 := Int.dvd_mul_of_dvd_left (c := c) h
  have h2 := Int.dvd_mul_of_dvd_right (b := b) k
  have := Int.dvd_add h1 h2
  rwa [show (a - b) * c + b * (c - d) = a * c - b * d from by grind] at this
theorem dvd_add_sub {p : Nat} {a b c d : Int} (h : (p : Int) ∣ a - b) (k : (p : Int) ∣ c - d) : (p : Int) ∣ (a + c) - (b + d) := by
  have := Int.dvd_add h k
  rwa [show (a - b) + (c - d) = (a + c) - (b + d) from by omega] at this
theorem prz_congr {p : Nat} {f g : Nat → Int} {n : Nat} (h : ∀ i, i < n → (p : Int) ∣ f i - g i) : (p : Int) ∣ prz f n - prz g n := by
  induction n with
  | zero => simp [prz]
  | succ n ih => simp only [prz]; exact dvd_mul_sub (ih (fun i hi => h i (by omega))) (h n (by omega))
theorem prz_zero {f : Nat → Int} {n k : Nat} (hk : k < n) (h : f k = 0) : prz f n = 0 := by
  induction n with
  | zero => omega
  | succ n ih =>
    simp only [prz]
    by_cases e : k = n
    · subst e; rw [h]; simp
    · rw [ih (by omega)]; simp
theorem prz_prime {p : Nat} (hp : Num.Prime p) {f : Nat → Int} {n : Nat} (h : ∀ i, i < n → ¬ (p : Int) ∣ f i) (h1 : ¬ (p : Int) ∣ 1) : ¬ (p : Int) ∣ prz f n := by
  induction n with
  | zero => exact h1
  | succ n ih =>
    simp only [prz]
    intro hd
    rcases prime_mul hp hd with g | g
    · exact ih (fun i hi => h i (by omega)) g
    · exact h n (by omega) g

/-- y less all points but the k-th, multiplied -/
def pvk (xs : Nat → Int) (k : Nat) (y : Int) (n : Nat) : Int := prz (fun i => if i = k then 1 else y - xs i) n
theorem lin_b (x : Int) : ∀ j, 2 ≤ j → lin x j = 0 := fun j hj => by
  unfold lin
  simp only [Pol.sub, Pol.sh, Pol.sc, Pol.one]
  rw [if_neg (by omega), if_neg (by omega), if_neg (by omega)]
  simp
theorem ps_lin (x y : Int) : ps (lin x) y 2 = y - x := by
  unfold lin
  simp [ps, Pol.sub, Pol.sh, Pol.sc, Pol.one, Int.pow_succ]
  omega
theorem vsk_far (xs : Nat → Int) (k n j : Nat) (h : n < j) : vsk xs k n j = 0 := by
  induction n generalizing j with
  | zero => rw [vsk]; unfold Pol.one; rw [if_neg (by omega)]
  | succ n ih =>
    rw [vsk]
    split
    · exact ih j (by omega)
    · rw [mul_lin]
      unfold Pol.sub Pol.sh Pol.sc
      rw [if_neg (by omega), ih (j - 1) (by omega), ih j (by omega)]
      simp
theorem ps_vsk (xs : Nat → Int) (k : Nat) (y : Int) (n : Nat) : ps (vsk xs k n) y (n + 1) = pvk xs k y n := by
  induction n with
  | zero => simp [vsk, pvk, prz, ps, Pol.one]
  | succ n ih =>
    rw [vsk]
    unfold pvk prz
    split
    · rename_i e
      rw [ps_stay _ _ (n + 1) (n + 1 + 1) (by omega) (fun j hj => vsk_far _ _ _ _ (by omega)), ih]
      simp [pvk]
    · have h := ps_mul (vsk xs k n) (lin (xs n)) y (n + 1) 2 (fun j hj => vsk_far _ _ _ _ (by omega)) (lin_b _)
      have h2 : ps (mul (vsk xs k n) (lin (xs n))) y (n + 1 + 2) = ps (mul (vsk xs k n) (lin (xs n))) y (n + 1 + 1) := ps_stay _ _ (n + 1 + 1) (n + 1 + 2) (by omega) (fun j hj => by
        rw [mul_lin]
        unfold Pol.sub Pol.sh Pol.sc
        rw [if_neg (by omega), vsk_far _ _ _ _ (show n < j - 1 by omega), vsk_far _ _ _ _ (show n < j by omega)]
        simp)
      rw [← h2, h, ih, ps_lin]
      rfl
theorem ps_vsk' (xs : Nat → Int) (k : Nat) (y : Int) (n : Nat) (hk : k < n) : ps (vsk xs k n) y n = pvk xs k y n := by
  rw [← ps_vsk, ps_stay _ _ n (n + 1) (by omega) (fun j hj => vsk_zero _ _ _ _ hk hj)]
theorem pvk_other {xs : Nat → Int} {k j n : Nat} (hj : j < n) (h : j ≠ k) : pvk xs k (xs j) n = 0 := by
  unfold pvk
  refine prz_zero hj ?_
  simp [h]

theorem fs_at {p : Nat} (xs ys : List Int) (j i : Nat) (hj : j < xs.length) (hi : i ≤ xs.length) : ps (FS p xs ys i) (zat xs j) xs.length = if j < i then fc p xs ys j * pvk (zat xs) j (zat xs j) xs.length else 0 := by
  induction i with
  | zero => rw [FS, ps_zero]; simp
  | succ i ih =>
    rw [FS, ps_add, ps_sc, ih (by omega), ps_vsk' _ _ _ _ (by omega)]
    by_cases e : j = i
    · subst e
      rw [if_neg (by omega), if_pos (by omega)]
      omega
    · rw [pvk_other hj e]
      by_cases h : j < i
      · rw [if_pos h, if_pos (by omega)]; simp
      · rw [if_neg h, if_neg (by omega)]; simp

/-- the polynomial through the points is there what it should be -/
theorem pfit_at {p : Nat} (hp : Num.Prime p) (h3 : 3 ≤ p) (xs ys : List Int) (hu : ∀ i j, i < j → j < xs.length → ¬ (p : Int) ∣ zat xs j - zat xs i) (j : Nat) (hj : j < xs.length) : (p : Int) ∣ ps (FS p xs ys xs.length) (zat xs j) xs.length - zat ys j := by
  rw [fs_at xs ys j xs.length hj (Nat.le_refl _), if_pos hj]
  obtain ⟨P, hP⟩ : ∃ P, P = pvk (zat xs) j (zat xs j) xs.length := ⟨_, rfl⟩
  rw [← hP]
  have hev : (p : Int) ∣ evz p (vskl p xs j xs.length) (zat xs j) - P := by
    unfold vskl
    rw [evz_mk h3, ps_vsk, ← hP]
    exact emod_dvd p P
  have hnd : ¬ (p : Int) ∣ P := by
    rw [hP]
    refine prz_prime hp (fun i hi => ?_) ?_
    · split
      · intro h
        have := Int.le_of_dvd (by omega) h
        omega
      · rename_i hne
        rcases Nat.lt_or_gt_of_ne hne with g | g
        · exact hu i j g hj
        · intro h
          apply hu j i g hi
          have := Int.dvd_neg.2 h
          rwa [show -(zat xs j - zat xs i) = zat xs i - zat xs j from by omega] at this
    · intro h
      have := Int.le_of_dvd (by omega) h
      omega
  have hne : ¬ (p : Int) ∣ evz p (vskl p xs j xs.length) (zat xs j) := fun h => hnd (by
    have := Int.dvd_sub h hev
    rwa [show evz p (vskl p xs j xs.length) (zat xs j) - (evz p (vskl p xs j xs.length) (zat xs j) - P) = P from by omega] at this)
  have hinv := invn_dvd hp h3 hne
  obtain ⟨V, hV⟩ : ∃ V, V = evz p (vskl p xs j xs.length) (zat xs j) := ⟨_, rfl⟩
  rw [← hV] at hev hinv
  have hfc : (p : Int) ∣ fc p xs ys j - zat ys j * (invn p V : Int) := by
    unfold fc
    rw [← hV]
    exact emod_dvd p _
  generalize (invn p V : Int) = I at *
  generalize fc p xs ys j = C at *
  generalize zat ys j = Y at *
  obtain ⟨a, ha⟩ := hev
  obtain ⟨b, hb⟩ := hinv
  obtain ⟨c, hc⟩ := hfc
  refine ⟨c * P + Y * b - Y * I * a, ?_⟩
  have e1 : C = (p : Int) * c + Y * I := by omega
  have e2 : V = (p : Int) * a + P := by omega
  rw [e2] at hb
  have e3 : I * P = (p : Int) * b + 1 - I * ((p : Int) * a) := by
    have : I * ((p : Int) * a + P) = I * ((p : Int) * a) + I * P := Int.mul_add _ _ _
    omega
  rw [e1]
  have k1 : ((p : Int) * c + Y * I) * P - Y = (p : Int) * c * P + Y * (I * P) - Y := by grind
  rw [k1, e3]
  grind

/-- two of few places that agree at as many unlike elements agree everywhere -/
theorem agree {p : Nat} (hp : Num.Prime p) (n : Nat) (f g : S) (xs : Nat → Int) (hu : ∀ i j, i < j → j < n → ¬ (p : Int) ∣ xs j - xs i) (h : ∀ i, i < n → (p : Int) ∣ ps f (xs i) n - ps g (xs i) n) (x : Int) : (p : Int) ∣ ps f x n - ps g x n := by
  have hz := roots hp n (Pol.sub f g) xs hu (fun i hi => by
    have := h i hi
    rw [ps_sm, ps_sm] at this
    rw [ps_sm]
    have e : sm (fun j => Pol.sub f g j * xs i ^ j) n = sm (fun j => f j * xs i ^ j) n - sm (fun j => g j * xs i ^ j) n := by
      have h1 := sm_add (fun j => Pol.sub f g j * xs i ^ j) (fun j => g j * xs i ^ j) n
      rw [show (fun j => Pol.sub f g j * xs i ^ j + g j * xs i ^ j) = (fun j => f j * xs i ^ j) from funext fun j => by unfold Pol.sub; grind] at h1
      omega
    rw [e]
    exact this)
  exact ps_congr x n (fun j hj => hz j hj)

/-- a straight one -/
def str (a b : Int) : S := fun j => if j = 0 then a else if j = 1 then b - a else 0
theorem str_b (a b : Int) : ∀ j, 2 ≤ j → str a b j = 0 := fun j hj => by unfold str; rw [if_neg (by omega), if_neg (by omega)]
theorem ps_str (a b x : Int) : ps (str a b) x 2 = a * (1 - x) + b * x := by
  simp [ps, str]
  grind
/-- the product of d straight ones -/
def strs (a b : Nat → Int) : Nat → S
  | 0 => Pol.one
  | d + 1 => Pol.mul (strs a b d) (str (a d) (b d))
theorem strs_b (a b : Nat → Int) (d : Nat) : ∀ j, d + 1 ≤ j → strs a b d j = 0 := by
  induction d with
  | zero => intro j hj; unfold strs Pol.one; rw [if_neg (by omega)]
  | succ d ih => intro j hj; exact ml_zero_beyond _ _ (d + 1) 2 ih (str_b _ _) j (by omega)
theorem ps_strs (a b : Nat → Int) (x : Int) (d : Nat) : ps (strs a b d) x (d + 1) = prz (fun k => a k * (1 - x) + b k * x) d := by
  induction d with
  | zero => simp [strs, prz, ps, Pol.one]
  | succ d ih =>
    rw [strs, prz, ← ih, ← ps_str, ← ps_mul _ _ _ (d + 1) 2 (strs_b a b d) (str_b _ _), ← ps_stay (Pol.mul (strs a b d) (str (a d) (b d))) x (d + 1 + 1) (d + 1 + 2) (by omega) (strs_b a b (d + 1))]
/-- their sum over h places -/
def sstrs (a b : Nat → Nat → Int) (d : Nat) : Nat → S
  | 0 => Pol.zero
  | h + 1 => Pol.add (sstrs a b d h) (strs (fun k => a k h) (fun k => b k h) d)
theorem ps_sstrs (a b : Nat → Nat → Int) (x : Int) (d h : Nat) : ps (sstrs a b d h) x (d + 1) = sm (fun i => prz (fun k => a k i * (1 - x) + b k i * x) d) h := by
  induction h with
  | zero => rw [sstrs, ps_zero]; rfl
  | succ h ih => rw [sstrs, ps_add, ih, ps_strs]; rfl

/-- what the sum is, its first variable being x -/
def tqx (t : Nat → Nat → Int) (d h : Nat) (x : Int) : Int := sm (fun i => prz (fun k => t k i * (1 - x) + t k (i + h) * x) d) h
theorem sm_split (f : Nat → Int) (m n : Nat) : sm f (m + n) = sm f m + sm (fun i => f (m + i)) n := by
  induction n with
  | zero => simp [sm]
  | succ n ih => rw [← Nat.add_assoc, sm, ih, sm]; omega
/-- at 0 and at 1 it has the whole sum -/
theorem tqx_ends (t : Nat → Nat → Int) (d h : Nat) : tqx t d h 0 + tqx t d h 1 = sm (fun i => prz (fun k => t k i) d) (h + h) := by
  rw [sm_split]
  unfold tqx
  congr 1
  · apply sm_same; intro i _; apply prz_same; intro k _; simp
  · apply sm_same; intro i _; apply prz_same; intro k _; simp [Nat.add_comm]
/-- whatever of few places agrees with it at as many unlike elements agrees with it everywhere -/
theorem tqx_agree {p : Nat} (hp : Num.Prime p) (t : Nat → Nat → Int) (d h : Nat) (f : S) (xs : Nat → Int) (hu : ∀ i j, i < j → j < d + 1 → ¬ (p : Int) ∣ xs j - xs i) (hf : ∀ i, i < d + 1 → (p : Int) ∣ ps f (xs i) (d + 1) - tqx t d h (xs i)) (x : Int) : (p : Int) ∣ ps f x (d + 1) - tqx t d h x := by
  have h1 := agree hp (d + 1) f (sstrs (fun k i => t k i) (fun k i => t k (i + h)) d h) xs hu (fun i hi => by rw [ps_sstrs]; exact hf i hi) x
  rw [ps_sstrs] at h1
  exact h1

/-! ## extensions -/
end Go.Proofs.YtlhjifpomchnfaaGreatDoor.Sum

namespace Go.Proofs.YtlhjifpomchnfaaGreatDoor
open Go.RowKit

/-- what rows have at a place -/
def pgc (rows : List (List Int)) (j : Nat) : List Int := rows.map fun r => zat r j
theorem ps_sm (f : Nat → Int) (x : Int) (n : Nat) : Pol.ps f x n = Dom.sm (fun i => f i * x ^ i) n := by
  induction n with
  | zero => rfl
  | succ n ih => simp only [Pol.ps, Dom.sm]; rw [ih]
end Go.Proofs.YtlhjifpomchnfaaGreatDoor

namespace Go.Proofs.YtlhjifpomchnfaaGreatDoor
open Go.RowKit

end Go.Proofs.YtlhjifpomchnfaaGreatDoor

namespace Go.Proofs.YtlhjifpomchnfaaGreatDoor
open Go.RowKit Pol

/-! ## 0 at given points alone -/
theorem ps_lin (x y : Int) : ps (lin y) x 2 = x - y := by simp [ps, lin, sub, sh, sc, Pol.one, Int.pow_succ]; omega
/-! ## the way back to the polynomial -/
end Go.Proofs.YtlhjifpomchnfaaGreatDoor
