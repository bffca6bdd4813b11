/- Plain facts on sums over a cube, of no program: the polynomial through some points is what it should be there; a Total with its first variable let be x; extensions. What package attestref1's Vanish and Fit answer. attestref4: Variables, Over, weight, Extend, Fix, Total, At. -/
import Derived.Test.YtpgnabmkfkcogaaGreatDoorGmAD
import Derived.Test.YtpgnabmkfkcogaaGreatDoorPlain
import Derived.Test.YtpgnabmkfkcogaaGreatDoorPls
import Derived.Test.YtpgnabmkfkcogaaGreatDoorRefs
import Derived.Test.YtpgnabmkfkcogaaGreatDoorGmAB
import Derived.BigQuiet
namespace Go.Proofs.YtpgnabmkfkcogaaGreatDoor.Sum
open Pol Dom

/-- a product of the first n -/
def prz (f : Nat → Int) : Nat → Int
  | 0 => 1
  | n + 1 => prz f n * f n
theorem prz_same {f g : Nat → Int} {n : Nat} (h : ∀ i, i < n → f i = g i) : prz f n = prz g n := by
  induction n with
  | zero => rfl
  | succ n ih => simp only [prz]; rw [ih (fun i hi => h i (by omega)), h n (by omega)]
theorem dvd_mul_sub {p : Nat} {a b c d : Int} (h : (p : Int) ∣ a - b) (k : (p : Int) ∣ c - d) : (p : Int) ∣ a * c - b * d := by
  have h1 := Int.dvd_mul_of_dvd_left (c := c) h
  have h2 := Int.dvd_mul_of_dvd_right (b := b) k
  have := Int.dvd_add h1 h2
  rwa [show (a - b) * c + b * (c - d) = a * c - b * d from by grind] at this
theorem dvd_add_sub {p : Nat} {a b c d : Int} (h : (p : Int) ∣ a - b) (k : (p : Int) ∣ c - d) : (p : Int) ∣ (a + c) - (b + d) := by
  have := Int.dvd_add h k
  rwa [show (a - b) + (c - d) = (a + c) - (b + d) from by omega] at this
theorem prz_congr {p : Nat} {f g : Nat → Int} {n : Nat} (h : ∀ i, i < n → (p : Int) ∣ f i - g i) : (p : Int) ∣ prz f n - prz g n := by
  induction n with
  | zero => simp [prz]
  | succ n ih => simp only [prz]; exact dvd_mul_sub (ih (fun i hi => h i (by omega))) (h n (by omega))
theorem prz_zero {f : Nat → Int} {n k : Nat} (hk : k < n) (h : f k = 0) : prz f n = 0 := by
  induction n with
  | zero => omega
  | succ n ih =>
    simp only [prz]
    by_cases e : k = n
    · subst e; rw [h]; simp
    · rw [ih (by omega)]; simp
theorem prz_prime {p : Nat} (hp : Num.Prime p) {f : Nat → Int} {n : Nat} (h : ∀ i, i < n → ¬ (p : Int) ∣ f i) (h1 : ¬ (p : Int) ∣ 1) : ¬ (p : Int) ∣ prz f n := by
  induction n with
  | zero => exact h1
  | succ n ih =>
    simp only [prz]
    intro hd
    rcases prime_mul hp hd with g | g
    · exact ih (fun i hi => h i (by omega)) g
    · exact h n (by omega) g

/-- y less all points but the k-th, multiplied -/
def pvk (xs : Nat → Int) (k : Nat) (y : Int) (n : Nat) : Int := prz (fun i => if i = k then 1 else y - xs i) n
theorem lin_b (x : Int) : ∀ j, 2 ≤ j → lin x j = 0 := fun j hj => by
  unfold lin
  simp only [Pol.sub, Pol.sh, Pol.sc, Pol.one]
  rw [if_neg (by omega), if_neg (by omega), if_neg (by omega)]
  simp
theorem ps_lin (x y : Int) : ps (lin x) y 2 = y - x := by
  unfold lin
  simp [ps, Pol.sub, Pol.sh, Pol.sc, Pol.one, Int.pow_succ]
  omega
theorem vsk_far (xs : Nat → Int) (k n j : Nat) (h : n < j) : vsk xs k n j = 0 := by
  induction n generalizing j with
  | zero => rw [vsk]; unfold Pol.one; rw [if_neg (by omega)]
  | succ n ih =>
    rw [vsk]
    split
    · exact ih j (by omega)
    · rw [mul_lin]
      unfold Pol.sub Pol.sh Pol.sc
      rw [if_neg (by omega), ih (j - 1) (by omega), ih j (by omega)]
      simp
theorem ps_vsk (xs : Nat → Int) (k : Nat) (y : Int) (n : Nat) : ps (vsk xs k n) y (n + 1) = pvk xs k y n := by
  induction n with
  | zero => simp [vsk, pvk, prz, ps, Pol.one]
  | succ n ih =>
    rw [vsk]
    unfold pvk prz
    split
    · rename_i e
      rw [ps_stay _ _ (n + 1) (n + 1 + 1) (by omega) (fun j hj => vsk_far _ _ _ _ (by omega)), ih]
      simp [pvk]
    · have h := ps_mul (vsk xs k n) (lin (xs n)) y (n + 1) 2 (fun j hj => vsk_far _ _ _ _ (by omega)) (lin_b _)
      have h2 : ps (mul (vsk xs k n) (lin (xs n))) y (n + 1 + 2) = ps (mul (vsk xs k n) (lin (xs n))) y (n + 1 + 1) := ps_stay _ _ (n + 1 + 1) (n + 1 + 2) (by omega) (fun j hj => by
        rw [mul_lin]
        unfold Pol.sub Pol.sh Pol.sc
        rw [if_neg (by omega), vsk_far _ _ _ _ (show n < j - 1 by omega), vsk_far _ _ _ _ (show n < j by omega)]
        simp)
      rw [← h2, h, ih, ps_lin]
      rfl
theorem ps_vsk' (xs : Nat → Int) (k : Nat) (y : Int) (n : Nat) (hk : k < n) : ps (vsk xs k n) y n = pvk xs k y n := by
  rw [← ps_vsk, ps_stay _ _ n (n + 1) (by omega) (fun j hj => vsk_zero _ _ _ _ hk hj)]
theorem pvk_other {xs : Nat → Int} {k j n : Nat} (hj : j < n) (h : j ≠ k) : pvk xs k (xs j) n = 0 := by
  unfold pvk
  refine prz_zero hj ?_
  simp [h]

theorem fs_at {p : Nat} (xs ys : List Int) (j i : Nat) (hj : j < xs.length) (hi : i ≤ xs.length) : ps (FS p xs ys i) (zat xs j) xs.length = if j < i then fc p xs ys j * pvk (zat xs) j (zat xs j) xs.length else 0 := by
  induction i with
  | zero => rw [FS, ps_zero]; simp
  | succ i ih =>
    rw [FS, ps_add, ps_sc, ih (by omega), ps_vsk' _ _ _ _ (by omega)]
    by_cases e : j = i
    · subst e
      rw [if_neg (by omega), if_pos (by omega)]
      omega
    · rw [pvk_other hj e]
      by_cases h : j < i
      · rw [if_pos h, if_pos (by omega)]; simp
      · rw [if_neg h, if_neg (by omega)]; simp

/-- the polynomial through the points is there what it should be -/
theorem pfit_at {p : Nat} (hp : Num.Prime p) (h3 : 3 ≤ p) (xs ys : List Int) (hu : ∀ i j, i < j → j < xs.length → ¬ (p : Int) ∣ zat xs j - zat xs i) (j : Nat) (hj : j < xs.length) : (p : Int) ∣ ps (FS p xs ys xs.length) (zat xs j) xs.length - zat ys j := by
  rw [fs_at xs ys j xs.length hj (Nat.le_refl _), if_pos hj]
  obtain ⟨P, hP⟩ : ∃ P, P = pvk (zat xs) j (zat xs j) xs.length := ⟨_, rfl⟩
  rw [← hP]
  have hev : (p : Int) ∣ evz p (vskl p xs j xs.length) (zat xs j) - P := by
    unfold vskl
    rw [evz_mk h3, ps_vsk, ← hP]
    exact emod_dvd p P
  have hnd : ¬ (p : Int) ∣ P := by
    rw [hP]
    refine prz_prime hp (fun i hi => ?_) ?_
    · split
      · intro h
        have := Int.le_of_dvd (by omega) h
        omega
      · rename_i hne
        rcases Nat.lt_or_gt_of_ne hne with g | g
        · exact hu i j g hj
        · intro h
          apply hu j i g hi
          have := Int.dvd_neg.2 h
          rwa [show -(zat xs j - zat xs i) = zat xs i - zat xs j from by omega] at this
    · intro h
      have := Int.le_of_dvd (by omega) h
      omega
  have hne : ¬ (p : Int) ∣ evz p (vskl p xs j xs.length) (zat xs j) := fun h => hnd (by
    have := Int.dvd_sub h hev
    rwa [show evz p (vskl p xs j xs.length) (zat xs j) - (evz p (vskl p xs j xs.length) (zat xs j) - P) = P from by omega] at this)
  have hinv := invn_dvd hp h3 hne
  obtain ⟨V, hV⟩ : ∃ V, V = evz p (vskl p xs j xs.length) (zat xs j) := ⟨_, rfl⟩
  rw [← hV] at hev hinv
  have hfc : (p : Int) ∣ fc p xs ys j - zat ys j * (invn p V : Int) := by
    unfold fc
    rw [← hV]
    exact emod_dvd p _
  generalize (invn p V : Int) = I at *
  generalize fc p xs ys j = C at *
  generalize zat ys j = Y at *
  obtain ⟨a, ha⟩ := hev
  obtain ⟨b, hb⟩ := hinv
  obtain ⟨c, hc⟩ := hfc
  refine ⟨c * P + Y * b - Y * I * a, ?_⟩
  have e1 : C = (p : Int) * c + Y * I := by omega
  have e2 : V = (p : Int) * a + P := by omega
  rw [e2] at hb
  have e3 : I * P = (p : Int) * b + 1 - I * ((p : Int) * a) := by
    have : I * ((p : Int) * a + P) = I * ((p : Int) * a) + I * P := Int.mul_add _ _ _
    omega
  rw [e1]
  have k1 : ((p : Int) * c + Y * I) * P - Y = (p : Int) * c * P + Y * (I * P) - Y := by grind
  rw [k1, e3]
  grind

/-- two of few places that agree at as many unlike elements agree everywhere -/
theorem agree {p : Nat} (hp : Num.Prime p) (n : Nat) (f g : S) (xs : Nat → Int) (hu : ∀ i j, i < j → j < n → ¬ (p : Int) ∣ xs j - xs i) (h : ∀ i, i < n → (p : Int) ∣ ps f (xs i) n - ps g (xs i) n) (x : Int) : (p : Int) ∣ ps f x n - ps g x n := by
  have hz := roots hp n (Pol.sub f g) xs hu (fun i hi => by
    have := h i hi
    rw [ps_sm, ps_sm] at this
    rw [ps_sm]
    have e : sm (fun j => Pol.sub f g j * xs i ^ j) n = sm (fun j => f j * xs i ^ j) n - sm (fun j => g j * xs i ^ j) n := by
      have h1 := sm_add (fun j => Pol.sub f g j * xs i ^ j) (fun j => g j * xs i ^ j) n
      rw [show (fun j => Pol.sub f g j * xs i ^ j + g j * xs i ^ j) = (fun j => f j * xs i ^ j) from funext fun j => by unfold Pol.sub; grind] at h1
      omega
    rw [e]
    exact this)
  exact ps_congr x n (fun j hj => hz j hj)

/-- a straight one -/
def str (a b : Int) : S := fun j => if j = 0 then a else if j = 1 then b - a else 0
theorem str_b (a b : Int) : ∀ j, 2 ≤ j → str a b j = 0 := fun j hj => by unfold str; rw [if_neg (by omega), if_neg (by omega)]
theorem ps_str (a b x : Int) : ps (str a b) x 2 = a * (1 - x) + b * x := by
  simp [ps, str]
  grind
/-- the product of d straight ones -/
def strs (a b : Nat → Int) : Nat → S
  | 0 => Pol.one
  | d + 1 => Pol.mul (strs a b d) (str (a d) (b d))
theorem strs_b (a b : Nat → Int) (d : Nat) : ∀ j, d + 1 ≤ j → strs a b d j = 0 := by
  induction d with
  | zero => intro j hj; unfold strs Pol.one; rw [if_neg (by omega)]
  | succ d ih => intro j hj; exact ml_zero_beyond _ _ (d + 1) 2 ih (str_b _ _) j (by omega)
theorem ps_strs (a b : Nat → Int) (x : Int) (d : Nat) : ps (strs a b d) x (d + 1) = prz (fun k => a k * (1 - x) + b k * x) d := by
  induction d with
  | zero => simp [strs, prz, ps, Pol.one]
  | succ d ih =>
    rw [strs, prz, ← ih, ← ps_str, ← ps_mul _ _ _ (d + 1) 2 (strs_b a b d) (str_b _ _), ← ps_stay (Pol.mul (strs a b d) (str (a d) (b d))) x (d + 1 + 1) (d + 1 + 2) (by omega) (strs_b a b (d + 1))]
/-- their sum over h places -/
def sstrs (a b : Nat → Nat → Int) (d : Nat) : Nat → S
  | 0 => Pol.zero
  | h + 1 => Pol.add (sstrs a b d h) (strs (fun k => a k h) (fun k => b k h) d)
theorem ps_sstrs (a b : Nat → Nat → Int) (x : Int) (d h : Nat) : ps (sstrs a b d h) x (d + 1) = sm (fun i => prz (fun k => a k i * (1 - x) + b k i * x) d) h := by
  induction h with
  | zero => rw [sstrs, ps_zero]; rfl
  | succ h ih => rw [sstrs, ps_add, ih, ps_strs]; rfl

/-- what the sum is, its first variable being x -/
def tqx (t : Nat → Nat → Int) (d h : Nat) (x : Int) : Int := sm (fun i => prz (fun k => t k i * (1 - x) + t k (i + h) * x) d) h
theorem sm_split (f : Nat → Int) (m n : Nat) : sm f (m + n) = sm f m + sm (fun i => f (m + i)) n := by
  induction n with
  | zero => simp [sm]
  | succ n ih => rw [← Nat.add_assoc, sm, ih, sm]; omega
/-- at 0 and at 1 it has the whole sum -/
theorem tqx_ends (t : Nat → Nat → Int) (d h : Nat) : tqx t d h 0 + tqx t d h 1 = sm (fun i => prz (fun k => t k i) d) (h + h) := by
  rw [sm_split]
  unfold tqx
  congr 1
  · apply sm_same; intro i _; apply prz_same; intro k _; simp
  · apply sm_same; intro i _; apply prz_same; intro k _; simp [Nat.add_comm]
/-- whatever of few places agrees with it at as many unlike elements agrees with it everywhere -/
theorem tqx_agree {p : Nat} (hp : Num.Prime p) (t : Nat → Nat → Int) (d h : Nat) (f : S) (xs : Nat → Int) (hu : ∀ i j, i < j → j < d + 1 → ¬ (p : Int) ∣ xs j - xs i) (hf : ∀ i, i < d + 1 → (p : Int) ∣ ps f (xs i) (d + 1) - tqx t d h (xs i)) (x : Int) : (p : Int) ∣ ps f x (d + 1) - tqx t d h x := by
  have h1 := agree hp (d + 1) f (sstrs (fun k i => t k i) (fun k i => t k (i + h)) d h) xs hu (fun i hi => by rw [ps_sstrs]; exact hf i hi) x
  rw [ps_sstrs] at h1
  exact h1

/-! ## extensions -/
/-- a place's bits, each by its factor -/
def wgt (at' : Nat → Int) (v i : Nat) : Int := prz (fun k => if (i / 2 ^ k) % 2 = 0 then 1 - at' (v - 1 - k) else at' (v - 1 - k)) v
/-- what a table is at a point -/
def ext (t at' : Nat → Int) (v : Nat) : Int := sm (fun i => t i * wgt at' v i) (2 ^ v)
theorem hi_bit {v i k : Nat} (hk : k < v) : (i + 2 ^ v) / 2 ^ k % 2 = i / 2 ^ k % 2 := by
  obtain ⟨d, rfl⟩ : ∃ d, v = k + 1 + d := ⟨v - k - 1, by omega⟩
  have e : 2 ^ (k + 1 + d) = 2 ^ k * (2 * 2 ^ d) := by rw [Nat.pow_add, Nat.pow_succ, Nat.mul_assoc]
  rw [e, Nat.add_mul_div_left _ _ (Nat.two_pow_pos k)]
  omega
theorem wgt_low (at' : Nat → Int) (v i : Nat) : prz (fun k => if (i / 2 ^ k) % 2 = 0 then 1 - at' (v + 1 - 1 - k) else at' (v + 1 - 1 - k)) v = wgt (fun j => at' (j + 1)) v i := by
  unfold wgt
  refine prz_same (fun k hk => ?_)
  rw [show v + 1 - 1 - k = v - 1 - k + 1 from by omega]
theorem wgt_lo (at' : Nat → Int) {v i : Nat} (h : i < 2 ^ v) : wgt at' (v + 1) i = wgt (fun j => at' (j + 1)) v i * (1 - at' 0) := by
  unfold wgt
  rw [prz, wgt_low]
  rw [show v + 1 - 1 - v = 0 from by omega, Nat.div_eq_of_lt h]
  rfl
theorem wgt_hi (at' : Nat → Int) {v i : Nat} (h : i < 2 ^ v) : wgt at' (v + 1) (2 ^ v + i) = wgt (fun j => at' (j + 1)) v i * at' 0 := by
  unfold wgt
  rw [prz, wgt_low]
  have e : (2 ^ v + i) / 2 ^ v % 2 = 1 := by
    rw [Nat.add_div_left _ (Nat.two_pow_pos v), Nat.div_eq_of_lt h]
  rw [show v + 1 - 1 - v = 0 from by omega, e]
  congr 1
  unfold wgt
  refine prz_same (fun k hk => ?_)
  rw [Nat.add_comm, hi_bit hk]
/-- the first variable let be what it is -/
theorem ext_succ (t at' : Nat → Int) (v : Nat) : ext t at' (v + 1) = ext (fun i => t i * (1 - at' 0) + t (i + 2 ^ v) * at' 0) (fun j => at' (j + 1)) v := by
  unfold ext
  rw [show 2 ^ (v + 1) = 2 ^ v + 2 ^ v from by rw [Nat.pow_succ]; omega, sm_split]
  have h1 : sm (fun i => t i * wgt at' (v + 1) i) (2 ^ v) = sm (fun i => t i * (1 - at' 0) * wgt (fun j => at' (j + 1)) v i) (2 ^ v) := sm_same (fun i hi => by rw [wgt_lo at' hi]; grind)
  have h2 : sm (fun i => t (2 ^ v + i) * wgt at' (v + 1) (2 ^ v + i)) (2 ^ v) = sm (fun i => t (i + 2 ^ v) * at' 0 * wgt (fun j => at' (j + 1)) v i) (2 ^ v) := sm_same (fun i hi => by rw [wgt_hi at' hi, Nat.add_comm]; grind)
  rw [h1, h2, ← sm_add]
  exact sm_same (fun i _ => by grind)
theorem ext_zero (t at' : Nat → Int) : ext t at' 0 = t 0 := by simp [ext, sm, wgt, prz]
theorem ext_congr {p : Nat} {t u at' bt : Nat → Int} {v : Nat} (h : ∀ i, i < 2 ^ v → (p : Int) ∣ t i - u i) (k : ∀ j, j < v → (p : Int) ∣ at' j - bt j) : (p : Int) ∣ ext t at' v - ext u bt v := by
  unfold ext
  refine sm_congr (fun i hi => dvd_mul_sub (h i hi) (prz_congr (fun b hb => ?_)))
  have := k (v - 1 - b) (by omega)
  split
  · rwa [show 1 - at' (v - 1 - b) - (1 - bt (v - 1 - b)) = -(at' (v - 1 - b) - bt (v - 1 - b)) from by omega, Int.dvd_neg]
  · exact this
theorem ext_same {t u at' bt : Nat → Int} {v : Nat} (h : ∀ i, i < 2 ^ v → t i = u i) (k : ∀ j, j < v → at' j = bt j) : ext t at' v = ext u bt v := by
  unfold ext
  refine sm_same (fun i hi => ?_)
  rw [h i hi]
  congr 1
  exact prz_same (fun b hb => by rw [k (v - 1 - b) (by omega)])
/-- at a place's own bits it is what stands there -/
theorem ext_bits (t : Nat → Int) (v i : Nat) (hi : i < 2 ^ v) : ext t (fun j => ((i / 2 ^ (v - 1 - j) % 2 : Nat) : Int)) v = t i := by
  induction v generalizing t i with
  | zero => rw [ext_zero]; congr 1; omega
  | succ v ih =>
    rw [ext_succ]
    simp only [Nat.add_sub_cancel, Nat.sub_zero]
    by_cases h : i < 2 ^ v
    · rw [Nat.div_eq_of_lt h]
      rw [← ih t i h]
      refine ext_same (fun k _ => by simp) (fun j hj => ?_)
      rw [show v - (j + 1) = v - 1 - j from by omega]
    · obtain ⟨i', rfl⟩ : ∃ i', i = i' + 2 ^ v := ⟨i - 2 ^ v, by omega⟩
      have hi' : i' < 2 ^ v := by rw [Nat.pow_succ] at hi; omega
      have e : (i' + 2 ^ v) / 2 ^ v % 2 = 1 := by rw [Nat.add_div_right _ (Nat.two_pow_pos v), Nat.div_eq_of_lt hi']
      rw [e, ← ih (fun k => t (k + 2 ^ v)) i' hi']
      refine ext_same (fun k _ => by simp) (fun j hj => ?_)
      rw [show v - (j + 1) = v - 1 - j from by omega, hi_bit (by omega)]

end Go.Proofs.YtpgnabmkfkcogaaGreatDoor.Sum

namespace Go.Proofs.YtpgnabmkfkcogaaGreatDoor
open Go.RowKit

/-- the sum of the first i, as a list -/
def fl (p : Nat) (xs ys : List Int) (i : Nat) : List Int := Pol.mk p (FS p xs ys i) xs.length
end Go.Proofs.YtpgnabmkfkcogaaGreatDoor

namespace Go.Proofs.YtpgnabmkfkcogaaGreatDoor
open Go.RowKit

/-- how many variables a table of so many has; -1: it is none -/
def vrs (n : Nat) : Int := match (List.range 13).find? (fun v => n == 2 ^ v) with
  | some v => v
  | none => -1
theorem vrs_yes {n v : Nat} (hv : v ≤ 12) (h : n = 2 ^ v) : vrs n = v := by
  unfold vrs
  have e : (List.range 13).find? (fun u => n == 2 ^ u) = some v := by
    rw [List.find?_range_eq_some]
    refine ⟨by simpa using h, by simp; omega, fun j hj => ?_⟩
    have := Nat.pow_lt_pow_right (a := 2) (by omega) hj
    simp
    omega
  rw [e]
theorem vrs_no {n : Nat} (h : ∀ v, v ≤ 12 → n ≠ 2 ^ v) : vrs n = -1 := by
  unfold vrs
  have e : (List.range 13).find? (fun u => n == 2 ^ u) = none := by
    rw [List.find?_eq_none]
    intro u hu
    simp at hu
    simpa using h u (by omega)
  rw [e]
theorem vrs_of {n : Nat} (h : 0 ≤ vrs n) : ∃ v : Nat, v ≤ 12 ∧ n = 2 ^ v ∧ vrs n = v := by
  by_cases e : ∃ v : Nat, v ≤ 12 ∧ n = 2 ^ v
  · obtain ⟨v, h1, h2⟩ := e
    exact ⟨v, h1, h2, vrs_yes h1 h2⟩
  · have := vrs_no (n := n) (fun v hv h2 => e ⟨v, hv, h2⟩)
    omega

/-- how many variables several tables have; -1: they are none -/
def ovr (rows : List (List Int)) : Int := if 1 ≤ rows.length ∧ rows.length ≤ 4 ∧ ∀ k, k < rows.length → (rat rows k).length = (rat rows 0).length then vrs (rat rows 0).length else -1

end Go.Proofs.YtpgnabmkfkcogaaGreatDoor
