/- Plain facts on sums over a cube, of no program: the polynomial through some points is what it should be there; a Total with its first variable let be x; extensions. Pledges, plainly: columns, sums of rows, what a table that is 1 at one place extends to. Package pledge: areWide, column, powers, across, Mix. Plain facts on mending a word: lists of places; what is 0 at given points alone; the polynomial that a word is of, but for few places, is what the division gives. -/
import Derived.Test.YtlhjifpomchnfaaGreatDoorPoAD
import Derived.Test.YtlhjifpomchnfaaGreatDoorPlain
import Derived.Test.YtlhjifpomchnfaaGreatDoorRefs
import Derived.Test.YtlhjifpomchnfaaGreatDoorSpgs
import Derived.Test.YtlhjifpomchnfaaGreatDoorPls
import Derived.StillTailTactics
import Derived.Test.YtlhjifpomchnfaaGreatDoorPoAB
import Derived.Test.YtlhjifpomchnfaaGreatDoorDoms
namespace Go.Proofs.YtlhjifpomchnfaaGreatDoor.Sum
open Pol Dom

/-- a product of the first n -/
def prz (f : Nat → Int) : Nat → Int
  | 0 => 1
  | n + 1 => prz f n * f n
theorem prz_same {f g : Nat → Int} {n : Nat} (h : ∀ i, i < n → f i = g i) : prz f n = prz g n := by
  induction n with
  | zero => rfl
  | succ n ih => simp only [prz]; rw [ih (fun i hi => h i (by omega)), h n (by omega)]
theorem dvd_mul_sub {p : Nat} {a b c d : Int} (h : (p : Int) ∣ a - b) (k : (p : Int) ∣ c - d) : (p : Int) ∣ a * c - b * d := by
  have h1 := Int.dvd_mul_of_dvd_left (c := c) h
  have h2 := Int.dvd_mul_of_dvd_right (b := b) k
  have := Int.dvd_add h1 h2
  rwa [show (a - b) * c + b * (c - d) = a * c - b * d from by grind] at this
theorem dvd_add_sub {p : Nat} {a b c d : Int} (h : (p : Int) ∣ a - b) (k : (p : Int) ∣ c - d) : (p : Int) ∣ (a + c) - (b + d) := by
  have := Int.dvd_add h k
  rwa [show (a - b) + (c - d) = (a + c) - (b + d) from by omega] at this
theorem prz_congr {p : Nat} {f g : Nat → Int} {n : Nat} (h : ∀ i, i < n → (p : Int) ∣ f i - g i) : (p : Int) ∣ prz f n - prz g n := by
  induction n with
  | zero => simp [prz]
  | succ n ih => simp only [prz]; exact dvd_mul_sub (ih (fun i hi => h i (by omega))) (h n (by omega))
theorem prz_zero {f : Nat → Int} {n k : Nat} (hk : k < n) (h : f k = 0) : prz f n = 0 := by
  induction n with
  | zero => omega
  | succ n ih =>
    simp only [prz]
    by_cases e : k = n
    · subst e; rw [h]; simp
    · rw [ih (by omega)]; simp
theorem prz_prime {p : Nat} (hp : Num.Prime p) {f : Nat → Int} {n : Nat} (h : ∀ i, i < n → ¬ (p : Int) ∣ f i) (h1 : ¬ (p : Int) ∣ 1) : ¬ (p : Int) ∣ prz f n := by
  induction n with
  | zero => exact h1
  | succ n ih =>
    simp only [prz]
    intro hd
    rcases prime_mul hp hd with g | g
    · exact ih (fun i hi => h i (by omega)) g
    · exact h n (by omega) g

/-- y less all points but the k-th, multiplied -/
def pvk (xs : Nat → Int) (k : Nat) (y : Int) (n : Nat) : Int := prz (fun i => if i = k then 1 else y - xs i) n
theorem lin_b (x : Int) : ∀ j, 2 ≤ j → lin x j = 0 := fun j hj => by
  unfold lin
  simp only [Pol.sub, Pol.sh, Pol.sc, Pol.one]
  rw [if_neg (by omega), if_neg (by omega), if_neg (by omega)]
  simp
theorem ps_lin (x y : Int) : ps (lin x) y 2 = y - x := by
  unfold lin
  simp [ps, Pol.sub, Pol.sh, Pol.sc, Pol.one, Int.pow_succ]
  omega
theorem vsk_far (xs : Nat → Int) (k n j : Nat) (h : n < j) : vsk xs k n j = 0 := by
  induction n generalizing j with
  | zero => rw [vsk]; unfold Pol.one; rw [if_neg (by omega)]
  | succ n ih =>
    rw [vsk]
    split
    · exact ih j (by omega)
    · rw [mul_lin]
      unfold Pol.sub Pol.sh Pol.sc
      rw [if_neg (by omega), ih (j - 1) (by omega), ih j (by omega)]
      simp
theorem ps_vsk (xs : Nat → Int) (k : Nat) (y : Int) (n : Nat) : ps (vsk xs k n) y (n + 1) = pvk xs k y n := by
  induction n with
  | zero => simp [vsk, pvk, prz, ps, Pol.one]
  | succ n ih =>
    rw [vsk]
    unfold pvk prz
    split
    · rename_i e
      rw [ps_stay _ _ (n + 1) (n + 1 + 1) (by omega) (fun j hj => vsk_far _ _ _ _ (by omega)), ih]
      simp [pvk]
    · have h := ps_mul (vsk xs k n) (lin (xs n)) y (n + 1) 2 (fun j hj => vsk_far _ _ _ _ (by omega)) (lin_b _)
      have h2 : ps (mul (vsk xs k n) (lin (xs n))) y (n + 1 + 2) = ps (mul (vsk xs k n) (lin (xs n))) y (n + 1 + 1) := ps_stay _ _ (n + 1 + 1) (n + 1 + 2) (by omega) (fun j hj => by
        rw [mul_lin]
        unfold Pol.sub Pol.sh Pol.sc
        rw [if_neg (by omega), vsk_far _ _ _ _ (show n < j - 1 by omega), vsk_far _ _ _ _ (show n < j by omega)]
        simp)
      rw [← h2, h, ih, ps_lin]
      rfl
theorem ps_vsk' (xs : Nat → Int) (k : Nat) (y : Int) (n : Nat) (hk : k < n) : ps (vsk xs k n) y n = pvk xs k y n := by
  rw [← ps_vsk, ps_stay _ _ n (n + 1) (by omega) (fun j hj => vsk_zero _ _ _ _ hk hj)]
theorem pvk_other {xs : Nat → Int} {k j n : Nat} (hj : j < n) (h : j ≠ k) : pvk xs k (xs j) n = 0 := by
  unfold pvk
  refine prz_zero hj ?_
  simp [h]

theorem fs_at {p : Nat} (xs ys : List Int) (j i : Nat) (hj : j < xs.length) (hi : i ≤ xs.length) : ps (FS p xs ys i) (zat xs j) xs.length = if j < i then fc p xs ys j * pvk (zat xs) j (zat xs j) xs.length else 0 := by
  induction i with
  | zero => rw [FS, ps_zero]; simp
  | succ i ih =>
    rw [FS, ps_add, ps_sc, ih (by omega), ps_vsk' _ _ _ _ (by omega)]
    by_cases e : j = i
    · subst e
      rw [if_neg (by omega), if_pos (by omega)]
      omega
    · rw [pvk_other hj e]
      by_cases h : j < i
      · rw [if_pos h, if_pos (by omega)]; simp
      · rw [if_neg h, if_neg (by omega)]; simp

/-- the polynomial through the points is there what it should be -/
theorem pfit_at {p : Nat} (hp : Num.Prime p) (h3 : 3 ≤ p) (xs ys : List Int) (hu : ∀ i j, i < j → j < xs.length → ¬ (p : Int) ∣ zat xs j - zat xs i) (j : Nat) (hj : j < xs.length) : (p : Int) ∣ ps (FS p xs ys xs.length) (zat xs j) xs.length - zat ys j := by
  rw [fs_at xs ys j xs.length hj (Nat.le_refl _), if_pos hj]
  obtain ⟨P, hP⟩ : ∃ P, P = pvk (zat xs) j (zat xs j) xs.length := ⟨_, rfl⟩
  rw [← hP]
  have hev : (p : Int) ∣ evz p (vskl p xs j xs.length) (zat xs j) - P := by
    unfold vskl
    rw [evz_mk h3, ps_vsk, ← hP]
    exact emod_dvd p P
  have hnd : ¬ (p : Int) ∣ P := by
    rw [hP]
    refine prz_prime hp (fun i hi => ?_) ?_
    · split
      · intro h
        have := Int.le_of_dvd (by omega) h
        omega
      · rename_i hne
        rcases Nat.lt_or_gt_of_ne hne with g | g
        · exact hu i j g hj
        · intro h
          apply hu j i g hi
          have := Int.dvd_neg.2 h
          rwa [show -(zat xs j - zat xs i) = zat xs i - zat xs j from by omega] at this
    · intro h
      have := Int.le_of_dvd (by omega) h
      omega
  have hne : ¬ (p : Int) ∣ evz p (vskl p xs j xs.length) (zat xs j) := fun h => hnd (by
    have := Int.dvd_sub h hev
    rwa [show evz p (vskl p xs j xs.length) (zat xs j) - (evz p (vskl p xs j xs.length) (zat xs j) - P) = P from by omega] at this)
  have hinv := invn_dvd hp h3 hne
  obtain ⟨V, hV⟩ : ∃ V, V = evz p (vskl p xs j xs.length) (zat xs j) := ⟨_, rfl⟩
  rw [← hV] at hev hinv
  have hfc : (p : Int) ∣ fc p xs ys j - zat ys j * (invn p V : Int) := by
    unfold fc
    rw [← hV]
    exact emod_dvd p _
  generalize (invn p V : Int) = I at *
  generalize fc p xs ys j = C at *
  generalize zat ys j = Y at *
  obtain ⟨a, ha⟩ := hev
  obtain ⟨b, hb⟩ := hinv
  obtain ⟨c, hc⟩ := hfc
  refine ⟨c * P + Y * b - Y * I * a, ?_⟩
  have e1 : C = (p : Int) * c + Y * I := by omega
  have e2 : V = (p : Int) * a + P := by omega
  rw [e2] at hb
  have e3 : I * P = (p : Int) * b + 1 - I * ((p : Int) * a) := by
    have : I * ((p : Int) * a + P) = I * ((p : Int) * a) + I * P := Int.mul_add _ _ _
    omega
  rw [e1]
  have k1 : ((p : Int) * c + Y * I) * P - Y = (p : Int) * c * P + Y * (I * P) - Y := by grind
  rw [k1, e3]
  grind

/-- two of few places that agree at as many unlike elements agree everywhere -/
theorem agree {p : Nat} (hp : Num.Prime p) (n : Nat) (f g : S) (xs : Nat → Int) (hu : ∀ i j, i < j → j < n → ¬ (p : Int) ∣ xs j - xs i) (h : ∀ i, i < n → (p : Int) ∣ ps f (xs i) n - ps g (xs i) n) (x : Int) : (p : Int) ∣ ps f x n - ps g x n := by
  have hz := roots hp n (Pol.sub f g) xs hu (fun i hi => by
    have := h i hi
    rw [ps_sm, ps_sm] at this
    rw [ps_sm]
    have e : sm (fun j => Pol.sub f g j * xs i ^ j) n = sm (fun j => f j * xs i ^ j) n - sm (fun j => g j * xs i ^ j) n := by
      have h1 := sm_add (fun j => Pol.sub f g j * xs i ^ j) (fun j => g j * xs i ^ j) n
      rw [show (fun j => Pol.sub f g j * xs i ^ j + g j * xs i ^ j) = (fun j => f j * xs i ^ j) from funext fun j => by unfold Pol.sub; grind] at h1
      omega
    rw [e]
    exact this)
  exact ps_congr x n (fun j hj => hz j hj)

/-- a straight one -/
def str (a b : Int) : S := fun j => if j = 0 then a else if j = 1 then b - a else 0
theorem str_b (a b : Int) : ∀ j, 2 ≤ j → str a b j = 0 := fun j hj => by unfold str; rw [if_neg (by omega), if_neg (by omega)]
theorem ps_str (a b x : Int) : ps (str a b) x 2 = a * (1 - x) + b * x := by
  simp [ps, str]
  grind
/-- the product of d straight ones -/
def strs (a b : Nat → Int) : Nat → S
  | 0 => Pol.one
  | d + 1 => Pol.mul (strs a b d) (str (a d) (b d))
theorem strs_b (a b : Nat → Int) (d : Nat) : ∀ j, d + 1 ≤ j → strs a b d j = 0 := by
  induction d with
  | zero => intro j hj; unfold strs Pol.one; rw [if_neg (by omega)]
  | succ d ih => intro j hj; exact ml_zero_beyond _ _ (d + 1) 2 ih (str_b _ _) j (by omega)
theorem ps_strs (a b : Nat → Int) (x : Int) (d : Nat) : ps (strs a b d) x (d + 1) = prz (fun k => a k * (1 - x) + b k * x) d := by
  induction d with
  | zero => simp [strs, prz, ps, Pol.one]
  | succ d ih =>
    rw [strs, prz, ← ih, ← ps_str, ← ps_mul _ _ _ (d + 1) 2 (strs_b a b d) (str_b _ _), ← ps_stay (Pol.mul (strs a b d) (str (a d) (b d))) x (d + 1 + 1) (d + 1 + 2) (by omega) (strs_b a b (d + 1))]
/-- their sum over h places -/
def sstrs (a b : Nat → Nat → Int) (d : Nat) : Nat → S
  | 0 => Pol.zero
  | h + 1 => Pol.add (sstrs a b d h) (strs (fun k => a k h) (fun k => b k h) d)
theorem ps_sstrs (a b : Nat → Nat → Int) (x : Int) (d h : Nat) : ps (sstrs a b d h) x (d + 1) = sm (fun i => prz (fun k => a k i * (1 - x) + b k i * x) d) h := by
  induction h with
  | zero => rw [sstrs, ps_zero]; rfl
  | succ h ih => rw [sstrs, ps_add, ih, ps_strs]; rfl

/-- what the sum is, its first variable being x -/
def tqx (t : Nat → Nat → Int) (d h : Nat) (x : Int) : Int := sm (fun i => prz (fun k => t k i * (1 - x) + t k (i + h) * x) d) h
theorem sm_split (f : Nat → Int) (m n : Nat) : sm f (m + n) = sm f m + sm (fun i => f (m + i)) n := by
  induction n with
  | zero => simp [sm]
  | succ n ih => rw [← Nat.add_assoc, sm, ih, sm]; omega
/-- at 0 and at 1 it has the whole sum -/
theorem tqx_ends (t : Nat → Nat → Int) (d h : Nat) : tqx t d h 0 + tqx t d h 1 = sm (fun i => prz (fun k => t k i) d) (h + h) := by
  rw [sm_split]
  unfold tqx
  congr 1
  · apply sm_same; intro i _; apply prz_same; intro k _; simp
  · apply sm_same; intro i _; apply prz_same; intro k _; simp [Nat.add_comm]
/-- whatever of few places agrees with it at as many unlike elements agrees with it everywhere -/
theorem tqx_agree {p : Nat} (hp : Num.Prime p) (t : Nat → Nat → Int) (d h : Nat) (f : S) (xs : Nat → Int) (hu : ∀ i j, i < j → j < d + 1 → ¬ (p : Int) ∣ xs j - xs i) (hf : ∀ i, i < d + 1 → (p : Int) ∣ ps f (xs i) (d + 1) - tqx t d h (xs i)) (x : Int) : (p : Int) ∣ ps f x (d + 1) - tqx t d h x := by
  have h1 := agree hp (d + 1) f (sstrs (fun k i => t k i) (fun k i => t k (i + h)) d h) xs hu (fun i hi => by rw [ps_sstrs]; exact hf i hi) x
  rw [ps_sstrs] at h1
  exact h1

/-! ## extensions -/
/-- a place's bits, each by its factor -/
def wgt (at' : Nat → Int) (v i : Nat) : Int := prz (fun k => if (i / 2 ^ k) % 2 = 0 then 1 - at' (v - 1 - k) else at' (v - 1 - k)) v
/-- what a table is at a point -/
def ext (t at' : Nat → Int) (v : Nat) : Int := sm (fun i => t i * wgt at' v i) (2 ^ v)
theorem hi_bit {v i k : Nat} (hk : k < v) : (i + 2 ^ v) / 2 ^ k % 2 = i / 2 ^ k % 2 := by
  obtain ⟨d, rfl⟩ : ∃ d, v = k + 1 + d := ⟨v - k - 1, by omega⟩
  have e : 2 ^ (k + 1 + d) = 2 ^ k * (2 * 2 ^ d) := by rw [Nat.pow_add, Nat.pow_succ, Nat.mul_assoc]
  rw [e, Nat.add_mul_div_left _ _ (Nat.two_pow_pos k)]
  omega
theorem wgt_low (at' : Nat → Int) (v i : Nat) : prz (fun k => if (i / 2 ^ k) % 2 = 0 then 1 - at' (v + 1 - 1 - k) else at' (v + 1 - 1 - k)) v = wgt (fun j => at' (j + 1)) v i := by
  unfold wgt
  refine prz_same (fun k hk => ?_)
  rw [show v + 1 - 1 - k = v - 1 - k + 1 from by omega]
theorem wgt_lo (at' : Nat → Int) {v i : Nat} (h : i < 2 ^ v) : wgt at' (v + 1) i = wgt (fun j => at' (j + 1)) v i * (1 - at' 0) := by
  unfold wgt
  rw [prz, wgt_low]
  rw [show v + 1 - 1 - v = 0 from by omega, Nat.div_eq_of_lt h]
  rfl
theorem wgt_hi (at' : Nat → Int) {v i : Nat} (h : i < 2 ^ v) : wgt at' (v + 1) (2 ^ v + i) = wgt (fun j => at' (j + 1)) v i * at' 0 := by
  unfold wgt
  rw [prz, wgt_low]
  have e : (2 ^ v + i) / 2 ^ v % 2 = 1 := by
    rw [Nat.add_div_left _ (Nat.two_pow_pos v), Nat.div_eq_of_lt h]
  rw [show v + 1 - 1 - v = 0 from by omega, e]
  congr 1
  unfold wgt
  refine prz_same (fun k hk => ?_)
  rw [Nat.add_comm, hi_bit hk]
/-- the first variable let be what it is -/
theorem ext_succ (t at' : Nat → Int) (v : Nat) : ext t at' (v + 1) = ext (fun i => t i * (1 - at' 0) + t (i + 2 ^ v) * at' 0) (fun j => at' (j + 1)) v := by
  unfold ext
  rw [show 2 ^ (v + 1) = 2 ^ v + 2 ^ v from by rw [Nat.pow_succ]; omega, sm_split]
  have h1 : sm (fun i => t i * wgt at' (v + 1) i) (2 ^ v) = sm (fun i => t i * (1 - at' 0) * wgt (fun j => at' (j + 1)) v i) (2 ^ v) := sm_same (fun i hi => by rw [wgt_lo at' hi]; grind)
  have h2 : sm (fun i => t (2 ^ v + i) * wgt at' (v + 1) (2 ^ v + i)) (2 ^ v) = sm (fun i => t (i + 2 ^ v) * at' 0 * wgt (fun j => at' (j + 1)) v i) (2 ^ v) := sm_same (fun i hi => by rw [wgt_hi at' hi, Nat.add_comm]; grind)
  rw [h1, h2, ← sm_add]
  exact sm_same (fun i _ => by grind)
theorem ext_zero (t at' : Nat → Int) : ext t at' 0 = t 0 := by simp [ext, sm, wgt, prz]
theorem ext_congr {p : Nat} {t u at' bt : Nat → Int} {v : Nat} (h : ∀ i, i < 2 ^ v → (p : Int) ∣ t i - u i) (k : ∀ j, j < v → (p : Int) ∣ at' j - bt j) : (p : Int) ∣ ext t at' v - ext u bt v := by
  unfold ext
  refine sm_congr (fun i hi => dvd_mul_sub (h i hi) (prz_congr (fun b hb => ?_)))
  have := k (v - 1 - b) (by omega)
  split
  · rwa [show 1 - at' (v - 1 - b) - (1 - bt (v - 1 - b)) = -(at' (v - 1 - b) - bt (v - 1 - b)) from by omega, Int.dvd_neg]
  · exact this
theorem ext_same {t u at' bt : Nat → Int} {v : Nat} (h : ∀ i, i < 2 ^ v → t i = u i) (k : ∀ j, j < v → at' j = bt j) : ext t at' v = ext u bt v := by
  unfold ext
  refine sm_same (fun i hi => ?_)
  rw [h i hi]
  congr 1
  exact prz_same (fun b hb => by rw [k (v - 1 - b) (by omega)])
end Go.Proofs.YtlhjifpomchnfaaGreatDoor.Sum

namespace Go.Proofs.YtlhjifpomchnfaaGreatDoor
open Go.RowKit

/-- what rows have at a place -/
def pgc (rows : List (List Int)) (j : Nat) : List Int := rows.map fun r => zat r j
theorem pgc_len (rows : List (List Int)) (j : Nat) : (pgc rows j).length = rows.length := by simp [pgc]
theorem pgc_at {rows : List (List Int)} {i : Nat} (j : Nat) (h : i < rows.length) : zat (pgc rows j) i = zat (rat rows i) j := by
  simp [pgc, rat, zat, h]
theorem pgc_fits {rows : List (List Int)} (h : FitsR rows) (j : Nat) : Fits (pgc rows j) := fun i hi => by
  rw [pgc_len] at hi
  rw [pgc_at j hi]
  exact (h i hi).1.all j
/-- the sum of products -/
def dtz (p n : Nat) (a b : List Int) : Int := Dom.sm (fun i => zat a i * zat b i) n % (p : Int)
theorem dtz_bounds (p n : Nat) (a b : List Int) (h3 : 3 ≤ p) : 0 ≤ dtz p n a b ∧ dtz p n a b < p := emod_bounds _ p h3
theorem dtz_comm (p n : Nat) (a b : List Int) : dtz p n a b = dtz p n b a := by
  unfold dtz
  rw [Dom.sm_same (g := fun i => zat b i * zat a i) (fun i _ => Int.mul_comm _ _)]
theorem dtz_zero (p : Nat) (a b : List Int) : dtz p 0 a b = 0 := by simp [dtz, Dom.sm]
theorem dtz_succ (p n : Nat) (a b : List Int) : (dtz p n a b + zat a n * zat b n % (p : Int)) % (p : Int) = dtz p (n + 1) a b := by
  unfold dtz
  rw [Int.emod_add_emod, Int.add_emod_emod]
  rfl
/-- the powers of an element -/
def pwl (p : Nat) (r : Int) (n : Nat) : List Int := ls (fun i => ((Num.pwm p (el p r) i : Nat) : Int)) n
theorem pwl_len (p : Nat) (r : Int) (n : Nat) : (pwl p r n).length = n := ls_len _ _
theorem pwl_fits {p : Nat} (hm : p ≤ 2147483647) (h3 : 3 ≤ p) (r : Int) (n : Nat) : Fits (pwl p r n) := fun i hi => by
  rw [pwl_len] at hi
  unfold pwl
  rw [ls_at _ _ _ hi]
  have := Num.pwm_lt p (el p r) i (by omega)
  omega
theorem pwm_dvd {p : Nat} (h3 : 3 ≤ p) (r : Int) (i : Nat) : (p : Int) ∣ ((Num.pwm p (el p r) i : Nat) : Int) - r ^ i := by
  have h0 := emod_bounds r p h3
  have he : ((el p r : Nat) : Int) = r % (p : Int) := by unfold el; omega
  have h1 : ((Num.pwm p (el p r) i : Nat) : Int) = (r % (p : Int)) ^ i % (p : Int) := by
    unfold Num.pwm
    rw [← he]
    simp
  rw [h1]
  apply Int.dvd_of_emod_eq_zero
  rw [Int.sub_emod, Int.emod_emod]
  have : (r % (p : Int)) ^ i % (p : Int) = r ^ i % (p : Int) := by
    clear h1
    induction i with
    | zero => rw [Int.pow_zero, Int.pow_zero]
    | succ i ih => rw [Int.pow_succ, Int.pow_succ, Int.mul_emod, ih, Int.emod_emod, ← Int.mul_emod]
  rw [this]
  simp
theorem ps_sm (f : Nat → Int) (x : Int) (n : Nat) : Pol.ps f x n = Dom.sm (fun i => f i * x ^ i) n := by
  induction n with
  | zero => rfl
  | succ n ih => simp only [Pol.ps, Dom.sm]; rw [ih]
theorem emod_of_dvd {p : Nat} {a b : Int} (h : (p : Int) ∣ a - b) : a % (p : Int) = b % (p : Int) := by
  have := Int.emod_eq_emod_iff_emod_sub_eq_zero (n := (p : Int)) (m := a) (k := b)
  exact this.2 (Int.emod_eq_zero_of_dvd h)
/-- a list at an element: its sum with the powers -/
theorem evz_dtz {p : Nat} (h3 : 3 ≤ p) (zs : List Int) (r : Int) : evz p zs r = dtz p zs.length (pwl p r zs.length) zs := by
  unfold evz dtz
  rw [ps_sm]
  apply emod_of_dvd
  refine Dom.sm_congr (fun i hi => ?_)
  unfold pwl
  rw [ls_at _ _ _ hi]
  obtain ⟨k, hk⟩ := pwm_dvd h3 r i
  exact ⟨-(k * zat zs i), by
    rw [show ((Num.pwm p (el p r) i : Nat) : Int) = (p : Int) * k + r ^ i from by omega]
    grind⟩
/-- what a table that is 1 at one place extends to -/
def wgL (p : Nat) (at' : List Int) : List Int := ls (fun i => Sum.wgt (zat at') at'.length i % (p : Int)) (2 ^ at'.length)
theorem wgL_len (p : Nat) (at' : List Int) : (wgL p at').length = 2 ^ at'.length := ls_len _ _
theorem wgL_fits {p : Nat} (hm : p ≤ 2147483647) (h3 : 3 ≤ p) (at' : List Int) : Fits (wgL p at') := fun i hi => by
  rw [wgL_len] at hi
  unfold wgL
  rw [ls_at _ _ _ hi]
  have := emod_bounds (Sum.wgt (zat at') at'.length i) p h3
  omega
theorem prz_front (f : Nat → Int) (n : Nat) : Sum.prz f (n + 1) = f 0 * Sum.prz (fun k => f (k + 1)) n := by
  induction n with
  | zero => simp [Sum.prz]
  | succ n ih =>
    rw [Sum.prz, ih, Sum.prz]
    grind
theorem wgt_two (at' : Nat → Int) (v i b : Nat) (hb : b < 2) : Sum.wgt at' (v + 1) (2 * i + b) = Sum.wgt at' v i * (if b = 0 then 1 - at' v else at' v) := by
  unfold Sum.wgt
  rw [prz_front, Int.mul_comm]
  congr 1
  · refine Sum.prz_same (fun k hk => ?_)
    have h1 : (2 * i + b) / 2 ^ (k + 1) = i / 2 ^ k := by
      rw [Nat.pow_succ, Nat.mul_comm (2 ^ k) 2, ← Nat.div_div_eq_div_mul, show (2 * i + b) / 2 = i from by omega]
    rw [h1, show v + 1 - 1 - (k + 1) = v - 1 - k from by omega]
  · rw [show (2 * i + b) / 2 ^ 0 % 2 = b from by rw [Nat.pow_zero, Nat.div_one]; omega, show v + 1 - 1 - 0 = v from by omega]
theorem sm_hit {f : Nat → Int} {n k : Nat} (hk : k < n) (h : ∀ i, i < n → i ≠ k → f i = 0) : Dom.sm f n = f k := by
  induction n with
  | zero => omega
  | succ n ih =>
    simp only [Dom.sm]
    by_cases e : k = n
    · subst e
      have : Dom.sm f k = Dom.sm (fun _ => 0) k := Dom.sm_same (fun i hi => h i (by omega) (by omega))
      rw [this, Dom.sm_zero]; omega
    · rw [ih (by omega) (fun i hi => h i (by omega)), h n (by omega) (by omega)]; omega
/-- the table that is 1 at a place -/
theorem ext_unit (at' : Nat → Int) (v i : Nat) (hi : i < 2 ^ v) (t : Nat → Int) (h1 : t i = 1) (h0 : ∀ j, j < 2 ^ v → j ≠ i → t j = 0) : Sum.ext t at' v = Sum.wgt at' v i := by
  unfold Sum.ext
  rw [sm_hit hi (fun j hj hne => by rw [h0 j hj hne]; omega), h1]
  omega
/-- sums of rows, each times something -/
def smr (p n : Nat) (by' : List Int) (rows : List (List Int)) (m : Nat) : List Int := ls (fun j => dtz p n by' (pgc rows j)) m
theorem smr_len (p n : Nat) (by' : List Int) (rows : List (List Int)) (m : Nat) : (smr p n by' rows m).length = m := ls_len _ _
theorem smr_fits {p : Nat} (hm : p ≤ 2147483647) (h3 : 3 ≤ p) (n : Nat) (by' : List Int) (rows : List (List Int)) (m : Nat) : Fits (smr p n by' rows m) := fun i hi => by
  rw [smr_len] at hi
  unfold smr
  rw [ls_at _ _ _ hi]
  have := dtz_bounds p n by' (pgc rows i) h3
  omega

end Go.Proofs.YtlhjifpomchnfaaGreatDoor

namespace Go.Proofs.YtlhjifpomchnfaaGreatDoor
open Go.RowKit

/-- are all rows so wide? -/
def wiB (m : Nat) (rows : List (List Int)) : Bool := rows.all fun r => r.length == m
theorem wiB_yes {m : Nat} {rows : List (List Int)} (h : ∀ k, k < rows.length → (rat rows k).length = m) : wiB m rows = true := by
  unfold wiB
  rw [List.all_eq_true]
  intro r hr
  obtain ⟨k, hk, rfl⟩ := List.mem_iff_getElem.1 hr
  have := h k hk
  simp [rat, hk] at this
  simp [this]
theorem wiB_at {m : Nat} {rows : List (List Int)} (h : wiB m rows = true) {k : Nat} (hk : k < rows.length) : (rat rows k).length = m := by
  unfold wiB at h
  rw [List.all_eq_true] at h
  have := h rows[k] (List.getElem_mem hk)
  simp at this
  simp [rat, hk, this]
theorem wiB_no {m k : Nat} {rows : List (List Int)} (hk : k < rows.length) (h : (rat rows k).length ≠ m) : wiB m rows = false := by
  cases e : wiB m rows with
  | false => rfl
  | true => exact absurd (wiB_at e hk) h

set_option maxRecDepth 100000 in
theorem anot_any (n cap m B : Nat) (a : Option Addr) (w : World) (h : w.cell? ⟨B, 0, none⟩ = some (.int .i64 (m : Int))) :
    Calls Tryz.prog 177 #[.slice a n cap, .pointer (some ⟨B, 0, none⟩)] w fun e w' => e = .returned (.bool (!((n : Int) == (m : Int)))) ∧ w' = w := by
  go_enter Tryz.func177, Tryz.ntmps177
  go_wp2_with fail
  go_ret
  exact ⟨rfl, rfl⟩

set_option maxRecDepth 100000 in
set_option maxHeartbeats 1000000 in
theorem aindex_any (cap m B : Nat) (a : Option Addr) (rows : List (List Int)) (w : World) (h : w.cell? ⟨B, 0, none⟩ = some (.int .i64 (m : Int))) (hlen : rows.length ≤ 281474976710656) (hl : LstR w.heap.size w a cap rows) :
    Calls Tryz.prog 215 #[.slice a rows.length cap, .func (.func 177) #[] #[.pointer (some ⟨B, 0, none⟩)]] w fun e w' => (∃ r : Int, e = .returned (.int .i64 r) ∧ decide (0 ≤ r) = !(wiB m rows)) ∧ w' = w := by
  have hcf := enters_of Tryz.func177 (by kernel_rfl) (by kernel_rfl)
  have HL := hid hl
  have HE1 : Hid (∀ (k : Nat) (ak : Option Addr) (ck : Nat), Calls Tryz.prog 177 #[.slice ak (rat rows k).length ck, .pointer (some ⟨B, 0, none⟩)] w fun e w' => e = .returned (.bool (!(((rat rows k).length : Int) == (m : Int)))) ∧ w' = w) := fun k ak ck => anot_any _ ck m B ak w h
  obtain ⟨n, hn⟩ : ∃ n, n = rows.length := ⟨_, rfl⟩
  rw [← hn] at hlen ⊢
  have HN := hid hn
  obtain ⟨R, hR⟩ : ∃ R, R = wiB m rows := ⟨_, rfl⟩
  have HR := hid hR
  rw [← hR]
  clear hl hn hR
  go_enter Tryz.func215, Tryz.ntmps215
  go_wp2_with fail
  go_loop [8] (fun iv => ∃ k : Nat, k ≤ n ∧ iv = .int .i64 k ∧ Hid (∀ j, j < k → (rat rows j).length = m)) (fun iv => n - (intOf iv).toNat)
  case atStart => exact ⟨0, by omega, rfl, fun j hj => by omega⟩
  case round =>
    obtain ⟨k, hk, rfl, hI⟩ := hrel
    by_cases hlt : k < n
    · have hlt2 : (k : Int) < (n : Int) := by omega
      have hks : IntKind.i64.wrap ((k : Int) + 1) = (k : Int) + 1 := by rw [IntKind.wrap_i64]; omega
      obtain ⟨b0, o0, ak, ck, rfl, _, hc, _⟩ := HL.out.row k (by rw [← HN.out]; exact hlt)
      have HX := HE1.out k ak ck
      by_cases hb : (rat rows k).length = m
      · have q : (((rat rows k).length : Int) == (m : Int)) = true := by rw [hb, beq_self_eq_true]
        rw [q] at HX
        have HXX := hid HX
        have HE : Hid (∀ j, j < k + 1 → (rat rows j).length = m) := fun j hj => by
          by_cases e : j = k
          · rw [e]; exact hb
          · exact hI.out j (by omega)
        clear hI HX hb q
        generalize (rat rows k).length = L at *
        go_wp2_with fail
        refine HXX.out.mono ?_
        rintro e w1 ⟨rfl, rfl⟩
        go_wp2_with fail
        go_round
        case rel => exact ⟨k + 1, by omega, by go_num, HE⟩
        case measure => simp [intOf]; omega
      · have q : (((rat rows k).length : Int) == (m : Int)) = false := by rw [beq_eq_false_iff_ne]; omega
        rw [q] at HX
        have HXX := hid HX
        have HE : Hid (R = false) := by unfold Hid; rw [HR.out]; exact wiB_no (by rw [← HN.out]; exact hlt) hb
        clear hI HX hb q
        generalize (rat rows k).length = L at *
        go_wp2_with fail
        refine HXX.out.mono ?_
        rintro e w1 ⟨rfl, rfl⟩
        go_wp2_with fail
        go_ret
        refine ⟨⟨(k : Int), rfl, ?_⟩, rfl⟩
        rw [HE.out]
        simp
    · obtain rfl : k = n := by omega
      have hlt2 : ¬ (k : Int) < (k : Int) := by omega
      have HE : Hid (R = true) := by unfold Hid; rw [HR.out]; exact wiB_yes (fun j hj => hI.out j (by rw [HN.out]; exact hj))
      clear hI
      go_wp2_with fail
      go_ret
      refine ⟨⟨-1, rfl, ?_⟩, rfl⟩
      rw [HE.out]
      simp

set_option maxRecDepth 100000 in
theorem acontains_any (cap m B : Nat) (a : Option Addr) (rows : List (List Int)) (w : World) (h : w.cell? ⟨B, 0, none⟩ = some (.int .i64 (m : Int))) (hlen : rows.length ≤ 281474976710656) (hl : LstR w.heap.size w a cap rows) :
    Calls Tryz.prog 176 #[.slice a rows.length cap, .func (.func 177) #[] #[.pointer (some ⟨B, 0, none⟩)]] w fun e w' => e = .returned (.bool (!(wiB m rows))) ∧ w' = w := by
  have HI := hid (aindex_any cap m B a rows w h hlen hl)
  clear hl h
  generalize wiB m rows = E at *
  generalize rows.length = n at *
  go_enter Tryz.func176, Tryz.ntmps176
  go_wp2_with fail
  refine HI.out.mono ?_
  rintro e w1 ⟨⟨r, rfl, hr⟩, rfl⟩
  have HRR := hid hr
  clear hr HI
  go_wp2_with fail
  go_ret
  exact ⟨by rw [← HRR.out]; rfl, rfl⟩

set_option maxRecDepth 100000 in
set_option maxHeartbeats 1000000 in
theorem areWide_any (cap m : Nat) (a : Option Addr) (rows : List (List Int)) (w : World) (hlen : rows.length ≤ 281474976710656) (hl : LstR w.heap.size w a cap rows) :
    Calls Tryz.prog 112 #[.slice a rows.length cap, .int .i64 (m : Int)] w fun e w' => e = .returned (.bool (wiB m rows)) ∧ Below w.heap.size w w' := by
  obtain ⟨W0, hW0⟩ : ∃ W0, W0 = w.alloc (.cells #[.int .i64 (m : Int)] 3) := ⟨_, rfl⟩
  have hb0 : Below w.heap.size w W0 := by rw [hW0]; exact (Below.refl _ _).alloc (Nat.le_refl _) _
  have hs0 : W0.heap[w.heap.size]? = some (.cells #[.int .i64 (m : Int)] 3 (0, 0)) := by rw [hW0]; exact heap_alloc_new w _
  have HC := hid (acontains_any cap m w.heap.size a rows W0 (by simp [World.cell?, hs0]) hlen ((hl.below hb0).mono hb0.size))
  have HB0 := hid hb0
  clear hl hb0 hs0
  generalize wiB m rows = E at *
  generalize rows.length = n at *
  go_enter Tryz.func112, Tryz.ntmps112
  go_wp2_with fail
  rw [← hW0]
  clear hW0
  refine HC.out.mono ?_
  rintro e w1 ⟨rfl, hw⟩
  have hw1 := hw.symm
  subst hw1
  go_wp2_with fail
  go_ret
  exact ⟨by first | rfl | simp, HB0.out⟩

set_option maxRecDepth 100000 in
set_option maxHeartbeats 1000000 in
/-- a column is a new list -/
theorem column_any (cap j : Nat) (a : Option Addr) (rows : List (List Int)) (w : World) (hn : rows.length ≤ 17592186044000) (hj : ∀ k, k < rows.length → j < (rat rows k).length) (hl : LstR w.heap.size w a cap rows) :
    Calls Tryz.prog 143 #[.slice a rows.length cap, .int .i64 (j : Int)] w fun e w' => e = .returned (.slice (some ⟨w.heap.size, 0, none⟩) rows.length rows.length) ∧ ArrI w' w.heap.size 3 rows.length (zat (pgc rows j)) ∧ Below w.heap.size w w' := by
  have HL := hid hl
  have HJ := hid hj
  obtain ⟨n, hnn⟩ : ∃ n, n = rows.length := ⟨_, rfl⟩
  rw [← hnn] at hn ⊢
  have HN := hid hnn
  obtain ⟨G, hG⟩ : ∃ G : Nat → Int, G = zat (pgc rows j) := ⟨_, rfl⟩
  rw [← hG]
  have HG : Hid (∀ k, k < n → zat (rat rows k) j = G k) := fun k hk => by rw [hG, pgc_at j (by omega)]
  have hmk2 := fun w => run_make_row' (P := Tryz.prog) 22 3 (.int .i64 0) 8 Tryz.underlying22 Tryz.infoInt rfl .i64 .i64 n (by omega) (by omega) w
  clear hl hj hnn hG
  go_enter Tryz.func143, Tryz.ntmps143
  go_wp2_with fail
  go_loopw [6, 7, 13] (fun _ _ iv wr => ∃ k : Nat, k ≤ n ∧ iv = .int .i64 k ∧ Hid (ArrI wr w.heap.size 3 n (fll G (fun _ => 0) k) ∧ Below w.heap.size w wr)) (fun _ _ iv _ => n - (intOf iv).toNat)
  case atStart => exact ⟨0, by omega, rfl, by rw [fll_zero]; exact World.rowIs_made _ _ _ _, (Below.refl _ _).alloc (Nat.le_refl _) _⟩
  case round =>
    obtain ⟨k, hk, rfl, hI⟩ := hrel
    by_cases hlt : k < n
    · have hlt2 : (k : Int) < (n : Int) := by omega
      have hks : IntKind.i64.wrap ((k : Int) + 1) = (k : Int) + 1 := by rw [IntKind.wrap_i64]; omega
      obtain ⟨b0, o0, ak, ck, rfl, hb0, hc, hlk⟩ := HL.out.row k (by rw [← HN.out]; exact hlt)
      have hjk := HJ.out k (by rw [← HN.out]; exact hlt)
      obtain ⟨b1, o1, rfl, hb1, hd⟩ := hlk.row j hjk
      have hc2 := (hI.out.2.cell (p := ⟨b0, o0 + k, none⟩) hb0).trans hc
      have hd2 := (hI.out.2.cell (p := ⟨b1, o1 + j, none⟩) hb1).trans hd
      rw [HG.out k hlt] at hd2
      have hjk2 : (j : Int) < ((rat rows k).length : Int) := by omega
      have c1 := hI.out.1.cell hlt
      have y1 := hI.out.1.frozen k
      have HA2 := hid hI.out.1.next
      have HBL := hid (hI.out.2.setCell (p := ⟨w.heap.size, k, none⟩) (by simp) (.int .i64 (G k)))
      generalize (rat rows k).length = L at *
      generalize G k = y at *
      generalize fll G (fun _ => 0) k k = y0 at *
      clear hI hc hd hlk
      go_wp2_with fail
      go_roundw
      case rel => exact ⟨k + 1, by omega, by go_num, HA2.out, HBL.out⟩
      case measure => simp [intOf]; omega
    · obtain rfl : k = n := by omega
      have hlt2 : ¬ (k : Int) < (k : Int) := by omega
      have HE : Hid (ArrI wr w.heap.size 3 k G ∧ Below w.heap.size w wr) := ⟨hI.out.1.congr (fun j hj => fll_all hj), hI.out.2⟩
      clear hI
      go_wp2_with fail
      go_ret
      exact ⟨rfl, HE.out⟩

set_option maxRecDepth 100000 in
set_option maxHeartbeats 1000000 in
/-- each column asked -/
theorem pacross_any (F cap m : Nat) (caps : Array Value) (A : List Int → Int) (a : Option Addr) (rows : List (List Int)) (w : World) (h1 : 1 ≤ rows.length) (hn : rows.length ≤ 17592186044000) (hm : m ≤ 17592186044000) (hw : ∀ k, k < rows.length → (rat rows k).length = m) (hl : LstR w.heap.size w a cap rows)
    (hcf : ∀ (args : Array Value) (w1 : World), (callFunc F args).run Tryz.prog w1 = .ok (.enter F args) w1)
    (HQ : ∀ (W : World) (g j : Nat), Below w.heap.size w W → j < m → ArrI W g 3 rows.length (zat (pgc rows j)) → Calls Tryz.prog F (#[.slice (some ⟨g, 0, none⟩) rows.length rows.length] ++ caps) W fun e w' => e = .returned (.int .i64 (A (pgc rows j))) ∧ Below W.heap.size W w') :
    Calls Tryz.prog 82 #[.slice a rows.length cap, .func (.func F) #[] caps] w fun e w' => e = .returned (.slice (some ⟨w.heap.size, 0, none⟩) m m) ∧ ArrI w' w.heap.size 3 m (fun j => A (pgc rows j)) ∧ Below w.heap.size w w' := by
  have HCO : Hid (∀ (W : World) (j : Nat), Below w.heap.size w W → j < m → Calls Tryz.prog 143 #[.slice a rows.length cap, .int .i64 (j : Int)] W fun e w' => e = .returned (.slice (some ⟨W.heap.size, 0, none⟩) rows.length rows.length) ∧ ArrI w' W.heap.size 3 rows.length (zat (pgc rows j)) ∧ Below W.heap.size W w') :=
    fun W j hW hj => column_any cap j a rows W hn (fun k hk => by rw [hw k hk]; exact hj) ((hl.below hW).mono hW.size)
  have HQQ := hid HQ
  obtain ⟨b0, o0, a0, c0, rfl, hb0, hc0, _⟩ := hl.row 0 (by omega)
  rw [hw 0 (by omega), Nat.add_zero] at hc0
  obtain ⟨n, hnn⟩ : ∃ n, n = rows.length := ⟨_, rfl⟩
  simp only [← hnn] at HCO HQQ h1 hn ⊢
  have h1' : (0 : Int) < (n : Int) := by omega
  obtain ⟨G, hG⟩ : ∃ G : Nat → Int, G = fun j => A (pgc rows j) := ⟨_, rfl⟩
  rw [← hG]
  have HG : Hid (∀ k, A (pgc rows k) = G k) := fun k => by rw [hG]
  have hmk2 := fun w => run_make_row' (P := Tryz.prog) 22 3 (.int .i64 0) 8 Tryz.underlying22 Tryz.infoInt rfl .i64 .i64 m (by omega) (by omega) w
  clear hl hw hnn hG HQ
  go_enter Tryz.func82, Tryz.ntmps82
  go_wp2_with fail
  go_loopw [6, 14] (fun _ iv wr => ∃ k : Nat, k ≤ m ∧ iv = .int .i64 k ∧ Hid (ArrI wr w.heap.size 3 m (fll G (fun _ => 0) k) ∧ Below w.heap.size w wr)) (fun _ iv _ => m - (intOf iv).toNat)
  case atStart => exact ⟨0, by omega, rfl, by rw [fll_zero]; exact World.rowIs_made _ _ _ _, (Below.refl _ _).alloc (Nat.le_refl _) _⟩
  case round =>
    obtain ⟨k, hk, rfl, hI⟩ := hrel
    by_cases hlt : k < m
    · have hlt2 : (k : Int) < (m : Int) := by omega
      have hks : IntKind.i64.wrap ((k : Int) + 1) = (k : Int) + 1 := by rw [IntKind.wrap_i64]; omega
      go_wp2_with fail
      refine (HCO.out wr k hI.out.2 hlt).mono ?_
      rintro e w1 ⟨rfl, har, hb1⟩
      have HQ1 := hid (HQQ.out w1 wr.heap.size k (hI.out.2.trans (hb1.mono hI.out.2.size)) hlt har)
      rw [HG.out k] at HQ1
      have HA1 : Hid (ArrI w1 w.heap.size 3 m (fll G (fun _ => 0) k)) := hI.out.1.below hb1 hI.out.1.lt
      have HB1 : Hid (Below w.heap.size w w1) := hI.out.2.trans (hb1.mono hI.out.2.size)
      clear hI har hb1
      go_wp2_with fail
      refine HQ1.out.mono ?_
      rintro e w2 ⟨rfl, hb2⟩
      have hA := HA1.out.below hb2 HA1.out.lt
      have c1 := hA.cell hlt
      have y1 := hA.frozen k
      have HA2 := hid hA.next
      have HBL := hid ((HB1.out.trans (hb2.mono HB1.out.size)).setCell (p := ⟨w.heap.size, k, none⟩) (by simp) (.int .i64 (G k)))
      generalize G k = y at *
      generalize fll G (fun _ => 0) k k = y0 at *
      clear hA hb2 HA1 HB1 HQ1
      go_wp2_with fail
      go_roundw
      case rel => exact ⟨k + 1, by omega, by go_num, HA2.out, HBL.out⟩
      case measure => simp [intOf]; omega
    · obtain rfl : k = m := by omega
      have hlt2 : ¬ (k : Int) < (k : Int) := by omega
      have HE : Hid (ArrI wr w.heap.size 3 k G ∧ Below w.heap.size w wr) := ⟨hI.out.1.congr (fun j hj => fll_all hj), hI.out.2⟩
      clear hI
      go_wp2_with fail
      go_ret
      exact ⟨rfl, HE.out⟩

end Go.Proofs.YtlhjifpomchnfaaGreatDoor

namespace Go.Proofs.YtlhjifpomchnfaaGreatDoor
open Go.RowKit Pol

/-- of the first n places those of which P holds, each as F tells it -/
def pk (P : Nat → Bool) (F : Nat → Int) : Nat → List Int
  | 0 => []
  | n + 1 => if P n then pk P F n ++ [F n] else pk P F n

/-! ## 0 at given points alone -/
theorem ps_lin (x y : Int) : ps (lin y) x 2 = x - y := by simp [ps, lin, sub, sh, sc, Pol.one, Int.pow_succ]; omega
/-! ## the way back to the polynomial -/
end Go.Proofs.YtlhjifpomchnfaaGreatDoor
