/- Plain facts on elements in a circle, of no program: sums over the powers of an element of a known order; what a polynomial is at its points; halves. -/
import Derived.Test.YtidkhgplejglaacDoorPol
namespace Go.Proofs.YtidkhgplejglaacDoor.Dom
open Pol

def sm (f : Nat → Int) : Nat → Int
  | 0 => 0
  | n + 1 => sm f n + f n

theorem sm_add (f g : Nat → Int) (n : Nat) : sm (fun i => f i + g i) n = sm f n + sm g n := by
  induction n with
  | zero => rfl
  | succ n ih => simp only [sm, ih]; omega
theorem sm_mul (c : Int) (f : Nat → Int) (n : Nat) : sm (fun i => c * f i) n = c * sm f n := by
  induction n with
  | zero => simp [sm]
  | succ n ih => simp only [sm, ih]; grind
theorem sm_zero (n : Nat) : sm (fun _ => 0) n = 0 := by
  induction n with
  | zero => rfl
  | succ n ih => simp only [sm, ih]; omega
theorem sm_one (n : Nat) : sm (fun _ => 1) n = n := by
  induction n with
  | zero => rfl
  | succ n ih => simp only [sm, ih]; push_cast; omega
theorem sm_same {f g : Nat → Int} {n : Nat} (h : ∀ i, i < n → f i = g i) : sm f n = sm g n := by
  induction n with
  | zero => rfl
  | succ n ih => simp only [sm]; rw [ih (fun i hi => h i (by omega)), h n (by omega)]
theorem sm_congr {p : Nat} {f g : Nat → Int} {n : Nat} (h : ∀ i, i < n → (p : Int) ∣ f i - g i) : (p : Int) ∣ sm f n - sm g n := by
  induction n with
  | zero => simp [sm]
  | succ n ih =>
    simp only [sm]
    have := Int.dvd_add (ih (fun i hi => h i (by omega))) (h n (by omega))
    rwa [show sm f n - sm g n + (f n - g n) = sm f n + f n - (sm g n + g n) from by omega] at this
theorem sm_swap (F : Nat → Nat → Int) (n m : Nat) : sm (fun i => sm (fun j => F i j) m) n = sm (fun j => sm (fun i => F i j) n) m := by
  induction n with
  | zero => simp only [sm]; rw [sm_zero]
  | succ n ih => simp only [sm]; rw [ih, sm_add]
/-- all but the first vanish -/
theorem sm_first {p : Nat} {f : Nat → Int} {n : Nat} (hn : 0 < n) (h : ∀ i, 0 < i → i < n → (p : Int) ∣ f i) : (p : Int) ∣ sm f n - f 0 := by
  induction n with
  | zero => omega
  | succ n ih =>
    by_cases h0 : n = 0
    · subst h0; simp [sm]
    · have := Int.dvd_add (ih (by omega) (fun i h1 h2 => h i h1 (by omega))) (h n (by omega) (by omega))
      simp only [sm]
      rwa [show sm f n - f 0 + f n = sm f n + f n - f 0 from by omega] at this
/-- all but that at k vanish -/
theorem sm_single {p : Nat} {f : Nat → Int} {n k : Nat} (hk : k < n) (h : ∀ i, i < n → i ≠ k → (p : Int) ∣ f i) : (p : Int) ∣ sm f n - f k := by
  induction n with
  | zero => omega
  | succ n ih =>
    simp only [sm]
    by_cases e : k = n
    · subst e
      have z : ∀ m, m ≤ k → (p : Int) ∣ sm f m := fun m hm => by
        induction m with
        | zero => exact Int.dvd_zero _
        | succ m ihm => exact Int.dvd_add (ihm (by omega)) (h m (by omega) (by omega))
      have := z k (Nat.le_refl _)
      rwa [show sm f k = sm f k + f k - f k from by omega] at this
    · have := Int.dvd_add (ih (by omega) (fun i h1 h2 => h i (by omega) h2)) (h n (by omega) (fun e' => e e'.symm))
      rwa [show sm f n - f k + f n = sm f n + f n - f k from by omega] at this

theorem ps_sm (f : S) (x : Int) (n : Nat) : ps f x n = sm (fun j => f j * x ^ j) n := by
  induction n with
  | zero => rfl
  | succ n ih => simp only [ps, sm, ih]

theorem geo (x : Int) (n : Nat) : (x - 1) * sm (fun i => x ^ i) n = x ^ n - 1 := by
  induction n with
  | zero => simp [sm]
  | succ n ih => simp only [sm]; rw [Int.mul_add, ih, Int.pow_succ]; grind

theorem pow_dvd_one {p : Nat} {x : Int} (h : (p : Int) ∣ x - 1) (k : Nat) : (p : Int) ∣ x ^ k - 1 := by
  have := geo x k
  rw [← this]; exact Int.dvd_mul_of_dvd_left h

/-- w is 1 after n factors, and not before -/
structure Ord (p : Nat) (w : Int) (n : Nat) : Prop where
  pos : 0 < n
  one : (p : Int) ∣ w ^ n - 1
  no : ∀ k, 0 < k → k < n → ¬ (p : Int) ∣ w ^ k - 1

theorem Ord.nd {p : Nat} (hp : Num.Prime p) {w : Int} {n : Nat} (h : Ord p w n) : ¬ (p : Int) ∣ w := fun hd => by
  have h1 : (p : Int) ∣ w ^ n := by
    obtain ⟨m, hm⟩ : ∃ m, n = m + 1 := ⟨n - 1, by have := h.pos; omega⟩
    rw [hm, Int.pow_succ]; exact Int.dvd_mul_of_dvd_right hd
  have h2 := Int.dvd_sub h1 h.one
  rw [show w ^ n - (w ^ n - 1) = 1 from by omega] at h2
  have h3 := Int.le_of_dvd (by decide) h2
  have := hp.1
  omega

/-- the sum of all powers of a power -/
theorem Ord.sum {p : Nat} (hp : Num.Prime p) {w : Int} {n : Nat} (h : Ord p w n) {j : Nat} (h0 : 0 < j) (hj : j < n) : (p : Int) ∣ sm (fun i => (w ^ j) ^ i) n := by
  have hg := geo (w ^ j) n
  have hd : (p : Int) ∣ (w ^ j) ^ n - 1 := by
    rw [← Int.pow_mul, Nat.mul_comm, Int.pow_mul]
    exact pow_dvd_one h.one j
  rw [← hg] at hd
  exact (prime_mul hp hd).resolve_left (h.no j h0 hj)

theorem pow_nd {p : Nat} (hp : Num.Prime p) {x : Int} (h : ¬ (p : Int) ∣ x) (k : Nat) : ¬ (p : Int) ∣ x ^ k := by
  induction k with
  | zero =>
    intro hd
    have := Int.le_of_dvd (by decide) (show (p : Int) ∣ 1 by simpa using hd)
    have := hp.1
    omega
  | succ k ih => intro hd; rw [Int.pow_succ] at hd; exact (prime_mul hp hd).elim ih h

/-- the powers below the order are unlike -/
theorem Ord.unlike {p : Nat} (hp : Num.Prime p) {w : Int} {n : Nat} (h : Ord p w n) {i j : Nat} (hij : i < j) (hj : j < n) : ¬ (p : Int) ∣ w ^ j - w ^ i := fun hd => by
  obtain ⟨k, rfl⟩ : ∃ k, j = i + k := ⟨j - i, by omega⟩
  rw [Int.pow_add, show w ^ i * w ^ k - w ^ i = w ^ i * (w ^ k - 1) from by grind] at hd
  exact (prime_mul hp hd).elim (pow_nd hp (h.nd hp) i) (h.no k (by omega) (by omega))

theorem Ord.half {p : Nat} (hp : Num.Prime p) {w : Int} {m : Nat} (h : Ord p w (2 * m)) : (p : Int) ∣ w ^ m + 1 := by
  have hpos := h.pos
  have := h.one
  rw [show w ^ (2 * m) - 1 = (w ^ m - 1) * (w ^ m + 1) from by rw [Nat.two_mul, Int.pow_add]; grind] at this
  exact (prime_mul hp this).resolve_left (h.no m (by omega) (by omega))

theorem Ord.square {p : Nat} {w : Int} {m : Nat} (h : Ord p w (2 * m)) : Ord p (w * w) m := by
  have e : ∀ k, (w * w) ^ k = w ^ (2 * k) := fun k => by rw [Nat.two_mul, Int.pow_add]; exact Int.mul_pow
  refine ⟨by have := h.pos; omega, by rw [e]; exact h.one, fun k h1 h2 => by rw [e]; exact h.no (2 * k) (by omega) (by omega)⟩

/-- even and odd places -/
def ev (f : S) : S := fun k => f (2 * k)
def od (f : S) : S := fun k => f (2 * k + 1)
theorem ps_halves (f : S) (x : Int) (m : Nat) : ps f x (2 * m) = ps (ev f) (x * x) m + x * ps (od f) (x * x) m := by
  induction m with
  | zero => simp [ps]
  | succ m ih =>
    rw [show 2 * (m + 1) = 2 * m + 1 + 1 from by omega, ps, ps, ih, ps, ps]
    have e : (x * x) ^ m = x ^ (2 * m) := by rw [Nat.two_mul, Int.pow_add]; exact Int.mul_pow
    simp only [ev, od]
    rw [e, Int.pow_succ]
    grind

/-- at a point's negative -/
theorem ps_neg {p : Nat} (f : S) {x y : Int} (h : (p : Int) ∣ y + x) (m : Nat) : (p : Int) ∣ ps f y (2 * m) - (ps (ev f) (x * x) m - x * ps (od f) (x * x) m) := by
  have e := ps_halves f (-x) m
  have e2 : (-x) * (-x) = x * x := by grind
  rw [e2] at e
  have hc : ∀ k, (p : Int) ∣ y ^ k - (-x) ^ k := fun k => by
    induction k with
    | zero => simp
    | succ k ih =>
      obtain ⟨a, ha⟩ := ih
      obtain ⟨b, hb⟩ := h
      exact ⟨a * y + (-x) ^ k * b, by rw [Int.pow_succ, Int.pow_succ, show y ^ k * y - (-x) ^ k * -x = (y ^ k - (-x) ^ k) * y + (-x) ^ k * (y + x) from by grind, ha, hb]; grind⟩
  have h1 : (p : Int) ∣ ps f y (2 * m) - ps f (-x) (2 * m) := by
    rw [ps_sm, ps_sm]
    refine sm_congr (fun i _ => ?_)
    obtain ⟨a, ha⟩ := hc i
    exact ⟨f i * a, by rw [← Int.mul_sub, ha]; grind⟩
  rw [e] at h1
  rwa [show ps (ev f) (x * x) m + -x * ps (od f) (x * x) m = ps (ev f) (x * x) m - x * ps (od f) (x * x) m from by grind] at h1

/-- like points, like values -/
theorem ps_point {p : Nat} (f : S) {x y : Int} (h : (p : Int) ∣ x - y) (n : Nat) : (p : Int) ∣ ps f x n - ps f y n := by
  have hc : ∀ k, (p : Int) ∣ x ^ k - y ^ k := fun k => by
    induction k with
    | zero => simp
    | succ k ih =>
      obtain ⟨a, ha⟩ := ih
      obtain ⟨b, hb⟩ := h
      exact ⟨a * x + y ^ k * b, by rw [Int.pow_succ, Int.pow_succ, show x ^ k * x - y ^ k * y = (x ^ k - y ^ k) * x + y ^ k * (x - y) from by grind, ha, hb]; grind⟩
  rw [ps_sm, ps_sm]
  refine sm_congr (fun i _ => ?_)
  obtain ⟨a, ha⟩ := hc i
  exact ⟨f i * a, by rw [← Int.mul_sub, ha]; grind⟩

/-- what a product is at an element -/
theorem ps_add (f g : S) (x : Int) (n : Nat) : ps (add f g) x n = ps f x n + ps g x n := by
  induction n with
  | zero => rfl
  | succ n ih => simp only [ps, ih, add]; grind
theorem ps_sc (c : Int) (f : S) (x : Int) (n : Nat) : ps (sc c f) x n = c * ps f x n := by
  induction n with
  | zero => simp [ps]
  | succ n ih => simp only [ps, ih, sc]; grind
theorem ps_zero (x : Int) (n : Nat) : ps zero x n = 0 := by
  induction n with
  | zero => rfl
  | succ n ih => simp [ps, ih, zero]
theorem ps_stay (f : S) (x : Int) (n m : Nat) (h : n ≤ m) (hz : ∀ j, n ≤ j → f j = 0) : ps f x m = ps f x n := by
  induction m with
  | zero => obtain rfl : n = 0 := by omega
            rfl
  | succ m ih =>
    by_cases e : n = m + 1
    · rw [e]
    · rw [ps, ih (by omega), hz m (by omega)]; simp
theorem ps_sh (f : S) (x : Int) (k n : Nat) : ps (sh k f) x (k + n) = x ^ k * ps f x n := by
  induction n with
  | zero =>
    simp only [Nat.add_zero, ps, Int.mul_zero]
    have : ∀ m, m ≤ k → ps (sh k f) x m = 0 := fun m hm => by
      induction m with
      | zero => rfl
      | succ m ih => rw [ps, ih (by omega)]; simp only [sh]; rw [if_pos (by omega)]; simp
    exact this k (Nat.le_refl _)
  | succ n ih =>
    rw [show k + (n + 1) = k + n + 1 from by omega, ps, ih, ps]
    simp only [sh]
    rw [if_neg (by omega), show k + n - k = n from by omega, Int.pow_add]
    grind
theorem ps_mul (f g : S) (x : Int) (n m : Nat) (hf : ∀ j, n ≤ j → f j = 0) (hg : ∀ j, m ≤ j → g j = 0) : ps (mul f g) x (n + m) = ps f x n * ps g x m := by
  have key : ∀ i, i ≤ n → ps (mul (lo i f) g) x (n + m) = ps f x i * ps g x m := fun i hi => by
    induction i with
    | zero => rw [lo_zero, zero_mul, ps_zero]; simp [ps]
    | succ i ih =>
      rw [lo_mul_succ, ps_add, ih (by omega), ps]
      have hz : ∀ j, i + m ≤ j → sh i (sc (f i) g) j = 0 := fun j hj => by
        simp only [sh, sc]; rw [if_neg (by omega), hg _ (by omega)]; simp
      rw [ps_stay (sh i (sc (f i) g)) x (i + m) (n + m) (by omega) hz, ps_sh, ps_sc]
      grind
  have e := key n (Nat.le_refl _)
  rwa [show lo n f = f from by
    funext j; simp only [lo]
    split
    · rfl
    · exact (hf j (by omega)).symm] at e

/-- the sum of the values at all points is so many times the place 0 -/
theorem sum_values {p : Nat} (hp : Num.Prime p) {w : Int} {n : Nat} (h : Ord p w n) (a : S) (s : Int) (N : Nat) (hN : 0 < N) (hz : ∀ j, n ≤ j → j < N → (p : Int) ∣ a j) : (p : Int) ∣ sm (fun i => ps a (s * w ^ i) N) n - n * a 0 := by
  have e : sm (fun i => ps a (s * w ^ i) N) n = sm (fun j => (a j * s ^ j) * sm (fun i => (w ^ j) ^ i) n) N := by
    rw [show (fun i => ps a (s * w ^ i) N) = (fun i => sm (fun j => (a j * s ^ j) * (w ^ j) ^ i) N) from by
      funext i
      rw [ps_sm]
      congr 1
      funext j
      rw [Int.mul_pow, ← Int.pow_mul, ← Int.pow_mul, Nat.mul_comm i j]; grind]
    rw [sm_swap]
    congr 1
    funext j
    rw [sm_mul]
  rw [e]
  have h1 := sm_first (p := p) (f := fun j => (a j * s ^ j) * sm (fun i => (w ^ j) ^ i) n) hN (fun j h0 hj => by
    by_cases hjn : j < n
    · exact Int.dvd_mul_of_dvd_right (h.sum hp h0 hjn)
    · obtain ⟨c, hc⟩ := hz j (by omega) hj
      exact ⟨c * s ^ j * sm (fun i => (w ^ j) ^ i) n, by rw [hc]; grind⟩)
  have e0 : (a 0 * s ^ 0) * sm (fun i => (w ^ 0) ^ i) n = n * a 0 := by
    rw [show (fun i => (w ^ 0) ^ i) = (fun _ => (1 : Int)) from by funext i; simp [Int.one_pow], sm_one]
    simp; grind
  rwa [e0] at h1

/-! ## back from the values -/
theorem mul_one_pow {p : Nat} {x y : Int} (h : (p : Int) ∣ x * y - 1) (k : Nat) : (p : Int) ∣ x ^ k * y ^ k - 1 := by
  rw [← Int.mul_pow]; exact pow_dvd_one h k

/-- the powers of a quotient of two points -/
theorem Ord.quot {p : Nat} (hp : Num.Prime p) {w v : Int} {n : Nat} (h : Ord p w n) (hv : (p : Int) ∣ v * w - 1) {i k : Nat} (hi : i < n) (hk : k < n) (hne : k ≠ i) : (p : Int) ∣ sm (fun j => (v ^ k * w ^ i) ^ j) n := by
  have hg := geo (v ^ k * w ^ i) n
  have hvn : (p : Int) ∣ v ^ n - 1 := by
    obtain ⟨a, ha⟩ := mul_one_pow hv n
    obtain ⟨b, hb⟩ := h.one
    exact ⟨a - v ^ n * b, by grind⟩
  have hd : (p : Int) ∣ (v ^ k * w ^ i) ^ n - 1 := by
    rw [Int.mul_pow, ← Int.pow_mul, ← Int.pow_mul, Nat.mul_comm k n, Nat.mul_comm i n, Int.pow_mul, Int.pow_mul]
    obtain ⟨a, ha⟩ := pow_dvd_one hvn k
    obtain ⟨b, hb⟩ := pow_dvd_one h.one i
    exact ⟨a * (w ^ n) ^ i + b, by grind⟩
  rw [← hg] at hd
  refine (prime_mul hp hd).resolve_left (fun h1 => ?_)
  -- then the points would be the same
  obtain ⟨a, ha⟩ := h1
  obtain ⟨b, hb⟩ := mul_one_pow hv k
  have hw : (p : Int) ∣ w ^ i - w ^ k := ⟨w ^ k * a - w ^ i * b, by grind⟩
  rcases Nat.lt_or_ge i k with g | g
  · refine h.unlike hp g hk ?_
    have := Int.dvd_neg.2 hw; rwa [Int.neg_sub] at this
  · exact h.unlike hp (show k < i by omega) hi hw

/-- the polynomial that has these values at the points s w^i -/
theorem back {p : Nat} (hp : Num.Prime p) {w v s t m : Int} {n : Nat} (h : Ord p w n) (hv : (p : Int) ∣ v * w - 1) (hs : (p : Int) ∣ t * s - 1) (hm : (p : Int) ∣ m * n - 1) (val c : S)
    (hc : ∀ j, j < n → (p : Int) ∣ c j - m * t ^ j * sm (fun k => val k * (v ^ j) ^ k) n) (i : Nat) (hi : i < n) : (p : Int) ∣ ps c (s * w ^ i) n - val i := by
  -- each place's share
  have e1 : (p : Int) ∣ ps c (s * w ^ i) n - sm (fun j => m * sm (fun k => val k * (v ^ k * w ^ i) ^ j) n) n := by
    rw [ps_sm]
    refine sm_congr (fun j hj => ?_)
    obtain ⟨a, ha⟩ := hc j hj
    obtain ⟨b, hb⟩ := mul_one_pow hs j
    have e2 : sm (fun k => val k * (v ^ k * w ^ i) ^ j) n = (w ^ i) ^ j * sm (fun k => val k * (v ^ j) ^ k) n := by
      rw [← sm_mul]
      congr 1
      funext k
      rw [Int.mul_pow, ← Int.pow_mul, ← Int.pow_mul, ← Int.pow_mul, Nat.mul_comm k j]; grind
    rw [e2, Int.mul_pow]
    generalize sm (fun k => val k * (v ^ j) ^ k) n = T at *
    generalize (w ^ i) ^ j = u at *
    exact ⟨a * s ^ j * u + m * T * u * b, by
      have hcj : c j = m * t ^ j * T + p * a := by omega
      rw [hcj]
      have hts : t ^ j * s ^ j = 1 + p * b := by omega
      grind⟩
  have e3 : sm (fun j => m * sm (fun k => val k * (v ^ k * w ^ i) ^ j) n) n = m * sm (fun k => val k * sm (fun j => (v ^ k * w ^ i) ^ j) n) n := by
    rw [sm_mul, sm_swap]
    congr 2
    funext k
    rw [sm_mul]
  rw [e3] at e1
  have e4 := sm_single (p := p) (f := fun k => val k * sm (fun j => (v ^ k * w ^ i) ^ j) n) hi (fun k hk hne => Int.dvd_mul_of_dvd_right (h.quot hp hv hi hk hne))
  have e5 : (p : Int) ∣ sm (fun j => (v ^ i * w ^ i) ^ j) n - n := by
    have := sm_congr (p := p) (f := fun j => (v ^ i * w ^ i) ^ j) (g := fun _ => 1) (n := n) (fun j _ => pow_dvd_one (mul_one_pow hv i) j)
    rwa [sm_one] at this
  obtain ⟨a1, h1⟩ := e1
  obtain ⟨a4, h4⟩ := e4
  obtain ⟨a5, h5⟩ := e5
  obtain ⟨a6, h6⟩ := hm
  generalize sm (fun k => val k * sm (fun j => (v ^ k * w ^ i) ^ j) n) n = T at *
  generalize sm (fun j => (v ^ i * w ^ i) ^ j) n = U at *
  refine ⟨a1 + m * a4 + m * val i * a5 + val i * a6, ?_⟩
  have hT : T = val i * U + p * a4 := by omega
  have hU : U = n + p * a5 := by omega
  have hmn : m * n = 1 + p * a6 := by omega
  have hps : ps c (s * w ^ i) n = m * T + p * a1 := by omega
  rw [hps, hT, hU]
  grind

end Go.Proofs.YtidkhgplejglaacDoor.Dom
