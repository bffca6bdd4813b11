/- Plain facts on words and codewords, of no program: counting places; a polynomial of low degree that is 0 at many points is 0; of two that are near enough to one word, both are the same. -/
import Derived.Test.YtbpkmhibdaafiadDoorPlain
namespace Go.Proofs.YtbpkmhibdaafiadDoor.Cod
open Pol Dom

/-- how many of the first n places -/
def cnt (P : Nat → Bool) : Nat → Nat
  | 0 => 0
  | n + 1 => cnt P n + (if P n then 1 else 0)

theorem cnt_le (P : Nat → Bool) (n : Nat) : cnt P n ≤ n := by
  induction n with
  | zero => exact Nat.le_refl _
  | succ n ih => simp only [cnt]; split <;> omega
theorem cnt_not (P : Nat → Bool) (n : Nat) : cnt P n + cnt (fun j => !P j) n = n := by
  induction n with
  | zero => rfl
  | succ n ih => simp only [cnt]; by_cases h : P n = true <;> simp [h] <;> omega
theorem cnt_or (P Q : Nat → Bool) (n : Nat) : cnt (fun j => P j || Q j) n ≤ cnt P n + cnt Q n := by
  induction n with
  | zero => exact Nat.le_refl _
  | succ n ih => simp only [cnt]; by_cases h1 : P n = true <;> by_cases h2 : Q n = true <;> simp [h1, h2] <;> omega
theorem cnt_mono {P Q : Nat → Bool} {n : Nat} (h : ∀ j, j < n → P j = true → Q j = true) : cnt P n ≤ cnt Q n := by
  induction n with
  | zero => exact Nat.le_refl _
  | succ n ih =>
    have := ih (fun j hj => h j (by omega))
    simp only [cnt]
    cases hp : P n with
    | false => simp; omega
    | true => rw [h n (by omega) hp]; simp; omega
theorem cnt_congr {P Q : Nat → Bool} {n : Nat} (h : ∀ j, j < n → P j = Q j) : cnt P n = cnt Q n := by
  induction n with
  | zero => rfl
  | succ n ih => simp only [cnt]; rw [ih (fun j hj => h j (by omega)), h n (by omega)]
theorem cnt_zero {P : Nat → Bool} {n : Nat} : cnt P n = 0 ↔ ∀ j, j < n → P j = false := by
  induction n with
  | zero => simp [cnt]
  | succ n ih =>
    simp only [cnt]
    constructor
    · intro h j hj
      by_cases e : j = n
      · subst e
        cases hp : P j with
        | false => rfl
        | true => rw [hp] at h; simp at h
      · exact ih.1 (by omega) j (by omega)
    · intro h
      rw [ih.2 (fun j hj => h j (by omega)), h n (by omega)]; rfl

/-- so many of them, in their order -/
theorem cnt_enum (P : Nat → Bool) : ∀ (n k : Nat), k ≤ cnt P n → ∃ e : Nat → Nat, (∀ i, i < k → e i < n ∧ P (e i) = true) ∧ ∀ i j, i < j → j < k → e i < e j
  | 0, k, h => ⟨fun i => i, fun i hi => by simp [cnt] at h; omega, fun i j _ hj => by simp [cnt] at h; omega⟩
  | n + 1, k, h => by
    simp only [cnt] at h
    by_cases hk : k ≤ cnt P n
    · obtain ⟨e, h1, h2⟩ := cnt_enum P n k hk
      exact ⟨e, fun i hi => ⟨by have := (h1 i hi).1; omega, (h1 i hi).2⟩, h2⟩
    · have hp : P n = true := by
        cases hp : P n with
        | true => rfl
        | false => rw [hp] at h; simp at h; omega
      rw [hp] at h
      simp at h
      obtain ⟨e, h1, h2⟩ := cnt_enum P n (k - 1) (by omega)
      refine ⟨fun i => if i < k - 1 then e i else n, fun i hi => ?_, fun i j hij hj => ?_⟩
      · by_cases g : i < k - 1
        · simp only [g, if_true]; exact ⟨by have := (h1 i g).1; omega, (h1 i g).2⟩
        · simp only [g, if_false]; exact ⟨by omega, hp⟩
      · show (if i < k - 1 then e i else n) < (if j < k - 1 then e j else n)
        by_cases g : j < k - 1
        · rw [if_pos (by omega), if_pos g]; exact h2 i j hij g
        · rw [if_pos (by omega), if_neg g]; exact (h1 i (by omega)).1

/-- 0 at as many points as it has places: 0 -/
theorem zero_of_roots {p : Nat} (hp : Num.Prime p) {xs : Nat → Int} {n : Nat} (hu : ∀ i j, i < j → j < n → ¬ (p : Int) ∣ xs j - xs i) (f : S) (k : Nat) (P : Nat → Bool) (hP : ∀ j, j < n → P j = true → (p : Int) ∣ ps f (xs j) k) (hk : k ≤ cnt P n) : ∀ j, j < k → (p : Int) ∣ f j := by
  obtain ⟨e, h1, h2⟩ := cnt_enum P n k hk
  exact Pol.roots hp k f (fun i => xs (e i)) (fun i j hij hj => hu (e i) (e j) (h2 i j hij hj) (h1 j hj).1) (fun i hi => hP _ (h1 i hi).1 (h1 i hi).2)

/-- the points are unlike -/
theorem pt_unlike {p n : Nat} (hp : Num.Prime p) {r s : Int} (h : Ord p r n) (hs : ¬ (p : Int) ∣ s) (i j : Nat) (hij : i < j) (hj : j < n) : ¬ (p : Int) ∣ pt p s r j - pt p s r i := fun hd => by
  have h1 := emod_dvd p (s * r ^ j)
  have h2 := emod_dvd p (s * r ^ i)
  unfold pt at hd
  have h3 := Int.dvd_add (Int.dvd_sub hd h1) h2
  rw [show s * r ^ j % (p : Int) - s * r ^ i % (p : Int) - (s * r ^ j % (p : Int) - s * r ^ j) + (s * r ^ i % (p : Int) - s * r ^ i) = s * (r ^ j - r ^ i) from by rw [Int.mul_sub]; omega] at h3
  exact (prime_mul hp h3).elim hs (h.unlike hp hij hj)

/-- two polynomials whose values agree at many points are the same -/
theorem same_of_agree {p : Nat} (hp : Num.Prime p) {xs : Nat → Int} {n : Nat} (hu : ∀ i j, i < j → j < n → ¬ (p : Int) ∣ xs j - xs i) (f g : S) (k : Nat) (P : Nat → Bool) (hP : ∀ j, j < n → P j = true → (p : Int) ∣ ps f (xs j) k - ps g (xs j) k) (hk : k ≤ cnt P n) : ∀ j, j < k → (p : Int) ∣ f j - g j := by
  have hs : ∀ (x : Int) (m : Nat), ps (Pol.sub f g) x m = ps f x m - ps g x m := fun x m => by
    induction m with
    | zero => rfl
    | succ m ih => simp only [ps, ih, Pol.sub]; grind
  exact zero_of_roots hp hu (Pol.sub f g) k P (fun j h1 h2 => by rw [hs]; exact hP j h1 h2) hk

/-- who is near enough to a word is one alone: gone places G; a and b differ from the word at few of the others -/
theorem near_one {p : Nat} (hp : Num.Prime p) {xs : Nat → Int} {n : Nat} (hu : ∀ i j, i < j → j < n → ¬ (p : Int) ∣ xs j - xs i) (a b : S) (k : Nat) (hkn : k ≤ n) (G A B : Nat → Bool)
    (hA : ∀ j, j < n → G j = false → A j = false → B j = false → (p : Int) ∣ ps a (xs j) k - ps b (xs j) k)
    (ha : 2 * cnt (fun j => !G j && A j) n + cnt G n ≤ n - k) (hb : 2 * cnt (fun j => !G j && B j) n + cnt G n ≤ n - k) : ∀ j, j < k → (p : Int) ∣ a j - b j := by
  refine same_of_agree hp hu a b k (fun j => !(G j || (!G j && A j) || (!G j && B j))) (fun j h1 h2 => ?_) ?_
  · cases hg : G j <;> cases h3 : A j <;> cases h4 : B j <;> simp [hg, h3, h4] at h2
    exact hA j h1 hg h3 h4
  · have h1 := cnt_not (fun j => G j || (!G j && A j) || (!G j && B j)) n
    have h2 := cnt_or (fun j => G j || (!G j && A j)) (fun j => !G j && B j) n
    have h3 := cnt_or G (fun j => !G j && A j) n
    omega

/-- Singleton: unlike polynomials of low degree have values that differ nearly everywhere -/
theorem apart {p : Nat} (hp : Num.Prime p) {xs : Nat → Int} {n : Nat} (hu : ∀ i j, i < j → j < n → ¬ (p : Int) ∣ xs j - xs i) (a b : S) (k : Nat) (D : Nat → Bool) (hD : ∀ j, j < n → D j = false → (p : Int) ∣ ps a (xs j) k - ps b (xs j) k)
    (hne : ∃ j, j < k ∧ ¬ (p : Int) ∣ a j - b j) : n < cnt D n + k := by
  refine Nat.lt_of_not_le (fun hle => ?_)
  obtain ⟨j, hj, hd⟩ := hne
  refine hd (same_of_agree hp hu a b k (fun j => !D j) (fun i h1 h2 => hD i h1 (by simpa using h2)) ?_ j hj)
  have := cnt_not D n
  omega

end Go.Proofs.YtbpkmhibdaafiadDoor.Cod
