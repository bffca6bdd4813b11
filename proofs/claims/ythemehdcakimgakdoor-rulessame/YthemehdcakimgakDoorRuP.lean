/- Plain facts on products of x less numbers: they tell lists apart. -/
import Derived.Test.YthemehdcakimgakDoorPlain
namespace Go.Proofs.YthemehdcakimgakDoor.Pol

/-- the product of x less each of a list, as a polynomial -/
def pl : List Int → S
  | [] => one
  | r :: l => mul (pl l) (lin r)
/-- .. at a place -/
def plv (x : Int) : List Int → Int
  | [] => 1
  | r :: l => plv x l * (x - r)

theorem lin_at (g : S) (r : Int) (n : Nat) : mul g (lin r) (n + 1) = g n - r * g (n + 1) := by
  rw [mul_lin]; simp [sub, sh, sc]
theorem lin_at0 (g : S) (r : Int) : mul g (lin r) 0 = - (r * g 0) := by
  rw [mul_lin]; simp [sub, sh, sc]
theorem pl_zero : ∀ (l : List Int) (j : Nat), l.length < j → pl l j = 0
  | [], j, h => by simp [pl, one]; simp at h; omega
  | r :: l, j, h => by
    simp at h
    obtain ⟨i, rfl⟩ : ∃ i, j = i + 1 := ⟨j - 1, by omega⟩
    rw [pl, lin_at, pl_zero l i (by omega), pl_zero l (i + 1) (by omega)]
    simp
theorem pl_top : ∀ (l : List Int), pl l l.length = 1
  | [] => by simp [pl, one]
  | r :: l => by
    rw [pl, List.length_cons, lin_at, pl_top l, pl_zero l (l.length + 1) (by omega)]
    simp
theorem ps_lin (g : S) (x r : Int) : ∀ n, ps (mul g (lin r)) x (n + 1) = (x - r) * ps g x n + - (r * g n) * x ^ n
  | 0 => by simp [ps, lin_at0]
  | n + 1 => by
    rw [ps, ps_lin g x r n, lin_at, ps, Int.pow_succ]
    grind
theorem ps_pl (x : Int) : ∀ (l : List Int), ps (pl l) x (l.length + 1) = plv x l
  | [] => by simp [ps, pl, one, plv]
  | r :: l => by
    rw [pl, List.length_cons, ps_lin, ps_pl x l, pl_zero l (l.length + 1) (by omega), plv]
    grind
theorem pl_perm {l m : List Int} (h : l.Perm m) : pl l = pl m := by
  induction h with
  | nil => rfl
  | cons x _ ih => rw [pl, pl, ih]
  | swap x y l => rw [pl, pl, pl, pl, mul_assoc, mul_assoc, mul_comm (lin y)]
  | trans _ _ h1 h2 => exact h1.trans h2
theorem plv_perm {x : Int} {l m : List Int} (h : l.Perm m) : plv x l = plv x m := by
  induction h with
  | nil => rfl
  | cons x _ ih => rw [plv, plv, ih]
  | swap a b l => simp only [plv]; grind
  | trans _ _ h1 h2 => exact h1.trans h2
theorem plv_root {p : Nat} (hp : Num.Prime p) (x : Int) : ∀ (l : List Int), (p : Int) ∣ plv x l → ∃ r, r ∈ l ∧ (p : Int) ∣ x - r
  | [], h => by
    rw [plv] at h
    have := Int.le_of_dvd (by decide) h
    have := hp.1
    omega
  | r :: l, h => by
    rw [plv] at h
    rcases prime_mul hp h with h | h
    · obtain ⟨r', h1, h2⟩ := plv_root hp x l h
      exact ⟨r', List.mem_cons_of_mem _ h1, h2⟩
    · exact ⟨r, List.mem_cons_self, h⟩
/-- what is the same times x - r is the same -/
theorem lin_cancel {p : Nat} {f g : S} {r : Int} {N : Nat} (hf : ∀ j, N < j → f j = 0) (hg : ∀ j, N < j → g j = 0) (h : Eqp p (mul f (lin r)) (mul g (lin r))) : Eqp p f g := by
  intro n
  rcases Nat.lt_or_ge N n with hn | hn
  · rw [hf n hn, hg n hn]; simp
  · obtain ⟨k, hk⟩ : ∃ k, n + k = N := ⟨N - n, by omega⟩
    induction k generalizing n with
    | zero =>
      have := h (n + 1)
      rw [lin_at, lin_at, hf (n + 1) (by omega), hg (n + 1) (by omega)] at this
      simpa using this
    | succ k ih =>
      have h1 := h (n + 1)
      have h2 := ih (n + 1) (by omega) (by omega)
      rw [lin_at, lin_at] at h1
      have h3 := Int.dvd_add h1 (Int.dvd_mul_of_dvd_right h2 (b := r))
      have e : f n - r * f (n + 1) - (g n - r * g (n + 1)) + r * (f (n + 1) - g (n + 1)) = f n - g n := by grind
      rw [e] at h3
      exact h3
/-- one polynomial, one list of roots -/
theorem pl_inj {p : Nat} (hp : Num.Prime p) : ∀ (l m : List Int), (∀ x, x ∈ l → 0 ≤ x ∧ x < p) → (∀ x, x ∈ m → 0 ≤ x ∧ x < p) → l.length = m.length → Eqp p (pl l) (pl m) → l.Perm m
  | [], m, _, _, h, _ => by
    have : m = [] := List.length_eq_zero_iff.1 (by simpa using h.symm)
    rw [this]
  | x :: l, m, hl, hm, hn, h => by
    have h1 : (p : Int) ∣ plv x m := by
      have e1 : plv x (x :: l) = 0 := by rw [plv]; simp
      have e2 := ps_congr (p := p) x ((x :: l).length + 1) (fun j _ => h j)
      rw [ps_pl, e1, hn, ps_pl] at e2
      have := Int.dvd_neg.2 e2
      simpa using this
    obtain ⟨r, hr, hd⟩ := plv_root hp x m h1
    have hx := hl x List.mem_cons_self
    have hr2 := hm r hr
    obtain rfl : x = r := eq_of_dvd hd hx.1 hx.2 hr2.1 hr2.2
    have hpe : m.Perm (x :: m.erase x) := List.perm_cons_erase hr
    rw [pl_perm hpe] at h
    have hle : (m.erase x).length = l.length := by
      have := hpe.length_eq
      simp at hn this ⊢
      omega
    have ih := pl_inj hp l (m.erase x) (fun y hy => hl y (List.mem_cons_of_mem _ hy)) (fun y hy => hm y (List.mem_of_mem_erase hy)) hle.symm
      (lin_cancel (N := l.length) (fun j hj => pl_zero l j hj) (fun j hj => pl_zero _ j (by omega)) h)
    exact (ih.cons x).trans hpe.symm
/-- products tell lists apart -/
theorem plv_tell {p : Nat} (hp : Num.Prime p) {l m : List Int} (hl : ∀ x, x ∈ l → 0 ≤ x ∧ x < p) (hm : ∀ x, x ∈ m → 0 ≤ x ∧ x < p) (hn : l.length = m.length)
    (xs : Nat → Int) (hu : ∀ i j, i < j → j < l.length → ¬ (p : Int) ∣ xs j - xs i) (hs : ∀ i, i < l.length → (p : Int) ∣ plv (xs i) l - plv (xs i) m) : l.Perm m := by
  refine pl_inj hp l m hl hm hn (fun j => ?_)
  rcases Nat.lt_or_ge j l.length with hj | hj
  · refine roots hp l.length (sub (pl l) (pl m)) xs hu (fun i hi => ?_) j hj
    have h := hs i hi
    rw [← ps_pl, ← ps_pl, ← hn] at h
    have e : ∀ (f g : S) (x : Int) n, ps (sub f g) x n = ps f x n - ps g x n := fun f g x n => by
      induction n with
      | zero => simp [ps]
      | succ n ih => rw [ps, ps, ps, ih]; simp only [sub]; grind
    have e2 : ps (sub (pl l) (pl m)) (xs i) (l.length + 1) = ps (sub (pl l) (pl m)) (xs i) l.length := by
      rw [ps]
      have : sub (pl l) (pl m) l.length = 0 := by
        unfold sub
        rw [pl_top]
        rw [show pl m l.length = 1 from by rw [hn]; exact pl_top m]
        rfl
      rw [this]
      simp
    rw [← e2, e]
    exact h
  · rcases Nat.lt_or_ge l.length j with h1 | h1
    · rw [pl_zero l j h1, pl_zero m j (by omega)]; simp
    · obtain rfl : j = l.length := by omega
      rw [pl_top, hn, pl_top]; simp

end Go.Proofs.YthemehdcakimgakDoor.Pol
