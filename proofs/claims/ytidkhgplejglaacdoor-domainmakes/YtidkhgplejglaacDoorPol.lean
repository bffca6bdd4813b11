/- Plain facts on polynomials modulo a prime, of no program: rows of numbers, their sums and products, what they are modulo p; lists without zeros at their end; division with a rest is one alone; a polynomial that is not zero has no more roots than its degree. -/
import Derived.Test.YtidkhgplejglaacDoorNum
namespace Go.Proofs.YtidkhgplejglaacDoor.Pol

/-- a row of numbers, one for each power -/
abbrev S := Nat → Int

def tl (f : S) : S := fun n => f (n + 1)
def ml : Nat → S → S → Int
  | 0, f, g => f 0 * g 0
  | n + 1, f, g => f 0 * g (n + 1) + ml n (tl f) g
def mul (f g : S) : S := fun n => ml n f g
def add (f g : S) : S := fun n => f n + g n
def sub (f g : S) : S := fun n => f n - g n
def sc (c : Int) (f : S) : S := fun n => c * f n
def sh (k : Nat) (f : S) : S := fun n => if n < k then 0 else f (n - k)
def zero : S := fun _ => 0
def one : S := fun n => if n = 0 then 1 else 0

theorem ml_add_left (n : Nat) (f g h : S) : ml n (add f g) h = ml n f h + ml n g h := by
  induction n generalizing f g with
  | zero => simp only [ml, add]; grind
  | succ n ih =>
    simp only [ml]
    rw [show tl (add f g) = add (tl f) (tl g) from rfl, ih]
    simp only [add]; grind

theorem ml_add_right (n : Nat) (f g h : S) : ml n f (add g h) = ml n f g + ml n f h := by
  induction n generalizing f with
  | zero => simp only [ml, add]; grind
  | succ n ih => simp only [ml, ih]; simp only [add]; grind

theorem ml_sub_left (n : Nat) (f g h : S) : ml n (sub f g) h = ml n f h - ml n g h := by
  induction n generalizing f g with
  | zero => simp only [ml, sub]; grind
  | succ n ih =>
    simp only [ml]
    rw [show tl (sub f g) = sub (tl f) (tl g) from rfl, ih]
    simp only [sub]; grind

theorem ml_sub_right (n : Nat) (f g h : S) : ml n f (sub g h) = ml n f g - ml n f h := by
  induction n generalizing f with
  | zero => simp only [ml, sub]; grind
  | succ n ih => simp only [ml, ih]; simp only [sub]; grind

theorem ml_sc_left (n : Nat) (c : Int) (f g : S) : ml n (sc c f) g = c * ml n f g := by
  induction n generalizing f with
  | zero => simp only [ml, sc]; grind
  | succ n ih =>
    simp only [ml]
    rw [show tl (sc c f) = sc c (tl f) from rfl, ih]
    simp only [sc]; grind

theorem ml_sc_right (n : Nat) (c : Int) (f g : S) : ml n f (sc c g) = c * ml n f g := by
  induction n generalizing f with
  | zero => simp only [ml, sc]; grind
  | succ n ih => simp only [ml, ih]; simp only [sc]; grind

theorem tl_mul (f g : S) : tl (mul f g) = add (sc (f 0) (tl g)) (mul (tl f) g) := by
  funext n; rfl

theorem ml_last (n : Nat) (f g : S) : ml (n + 1) f g = f (n + 1) * g 0 + ml n f (tl g) := by
  induction n generalizing f with
  | zero => simp only [ml, tl]; grind
  | succ n ih =>
    rw [ml, ih (tl f)]
    show _ = _ + (f 0 * g (n + 2) + ml n (tl f) (tl g))
    simp only [tl]; grind

theorem ml_comm (n : Nat) (f g : S) : ml n f g = ml n g f := by
  induction n generalizing f g with
  | zero => simp only [ml]; grind
  | succ n ih => rw [ml_last, ml, ih]; grind

theorem ml_assoc (n : Nat) (f g h : S) : ml n (mul f g) h = ml n f (mul g h) := by
  induction n generalizing f with
  | zero => simp only [ml, mul]; grind
  | succ n ih =>
    rw [ml, ml, tl_mul, ml_add_left, ml_sc_left, ih (tl f)]
    show f 0 * g 0 * h (n + 1) + _ = f 0 * (g 0 * h (n + 1) + ml n (tl g) h) + _
    grind

theorem mul_comm (f g : S) : mul f g = mul g f := funext fun n => ml_comm n f g
theorem mul_assoc (f g h : S) : mul (mul f g) h = mul f (mul g h) := funext fun n => ml_assoc n f g h
theorem add_mul (f g h : S) : mul (add f g) h = add (mul f h) (mul g h) := funext fun n => ml_add_left n f g h
theorem mul_add (f g h : S) : mul f (add g h) = add (mul f g) (mul f h) := funext fun n => ml_add_right n f g h
theorem sub_mul (f g h : S) : mul (sub f g) h = sub (mul f h) (mul g h) := funext fun n => ml_sub_left n f g h
theorem mul_sub (f g h : S) : mul f (sub g h) = sub (mul f g) (mul f h) := funext fun n => ml_sub_right n f g h
theorem sc_mul (c : Int) (f g : S) : mul (sc c f) g = sc c (mul f g) := funext fun n => ml_sc_left n c f g
theorem mul_sc (c : Int) (f g : S) : mul f (sc c g) = sc c (mul f g) := funext fun n => ml_sc_right n c f g

theorem ml_zero_left (n : Nat) (g : S) : ml n zero g = 0 := by
  induction n with
  | zero => simp [ml, zero]
  | succ n ih => rw [ml, show tl zero = zero from rfl, ih]; simp [zero]

theorem zero_mul (g : S) : mul zero g = zero := funext fun n => ml_zero_left n g

theorem one_mul (g : S) : mul one g = g := by
  funext n
  cases n with
  | zero => simp [mul, ml, one]
  | succ n =>
    have : tl one = zero := by funext k; simp [tl, one, zero]
    simp only [mul, ml, this, ml_zero_left]; simp [one]

theorem sh_zero (f : S) : sh 0 f = f := by funext n; simp [sh]

theorem tl_sh (k : Nat) (f : S) : tl (sh (k + 1) f) = sh k f := by
  funext n; simp only [tl, sh]; grind

theorem sh_mul (k : Nat) (f g : S) : mul (sh k f) g = sh k (mul f g) := by
  induction k with
  | zero => rw [sh_zero, sh_zero]
  | succ k ih =>
    funext n
    cases n with
    | zero => simp [mul, ml, sh]
    | succ n =>
      have h1 := congrFun ih n
      simp only [mul] at h1
      simp only [mul, ml, tl_sh, h1]
      simp only [sh, mul]; grind

/-! ## modulo p -/
def Eqp (p : Nat) (f g : S) : Prop := ∀ n, (p : Int) ∣ f n - g n

theorem Eqp.refl (p : Nat) (f : S) : Eqp p f f := fun n => by rw [Int.sub_self]; exact Int.dvd_zero _
theorem Eqp.of_eq {p : Nat} {f g : S} (h : f = g) : Eqp p f g := h ▸ Eqp.refl p f
theorem Eqp.symm {p : Nat} {f g : S} (h : Eqp p f g) : Eqp p g f := fun n => by
  have := Int.dvd_neg.2 (h n); rwa [Int.neg_sub] at this
theorem Eqp.trans {p : Nat} {f g k : S} (h : Eqp p f g) (h' : Eqp p g k) : Eqp p f k := fun n => by
  have := Int.dvd_add (h n) (h' n); rwa [show f n - g n + (g n - k n) = f n - k n from by omega] at this
theorem Eqp.add {p : Nat} {f g f' g' : S} (h : Eqp p f f') (h' : Eqp p g g') : Eqp p (add f g) (add f' g') := fun n => by
  have := Int.dvd_add (h n) (h' n)
  rwa [show f n - f' n + (g n - g' n) = Pol.add f g n - Pol.add f' g' n from by simp only [Pol.add]; omega] at this
theorem Eqp.sub {p : Nat} {f g f' g' : S} (h : Eqp p f f') (h' : Eqp p g g') : Eqp p (sub f g) (sub f' g') := fun n => by
  have := Int.dvd_sub (h n) (h' n)
  rwa [show f n - f' n - (g n - g' n) = Pol.sub f g n - Pol.sub f' g' n from by simp only [Pol.sub]; omega] at this
theorem Eqp.mul_left {p : Nat} {f f' : S} (g : S) (h : Eqp p f f') : Eqp p (mul f g) (mul f' g) := by
  intro n
  have e : ml n f g - ml n f' g = ml n (Pol.sub f f') g := (ml_sub_left n f f' g).symm
  show (p : Int) ∣ ml n f g - ml n f' g
  rw [e]
  have : ∀ (n : Nat) (k : S), (∀ j, (p : Int) ∣ k j) → (p : Int) ∣ ml n k g := by
    intro n
    induction n with
    | zero => intro k hk; exact Int.dvd_mul_of_dvd_left (hk 0)
    | succ n ih => intro k hk; exact Int.dvd_add (Int.dvd_mul_of_dvd_left (hk 0)) (ih _ (fun j => hk (j + 1)))
  exact this n _ h
theorem Eqp.mul {p : Nat} {f g f' g' : S} (h : Eqp p f f') (h' : Eqp p g g') : Eqp p (mul f g) (mul f' g') :=
  (h.mul_left g).trans (by rw [mul_comm f' g, mul_comm f' g']; exact h'.mul_left f')
theorem Eqp.sc {p : Nat} {f g : S} (c : Int) (h : Eqp p f g) : Eqp p (sc c f) (sc c g) := fun n => by
  obtain ⟨k, hk⟩ := h n
  exact ⟨c * k, by simp only [Pol.sc]; grind⟩
theorem Eqp.sh {p : Nat} {f g : S} (k : Nat) (h : Eqp p f g) : Eqp p (sh k f) (sh k g) := fun n => by
  simp only [Pol.sh]
  split
  · exact Int.dvd_zero _
  · exact h _

theorem emod_dvd (p : Nat) (a : Int) : (p : Int) ∣ a % (p : Int) - a := by
  have := Int.emod_add_mul_ediv a p
  exact ⟨-(a / p), by grind⟩

theorem eq_of_dvd {p : Nat} {a b : Int} (h : (p : Int) ∣ a - b) (ha : 0 ≤ a) (ha2 : a < p) (hb : 0 ≤ b) (hb2 : b < p) : a = b := by
  obtain ⟨k, hk⟩ := h
  rcases Int.lt_trichotomy k 0 with g | g | g
  · have : (p : Int) * k ≤ (p : Int) * (-1) := Int.mul_le_mul_of_nonneg_left (by omega) (by omega)
    omega
  · subst g; omega
  · have : (p : Int) * 1 ≤ (p : Int) * k := Int.mul_le_mul_of_nonneg_left (by omega) (by omega)
    omega

theorem emod_eq_iff {p : Nat} {a b : Int} (hp : 0 < p) : a % (p : Int) = b % (p : Int) ↔ (p : Int) ∣ a - b := by
  constructor
  · intro h
    have h1 := emod_dvd p a
    have h2 := emod_dvd p b
    rw [h] at h1
    have := Int.dvd_sub h2 h1
    rwa [show b % (p : Int) - b - (b % (p : Int) - a) = a - b from by omega] at this
  · intro h
    refine eq_of_dvd (p := p) ?_ (Int.emod_nonneg _ (by omega)) (Int.emod_lt_of_pos _ (by omega)) (Int.emod_nonneg _ (by omega)) (Int.emod_lt_of_pos _ (by omega))
    have h1 := emod_dvd p a
    have h2 := emod_dvd p b
    have := Int.dvd_add (Int.dvd_sub h1 h2) h
    rwa [show a % (p : Int) - a - (b % (p : Int) - b) + (a - b) = a % (p : Int) - b % (p : Int) from by omega] at this

theorem emod_zero_iff {p : Nat} {a : Int} : a % (p : Int) = 0 ↔ (p : Int) ∣ a := ⟨Int.dvd_of_emod_eq_zero, Int.emod_eq_zero_of_dvd⟩

theorem prime_mul {p : Nat} (hp : Num.Prime p) {a b : Int} (h : (p : Int) ∣ a * b) : (p : Int) ∣ a ∨ (p : Int) ∣ b := by
  rw [← Int.natAbs_dvd_natAbs, Int.natAbs_mul] at h
  rcases Num.euclid hp h with g | g
  · exact Or.inl (Int.natAbs_dvd_natAbs.1 g)
  · exact Or.inr (Int.natAbs_dvd_natAbs.1 g)

/-! ## lists -/
def cf (l : List Int) : S := fun n => l.getD n 0

theorem cf_nil : cf [] = zero := by funext n; simp [cf, zero]
theorem cf_one : cf [1] = one := by funext n; cases n <;> simp [cf, one]
theorem cf_ge {l : List Int} {n : Nat} (h : l.length ≤ n) : cf l n = 0 := by simp [cf, h]

/-- behind the last below n that is not 0 -/
def tp (p : Nat) (f : S) : Nat → Nat
  | 0 => 0
  | n + 1 => if f n % (p : Int) = 0 then tp p f n else n + 1

theorem tp_le (p : Nat) (f : S) (n : Nat) : tp p f n ≤ n := by
  induction n with
  | zero => exact Nat.le_refl _
  | succ n ih => unfold tp; split <;> omega

theorem tp_behind (p : Nat) (f : S) (n j : Nat) (h : tp p f n ≤ j) (hj : j < n) : f j % (p : Int) = 0 := by
  induction n with
  | zero => omega
  | succ n ih =>
    unfold tp at h
    split at h
    · by_cases e : j = n
      · subst e; assumption
      · exact ih h (by omega)
    · omega

theorem tp_last (p : Nat) (f : S) (n : Nat) (h : 0 < tp p f n) : f (tp p f n - 1) % (p : Int) ≠ 0 := by
  induction n with
  | zero => simp [tp] at h
  | succ n ih =>
    unfold tp at h ⊢
    split
    · rename_i g; rw [if_pos g] at h; exact ih h
    · assumption

theorem tp_unique (p : Nat) (f : S) (n t : Nat) (h1 : t ≤ n) (h2 : ∀ j, t ≤ j → j < n → f j % (p : Int) = 0) (h3 : 0 < t → f (t - 1) % (p : Int) ≠ 0) : tp p f n = t := by
  rcases Nat.lt_trichotomy (tp p f n) t with g | g | g
  · exact absurd (tp_behind p f n (t - 1) (by omega) (by omega)) (h3 (by omega))
  · exact g
  · exact absurd (h2 _ (by omega) (by have := tp_le p f n; omega)) (tp_last p f n (by omega))

theorem tp_congr (p : Nat) (f g : S) (n : Nat) (h : ∀ j, j < n → (f j % (p : Int) = 0 ↔ g j % (p : Int) = 0)) : tp p f n = tp p g n := by
  induction n with
  | zero => rfl
  | succ n ih =>
    have h1 := h n (by omega)
    have h2 := ih (fun j hj => h j (by omega))
    by_cases e : f n % (p : Int) = 0
    · rw [tp, tp, if_pos e, if_pos (h1.1 e), h2]
    · rw [tp, tp, if_neg e, if_neg (fun k => e (h1.2 k))]
theorem tp_mod (p : Nat) (f : S) (n : Nat) : tp p (fun j => f j % (p : Int)) n = tp p f n :=
  tp_congr p _ _ n (fun j _ => by show f j % (p : Int) % (p : Int) = 0 ↔ _; rw [Int.emod_emod_of_dvd _ (Int.dvd_refl _)])

/-- the list of a row that is 0 from n on -/
def mk (p : Nat) (f : S) (n : Nat) : List Int := (List.range (tp p f n)).map (fun j => f j % (p : Int))

theorem mk_length (p : Nat) (f : S) (n : Nat) : (mk p f n).length = tp p f n := by simp [mk]
theorem mk_at (p : Nat) (f : S) (n j : Nat) (h : j < tp p f n) : (mk p f n).getD j 0 = f j % (p : Int) := by simp [mk, h]

theorem cf_mk {p : Nat} {f : S} {n : Nat} (h : ∀ j, n ≤ j → f j % (p : Int) = 0) (j : Nat) : cf (mk p f n) j = f j % (p : Int) := by
  by_cases hj : j < tp p f n
  · exact mk_at p f n j hj
  · rw [cf_ge (by rw [mk_length]; omega)]
    by_cases hn : j < n
    · exact (tp_behind p f n j (by omega) hn).symm
    · exact (h j (by omega)).symm

theorem mk_eqp {p : Nat} {f : S} {n : Nat} (h : ∀ j, n ≤ j → f j % (p : Int) = 0) : Eqp p (cf (mk p f n)) f := fun j => by
  rw [cf_mk h]; exact emod_dvd p _

/-- elements, and no 0 at the end -/
structure Can (p : Nat) (l : List Int) : Prop where
  elem : ∀ j, j < l.length → 0 ≤ l.getD j 0 ∧ l.getD j 0 < p
  last : 0 < l.length → l.getD (l.length - 1) 0 ≠ 0

theorem mk_can {p : Nat} (hp : 0 < p) (f : S) (n : Nat) : Can p (mk p f n) := by
  refine ⟨fun j hj => ?_, fun h => ?_⟩
  · rw [mk_length] at hj
    rw [mk_at p f n j hj]
    exact ⟨Int.emod_nonneg _ (by omega), Int.emod_lt_of_pos _ (by omega)⟩
  · rw [mk_length] at h ⊢
    rw [mk_at p f n _ (by omega)]
    exact tp_last p f n h

theorem Can.elem' {p : Nat} {l : List Int} (hp : 0 < p) (h : Can p l) (j : Nat) : 0 ≤ cf l j ∧ cf l j < p := by
  by_cases hj : j < l.length
  · exact h.elem j hj
  · rw [cf_ge (by omega)]; omega

theorem Can.nil (p : Nat) : Can p [] := ⟨fun j hj => by simp at hj, fun h => by simp at h⟩

theorem Can.last_nd {p : Nat} {l : List Int} (h : Can p l) (h0 : 0 < l.length) : ¬ (p : Int) ∣ cf l (l.length - 1) := by
  have h1 := h.elem (l.length - 1) (by omega)
  have h2 := h.last h0
  intro hd
  have := Int.le_of_dvd (by show (0 : Int) < cf l _; simp only [cf]; omega) hd
  simp only [cf] at this
  omega

theorem can_eq {p : Nat} (hp : 0 < p) {l m : List Int} (hl : Can p l) (hm : Can p m) (h : Eqp p (cf l) (cf m)) : l = m := by
  have hc : ∀ j, cf l j = cf m j := fun j => by
    obtain ⟨a1, a2⟩ := hl.elem' hp j
    obtain ⟨b1, b2⟩ := hm.elem' hp j
    exact eq_of_dvd (h j) a1 a2 b1 b2
  have hlen : l.length = m.length := by
    rcases Nat.lt_trichotomy l.length m.length with g | g | g
    · have := hm.last (by omega)
      have h2 := hc (m.length - 1)
      rw [cf_ge (by omega)] at h2
      exact absurd h2.symm this
    · exact g
    · have := hl.last (by omega)
      have h2 := hc (l.length - 1)
      rw [cf_ge (l := m) (by omega)] at h2
      exact absurd h2 this
  apply List.ext_getElem hlen
  intro j h1 h2
  have := hc j
  simpa [cf, h1, h2] using this

theorem can_mk {p : Nat} (hp : 0 < p) {l : List Int} (hl : Can p l) {f : S} {n : Nat} (hf : ∀ j, n ≤ j → f j % (p : Int) = 0) (h : Eqp p (cf l) f) : l = mk p f n :=
  can_eq hp hl (mk_can hp f n) (h.trans (mk_eqp hf).symm)

theorem mk_congr {p : Nat} (hp : 0 < p) {f g : S} {n m : Nat} (hf : ∀ j, n ≤ j → f j % (p : Int) = 0) (hg : ∀ j, m ≤ j → g j % (p : Int) = 0) (h : Eqp p f g) : mk p f n = mk p g m :=
  can_mk hp (mk_can hp f n) hg ((mk_eqp hf).trans h)

/-- a list without zeros at its end -/
def trim (p : Nat) (l : List Int) : List Int := mk p (cf l) l.length

theorem cf_behind (p : Nat) (l : List Int) : ∀ j, l.length ≤ j → cf l j % (p : Int) = 0 := fun j hj => by rw [cf_ge hj]; simp
theorem trim_eqp (p : Nat) (l : List Int) : Eqp p (cf (trim p l)) (cf l) := mk_eqp (cf_behind p l)
theorem trim_can {p : Nat} (hp : 0 < p) (l : List Int) : Can p (trim p l) := mk_can hp _ _
theorem trim_id {p : Nat} (hp : 0 < p) {l : List Int} (h : Can p l) : trim p l = l := (can_mk hp h (cf_behind p l) (Eqp.refl _ _)).symm
theorem trim_congr {p : Nat} (hp : 0 < p) {l m : List Int} (h : Eqp p (cf l) (cf m)) : trim p l = trim p m := mk_congr hp (cf_behind p l) (cf_behind p m) h
theorem trim_le (p : Nat) (l : List Int) : (trim p l).length ≤ l.length := by rw [trim, mk_length]; exact tp_le _ _ _

/-! ## the degree of a product -/
theorem ml_dvd {p : Nat} (f g : S) (hf : ∀ j, (p : Int) ∣ f j) (k : Nat) : (p : Int) ∣ ml k f g := by
  induction k generalizing f with
  | zero => exact Int.dvd_mul_of_dvd_left (hf 0)
  | succ k ih => exact Int.dvd_add (Int.dvd_mul_of_dvd_left (hf 0)) (ih _ (fun j => hf (j + 1)))

theorem ml_behind {p : Nat} (f g : S) (m n : Nat) (hf : ∀ j, m ≤ j → (p : Int) ∣ f j) (hg : ∀ j, n ≤ j → (p : Int) ∣ g j) (k : Nat) (hk : m + n ≤ k + 1) : (p : Int) ∣ ml k f g := by
  induction k generalizing f m with
  | zero =>
    simp only [ml]
    by_cases h : m = 0
    · exact Int.dvd_mul_of_dvd_left (hf 0 (by omega))
    · exact Int.dvd_mul_of_dvd_right (hg 0 (by omega))
  | succ k ih =>
    by_cases h : m = 0
    · exact ml_dvd f g (fun j => hf j (by omega)) _
    · simp only [ml]
      exact Int.dvd_add (Int.dvd_mul_of_dvd_right (hg _ (by omega))) (ih (tl f) (m - 1) (fun j hj => hf _ (by omega)) (by omega))

theorem ml_top {p : Nat} (f g : S) (m n : Nat) (hf : ∀ j, m < j → (p : Int) ∣ f j) (hg : ∀ j, n < j → (p : Int) ∣ g j) : (p : Int) ∣ ml (m + n) f g - f m * g n := by
  induction m generalizing f with
  | zero =>
    rw [Nat.zero_add]
    cases n with
    | zero => simp only [ml]; rw [Int.sub_self]; exact Int.dvd_zero _
    | succ n =>
      simp only [ml]
      rw [show f 0 * g (n + 1) + ml n (tl f) g - f 0 * g (n + 1) = ml n (tl f) g from by omega]
      exact ml_dvd (tl f) g (fun j => hf _ (by omega)) _
  | succ m ih =>
    have h1 := ih (tl f) (fun j hj => hf _ (by omega))
    have h2 : (p : Int) ∣ f 0 * g (m + n + 1) := Int.dvd_mul_of_dvd_right (hg _ (by omega))
    rw [show m + 1 + n = m + n + 1 from by omega, ml]
    have := Int.dvd_add h2 h1
    rwa [show f 0 * g (m + n + 1) + (ml (m + n) (tl f) g - tl f m * g n) = f 0 * g (m + n + 1) + ml (m + n) (tl f) g - f (m + 1) * g n from by simp only [tl]; omega] at this

theorem ml_zero_beyond (f g : S) (m n : Nat) (hf : ∀ j, m ≤ j → f j = 0) (hg : ∀ j, n ≤ j → g j = 0) (k : Nat) (hk : m + n ≤ k + 1) : ml k f g = 0 := by
  have : ((0 : Nat) : Int) ∣ ml k f g := ml_behind (p := 0) f g m n (fun j hj => by rw [hf j hj]; exact Int.dvd_zero _) (fun j hj => by rw [hg j hj]; exact Int.dvd_zero _) k hk
  exact Int.zero_dvd.1 this

/-- nothing times what is not 0 stays below the other's degree -/
theorem mul_small {p : Nat} (hp : Num.Prime p) (q b : S) (N t : Nat) (hq : ∀ j, N ≤ j → (p : Int) ∣ q j) (hb : ∀ j, t < j → (p : Int) ∣ b j) (ht : ¬ (p : Int) ∣ b t)
    (h : ∀ j, t ≤ j → (p : Int) ∣ mul q b j) : ∀ j, (p : Int) ∣ q j := by
  intro j
  induction N with
  | zero => exact hq j (by omega)
  | succ N ih =>
    refine ih (fun i hi => ?_)
    by_cases e : i = N
    · subst e
      have h1 := ml_top q b i t (fun j hj => hq j (by omega)) hb
      have h2 := h (i + t) (by omega)
      have h3 := Int.dvd_sub h2 h1
      simp only [mul] at h3
      rw [show ml (i + t) q b - (ml (i + t) q b - q i * b t) = q i * b t from by omega] at h3
      exact (prime_mul hp h3).resolve_right ht
    · exact hq i (by omega)

/-- quotient and rest are one alone -/
theorem div_unique {p : Nat} (hp : Num.Prime p) {q1 q2 r1 r2 b : S} {N t : Nat} (h1 : ∀ j, N ≤ j → (p : Int) ∣ q1 j) (h2 : ∀ j, N ≤ j → (p : Int) ∣ q2 j)
    (hb : ∀ j, t < j → (p : Int) ∣ b j) (ht : ¬ (p : Int) ∣ b t) (k1 : ∀ j, t ≤ j → (p : Int) ∣ r1 j) (k2 : ∀ j, t ≤ j → (p : Int) ∣ r2 j)
    (h : Eqp p (add (mul q1 b) r1) (add (mul q2 b) r2)) : Eqp p q1 q2 ∧ Eqp p r1 r2 := by
  have hq : Eqp p q1 q2 := by
    refine mul_small hp (sub q1 q2) b N t (fun j hj => Int.dvd_sub (h1 j hj) (h2 j hj)) hb ht (fun j hj => ?_)
    rw [sub_mul]
    have a1 := h j
    have a2 := Int.dvd_sub (k1 j hj) (k2 j hj)
    have := Int.dvd_sub a1 a2
    simp only [add] at this
    show (p : Int) ∣ mul q1 b j - mul q2 b j
    rwa [show mul q1 b j + r1 j - (mul q2 b j + r2 j) - (r1 j - r2 j) = mul q1 b j - mul q2 b j from by omega] at this
  refine ⟨hq, fun j => ?_⟩
  have a1 := h j
  have a2 := (hq.mul_left b) j
  have := Int.dvd_sub a1 a2
  simp only [add] at this
  rwa [show mul q1 b j + r1 j - (mul q2 b j + r2 j) - (mul q1 b j - mul q2 b j) = r1 j - r2 j from by omega] at this

/-! ## what comes of two lists -/
def lo (i : Nat) (f : S) : S := fun n => if n < i then f n else 0

theorem lo_zero (f : S) : lo 0 f = zero := by funext n; simp [lo, zero]
theorem lo_succ (i : Nat) (f : S) : lo (i + 1) f = add (lo i f) (sh i (sc (f i) one)) := by
  funext n; simp only [lo, add, sh, sc, one]
  by_cases h : n < i
  · simp [h, show n < i + 1 from by omega]
  · by_cases e : n = i
    · subst e; simp
    · simp [show ¬ n < i + 1 from by omega, show ¬ n < i from h, show n - i ≠ 0 from by omega]
theorem lo_len (l : List Int) : lo l.length (cf l) = cf l := by
  funext n; simp only [lo]
  split
  · rfl
  · exact (cf_ge (by omega)).symm
theorem lo_mul_succ (i : Nat) (f g : S) : mul (lo (i + 1) f) g = add (mul (lo i f) g) (sh i (sc (f i) g)) := by
  rw [lo_succ, add_mul, sh_mul, sc_mul, one_mul]

def padd (p : Nat) (a b : List Int) : List Int := mk p (add (cf a) (cf b)) (max a.length b.length)
def psub (p : Nat) (a b : List Int) : List Int := mk p (sub (cf a) (cf b)) (max a.length b.length)
def pscale (p : Nat) (a : List Int) (c : Int) (k : Nat) : List Int := mk p (sh k (sc c (cf a))) (k + a.length)
def pmul (p : Nat) (a b : List Int) : List Int := mk p (mul (cf a) (cf b)) (a.length + b.length)

theorem padd_b (p : Nat) (a b : List Int) : ∀ j, max a.length b.length ≤ j → add (cf a) (cf b) j % (p : Int) = 0 := fun j hj => by
  simp only [add]; rw [cf_ge (by omega), cf_ge (by omega)]; simp
theorem psub_b (p : Nat) (a b : List Int) : ∀ j, max a.length b.length ≤ j → sub (cf a) (cf b) j % (p : Int) = 0 := fun j hj => by
  simp only [sub]; rw [cf_ge (by omega), cf_ge (by omega)]; simp
theorem pscale_b (p : Nat) (a : List Int) (c : Int) (k : Nat) : ∀ j, k + a.length ≤ j → sh k (sc c (cf a)) j % (p : Int) = 0 := fun j hj => by
  simp only [sh, sc]; rw [if_neg (by omega), cf_ge (by omega)]; simp
theorem pmul_z (a b : List Int) : ∀ j, a.length + b.length ≤ j + 1 → mul (cf a) (cf b) j = 0 := fun j hj =>
  ml_zero_beyond _ _ a.length b.length (fun j h => cf_ge h) (fun j h => cf_ge h) j (by omega)
theorem pmul_b (p : Nat) (a b : List Int) : ∀ j, a.length + b.length ≤ j → mul (cf a) (cf b) j % (p : Int) = 0 := fun j hj => by
  rw [pmul_z a b j (by omega)]; simp

theorem padd_eqp (p : Nat) (a b : List Int) : Eqp p (cf (padd p a b)) (add (cf a) (cf b)) := mk_eqp (padd_b p a b)
theorem psub_eqp (p : Nat) (a b : List Int) : Eqp p (cf (psub p a b)) (sub (cf a) (cf b)) := mk_eqp (psub_b p a b)
theorem pscale_eqp (p : Nat) (a : List Int) (c : Int) (k : Nat) : Eqp p (cf (pscale p a c k)) (sh k (sc c (cf a))) := mk_eqp (pscale_b p a c k)
theorem pmul_eqp (p : Nat) (a b : List Int) : Eqp p (cf (pmul p a b)) (mul (cf a) (cf b)) := mk_eqp (pmul_b p a b)

theorem tp_bound {p : Nat} {f : S} {n t : Nat} (h : ∀ j, t ≤ j → (p : Int) ∣ f j) : tp p f n ≤ t := by
  rcases Nat.lt_or_ge t (tp p f n) with g | g
  · have := tp_last p f n (by omega)
    exact absurd (emod_zero_iff.2 (h _ (by omega))) this
  · exact g

theorem padd_le (p : Nat) (a b : List Int) : (padd p a b).length ≤ max a.length b.length := by rw [padd, mk_length]; exact tp_le _ _ _
theorem psub_le (p : Nat) (a b : List Int) : (psub p a b).length ≤ max a.length b.length := by rw [psub, mk_length]; exact tp_le _ _ _
theorem pscale_le (p : Nat) (a : List Int) (c : Int) (k : Nat) : (pscale p a c k).length ≤ k + a.length := by rw [pscale, mk_length]; exact tp_le _ _ _
theorem pmul_le (p : Nat) (a b : List Int) : (pmul p a b).length ≤ a.length + b.length - 1 := by
  rw [pmul, mk_length]
  exact tp_bound (fun j hj => by rw [pmul_z a b j (by omega)]; exact Int.dvd_zero _)
theorem pmul_nil {p : Nat} (a b : List Int) (h : a.length = 0 ∨ b.length = 0) : pmul p a b = [] := by
  have : (pmul p a b).length = 0 := by
    rw [pmul, mk_length]
    refine Nat.le_zero.1 (tp_bound (fun j _ => ?_))
    rcases h with h | h
    · rw [List.length_eq_zero_iff.1 h, cf_nil, zero_mul]; exact Int.dvd_zero _
    · rw [List.length_eq_zero_iff.1 h, cf_nil, mul_comm, zero_mul]; exact Int.dvd_zero _
  exact List.length_eq_zero_iff.1 this

/-- the product of two without zeros at their ends: its last place is not 0 -/
theorem pmul_len {p : Nat} (hp : Num.Prime p) {a b : List Int} (ha : Can p a) (hb : Can p b) (h1 : 0 < a.length) (h2 : 0 < b.length) : (pmul p a b).length = a.length + b.length - 1 := by
  rw [pmul, mk_length]
  refine tp_unique p _ _ _ (by omega) (fun j hj _ => ?_) (fun _ => ?_)
  · rw [pmul_z a b j (by omega)]; simp
  · intro h
    have h3 := ml_top (p := p) (cf a) (cf b) (a.length - 1) (b.length - 1) (fun j hj => by rw [cf_ge (by omega)]; exact Int.dvd_zero _) (fun j hj => by rw [cf_ge (by omega)]; exact Int.dvd_zero _)
    rw [show a.length + b.length - 1 - 1 = a.length - 1 + (b.length - 1) from by omega] at h
    have h4 := Int.dvd_sub (emod_zero_iff.1 h) h3
    simp only [mul] at h4
    rw [show ∀ x y : Int, x - (x - y) = y from fun x y => by omega] at h4
    rcases prime_mul hp h4 with g | g
    · exact ha.last_nd h1 g
    · exact hb.last_nd h2 g

/-! ## values -/
def ps (f : S) (x : Int) : Nat → Int
  | 0 => 0
  | n + 1 => ps f x n + f n * x ^ n
def hz (f : S) (x : Int) (n : Nat) : Nat → Int
  | 0 => 0
  | i + 1 => hz f x n i * x + f (n - 1 - i)

theorem ps_hz (f : S) (x : Int) (n i : Nat) (hi : i ≤ n) : ps f x (n - i) + x ^ (n - i) * hz f x n i = ps f x n := by
  induction i with
  | zero => simp [hz]
  | succ i ih =>
    have h := ih (by omega)
    obtain ⟨m, hm⟩ : ∃ m, n - i = m + 1 := ⟨n - i - 1, by omega⟩
    rw [hm, ps] at h
    rw [show n - (i + 1) = m from by omega]
    rw [← h, hz, show n - 1 - i = m from by omega, Int.pow_succ]; grind

theorem hz_ps (f : S) (x : Int) (n : Nat) : hz f x n n = ps f x n := by
  have := ps_hz f x n n (Nat.le_refl _)
  simpa [ps] using this

theorem ps_cons (f : S) (x : Int) (n : Nat) : ps f x (n + 1) = f 0 + x * ps (tl f) x n := by
  induction n with
  | zero => simp [ps]
  | succ n ih => rw [ps, ih, ps]; simp only [tl]; rw [Int.pow_succ]; grind

theorem ps_congr {p : Nat} {f g : S} (x : Int) (n : Nat) (h : ∀ j, j < n → (p : Int) ∣ f j - g j) : (p : Int) ∣ ps f x n - ps g x n := by
  induction n with
  | zero => simp [ps]
  | succ n ih =>
    simp only [ps]
    obtain ⟨k, hk⟩ := ih (fun j hj => h j (by omega))
    obtain ⟨m, hm⟩ := h n (by omega)
    exact ⟨k + m * x ^ n, by
      rw [show ps f x n + f n * x ^ n - (ps g x n + g n * x ^ n) = (ps f x n - ps g x n) + (f n - g n) * x ^ n from by grind, hk, hm]; grind⟩

theorem ps_more {p : Nat} {f : S} (x : Int) (n m : Nat) (hnm : n ≤ m) (h : ∀ j, n ≤ j → (p : Int) ∣ f j) : (p : Int) ∣ ps f x m - ps f x n := by
  induction m with
  | zero => obtain rfl : n = 0 := by omega
            simp
  | succ m ih =>
    by_cases e : n = m + 1
    · subst e; simp
    · have := Int.dvd_add (ih (by omega)) (Int.dvd_mul_of_dvd_left (c := x ^ m) (h m (by omega)))
      simp only [ps]
      rwa [show ps f x m - ps f x n + f m * x ^ m = ps f x m + f m * x ^ m - ps f x n from by omega] at this

def qd (f : S) (r : Int) : Nat → S
  | 0 => zero
  | n + 1 => fun k => match k with | 0 => ps (tl f) r (n + 1) | k + 1 => qd (tl f) r n k

theorem qd_spec (f : S) (x r : Int) (n : Nat) : ps f x (n + 1) - ps f r (n + 1) = (x - r) * ps (qd f r n) x n := by
  induction n generalizing f with
  | zero => simp [ps]
  | succ n ih =>
    rw [ps_cons f x, ps_cons f r, ps_cons (qd f r (n + 1)), show tl (qd f r (n + 1)) = qd (tl f) r n from rfl, show qd f r (n + 1) 0 = ps (tl f) r (n + 1) from rfl]
    have := ih (tl f)
    grind

theorem qd_zero {p : Nat} (f : S) (r : Int) (n : Nat) (h0 : (p : Int) ∣ ps f r (n + 1)) (h : ∀ k, k < n → (p : Int) ∣ qd f r n k) : ∀ j, j < n + 1 → (p : Int) ∣ f j := by
  induction n generalizing f with
  | zero => intro j hj; obtain rfl : j = 0 := by omega
            simpa [ps] using h0
  | succ n ih =>
    have h1 : (p : Int) ∣ ps (tl f) r (n + 1) := h 0 (by omega)
    have h2 := ih (tl f) h1 (fun k hk => h (k + 1) (by omega))
    intro j hj
    cases j with
    | zero =>
      rw [ps_cons] at h0
      have := Int.dvd_sub h0 (show (p : Int) ∣ r * ps (tl f) r (n + 1) from Int.dvd_mul_of_dvd_right h1)
      rwa [show f 0 + r * ps (tl f) r (n + 1) - r * ps (tl f) r (n + 1) = f 0 from by omega] at this
    | succ j => exact h2 j (by omega)

/-- as many roots as places: all places are 0 -/
theorem roots {p : Nat} (hp : Num.Prime p) (n : Nat) (f : S) (xs : Nat → Int) (hu : ∀ i j, i < j → j < n → ¬ (p : Int) ∣ xs j - xs i) (hr : ∀ i, i < n → (p : Int) ∣ ps f (xs i) n) : ∀ j, j < n → (p : Int) ∣ f j := by
  induction n generalizing f xs with
  | zero => intro j hj; omega
  | succ n ih =>
    have h0 := hr 0 (by omega)
    refine qd_zero f (xs 0) n h0 (ih (qd f (xs 0) n) (fun i => xs (i + 1)) (fun i j h1 h2 => hu _ _ (by omega) (by omega)) (fun i hi => ?_))
    have h1 := Int.dvd_sub (hr (i + 1) (by omega)) h0
    rw [qd_spec] at h1
    exact (prime_mul hp h1).resolve_left (hu 0 (i + 1) (by omega) (by omega))

/-! ## products of x - xs[i] -/
def lin (x : Int) : S := sub (sh 1 one) (sc x one)

theorem mul_lin (g : S) (x : Int) : mul g (lin x) = sub (sh 1 g) (sc x g) := by
  rw [mul_comm, lin, sub_mul, sh_mul, sc_mul, one_mul]

def van (xs : Nat → Int) : Nat → S
  | 0 => one
  | n + 1 => mul (van xs n) (lin (xs n))
def vsk (xs : Nat → Int) (k : Nat) : Nat → S
  | 0 => one
  | n + 1 => if n = k then vsk xs k n else mul (vsk xs k n) (lin (xs n))

theorem vsk_van (xs : Nat → Int) (k n : Nat) (h : n ≤ k) : vsk xs k n = van xs n := by
  induction n with
  | zero => rfl
  | succ n ih => rw [vsk, if_neg (by omega), ih (by omega), van]

theorem van_vsk (xs : Nat → Int) (k n : Nat) (h : k < n) : van xs n = mul (vsk xs k n) (lin (xs k)) := by
  induction n with
  | zero => omega
  | succ n ih =>
    rw [van, vsk]
    by_cases e : n = k
    · subst e; rw [if_pos rfl, vsk_van _ _ _ (Nat.le_refl _)]
    · rw [if_neg e, ih (by omega), mul_assoc, mul_assoc, mul_comm (lin (xs k))]

theorem van_zero (xs : Nat → Int) (n j : Nat) (h : n < j) : van xs n j = 0 := by
  induction n generalizing j with
  | zero => simp [van, one]; omega
  | succ n ih =>
    rw [van, mul_lin]; simp only [sub, sh, sc]
    rw [if_neg (by omega), ih _ (by omega), ih _ (by omega)]; simp
theorem van_top (xs : Nat → Int) (n : Nat) : van xs n n = 1 := by
  induction n with
  | zero => simp [van, one]
  | succ n ih =>
    rw [van, mul_lin]; simp only [sub, sh, sc]
    rw [if_neg (by omega), van_zero xs n (n + 1) (by omega), Nat.add_sub_cancel, ih]; simp
theorem vsk_zero (xs : Nat → Int) (k n j : Nat) (hk : k < n) (h : n ≤ j) : vsk xs k n j = 0 := by
  have key : ∀ n j, (n ≤ k → n < j → vsk xs k n j = 0) ∧ (k < n → n ≤ j → vsk xs k n j = 0) := by
    intro n
    induction n with
    | zero => intro j; exact ⟨fun _ hj => by simp [vsk, one]; omega, fun h => by omega⟩
    | succ n ih =>
      intro j
      rw [vsk]
      by_cases e : n = k
      · rw [if_pos e]; exact ⟨fun h => by omega, fun _ hj => (ih j).1 (by omega) (by omega)⟩
      · rw [if_neg e, mul_lin]; simp only [sub, sh, sc]
        refine ⟨fun h1 h2 => ?_, fun h1 h2 => ?_⟩
        · rw [if_neg (by omega), (ih _).1 (by omega) (by omega), (ih _).1 (by omega) (by omega)]; simp
        · rw [if_neg (by omega), (ih _).2 (by omega) (by omega), (ih _).2 (by omega) (by omega)]; simp
  exact (key n j).2 hk h

/-- dividing by x - xs[k], from the last place down -/
theorem vsk_down (xs : Nat → Int) (k n to : Nat) (h : k < n) : vsk xs k n to = van xs n (to + 1) + vsk xs k n (to + 1) * xs k := by
  rw [van_vsk xs k n h, mul_lin]; simp only [sub, sh, sc]
  rw [if_neg (by omega), Nat.add_sub_cancel]; grind

def dv (f : S) : S := fun n => f (n + 1) * ((n : Int) + 1)

/-- the slope at xs[k] is the product without x - xs[k] there -/
theorem slope (xs : Nat → Int) (k n : Nat) (h : k < n) (m : Nat) : ps (dv (van xs n)) (xs k) m = ps (vsk xs k n) (xs k) m - m * (vsk xs k n m * xs k ^ m) := by
  induction m with
  | zero => simp [ps]
  | succ m ih =>
    rw [ps, ih, ps]
    have := vsk_down xs k n m h
    simp only [dv]
    rw [Int.pow_succ]
    push_cast
    grind

end Go.Proofs.YtidkhgplejglaacDoor.Pol
