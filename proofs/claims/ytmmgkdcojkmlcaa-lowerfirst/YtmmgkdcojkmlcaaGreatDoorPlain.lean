/- Plain facts on numbers, of no program: primes, least divisors, and that p - 1 equal factors which a prime p does not divide leave 1 (Fermat). Plain facts on orders and on elements that make all others: of no program. Plain facts on polynomials modulo a prime, of no program: rows of numbers, their sums and products, what they are modulo p; lists without zeros at their end; division with a rest is one alone; a polynomial that is not zero has no more roots than its degree. Plain facts on elements in a circle, of no program: sums over the powers of an element of a known order; what a polynomial is at its points; halves. Plain facts on the transform by halves, of no program: what halves make of a list; a list that is wrapped round a circle; points. Plain facts on numbers, of no program: modulo a prime there is an element of every order that divides p - 1; so there is one that makes all others. Plain facts on words and codewords, of no program: counting places; a polynomial of low degree that is 0 at many points is 0; of two that are near enough to one word, both are the same. Plain facts on mending a word, of no program: a polynomial that takes what is wrong to a low degree is 0 at every place that is wrong. Plain facts for digests, of no program: what is unlike at few places is unlike at many behind the matrix of inverses (Cauchy); a power that is undone by another. -/
namespace Go.Proofs.YtmmgkdcojkmlcaaGreatDoor.Num

def Prime (p : Nat) : Prop := 2 ≤ p ∧ ∀ d, d ∣ p → d = 1 ∨ d = p

/-- the least divisor from 2 on -/
def Least (n d : Nat) : Prop := 2 ≤ d ∧ d ∣ n ∧ ∀ e, 2 ≤ e → e < d → ¬ e ∣ n

theorem least_prime {n d : Nat} (h : Least n d) : Prime d := by
  refine ⟨h.1, fun e he => ?_⟩
  have hpos : 0 < d := by have := h.1; omega
  have hle : e ≤ d := Nat.le_of_dvd hpos he
  by_cases h1 : e = d
  · exact Or.inr h1
  · by_cases h0 : e = 0
    · subst h0
      have := Nat.eq_zero_of_zero_dvd he
      omega
    · by_cases h2 : e = 1
      · exact Or.inl h2
      · exact absurd (Nat.dvd_trans he h.2.1) (h.2.2 e (by omega) (by omega))

theorem least_unique {n d e : Nat} (h : Least n d) (g : Least n e) : d = e := by
  rcases Nat.lt_trichotomy d e with l | l | l
  · exact absurd h.2.1 (g.2.2 d h.1 l)
  · exact l
  · exact absurd g.2.1 (h.2.2 e g.1 l)

theorem prime_least {p : Nat} (h : Prime p) : Least p p := by
  refine ⟨h.1, Nat.dvd_refl _, fun e h2 hlt hd => ?_⟩
  rcases h.2 e hd with g | g <;> omega

/-- what is found when no divisor d with d*d ≤ n is there -/
theorem least_self {n k : Nat} (h2 : 2 ≤ n) (hk : n < k * k) (h : ∀ e, 2 ≤ e → e < k → ¬ e ∣ n) : Least n n := by
  refine ⟨h2, Nat.dvd_refl _, fun e he hlt hd => ?_⟩
  obtain ⟨c, hc⟩ := hd
  by_cases hek : e < k
  · exact h e he hek ⟨c, hc⟩
  · have hc2 : 2 ≤ c := by
      rcases Nat.lt_or_ge c 2 with g | g
      · have : c = 0 ∨ c = 1 := by omega
        rcases this with g | g <;> subst g <;> omega
      · exact g
    have hck : c < k := by
      rcases Nat.lt_or_ge c k with g | g
      · exact g
      · have : k * k ≤ e * c := Nat.mul_le_mul (by omega) g
        omega
    exact h c hc2 hck ⟨e, by rw [hc, Nat.mul_comm]⟩

theorem euclid {p x y : Nat} (hp : Prime p) (h : p ∣ x * y) : p ∣ x ∨ p ∣ y := by
  have hg : Nat.gcd p x ∣ p := Nat.gcd_dvd_left p x
  rcases hp.2 _ hg with g | g
  · exact Or.inr (Nat.Coprime.dvd_of_dvd_mul_left g h)
  · left; rw [← g]; exact Nat.gcd_dvd_right p x

theorem prime_dvd_prime {p q : Nat} (hp : Prime p) (hq : Prime q) (h : q ∣ p) : q = p := by
  rcases hp.2 q h with g | g
  · have := hq.1; omega
  · exact g

theorem dvd_size {m d k : Nat} (hm : 1 ≤ m) (hk : k ∣ m) (hd : d ∣ m) (hn : ¬ d ∣ k) : 2 * k ≤ m := by
  obtain ⟨c, hc⟩ := hk
  have h0 : c ≠ 0 := by rintro rfl; omega
  have h1 : c ≠ 1 := by rintro rfl; rw [Nat.mul_one] at hc; rw [hc] at hd; exact hn hd
  have : k * 2 ≤ k * c := Nat.mul_le_mul_left k (by omega)
  omega

/-- what is known while the primes that divide n are gathered: ds so far, m is what is left -/
structure PD (n m : Nat) (ds : List Nat) : Prop where
  pos : 1 ≤ m
  left : m ∣ n
  sound : ∀ q, q ∈ ds → Prime q ∧ q ∣ n
  whole : ∀ q, Prime q → q ∣ n → q ∈ ds ∨ q ∣ m
  short : 2 ^ ds.length * m ≤ n

theorem PD.len {n m : Nat} {ds : List Nat} (h : PD n m ds) (hn : n ≤ 2147483647) : ds.length ≤ 31 := by
  rcases Nat.lt_or_ge 31 ds.length with g | g
  · have h1 : 2 ^ 32 ≤ 2 ^ ds.length := Nat.pow_le_pow_right (by omega) g
    have h2 : 2 ^ ds.length * 1 ≤ 2 ^ ds.length * m := Nat.mul_le_mul_left _ h.pos
    have := h.short
    omega
  · exact g

/-- what is known while one prime d is divided out: m is what was, k what is left -/
structure PO (d m k : Nat) : Prop where
  pos : 1 ≤ k
  left : k ∣ m
  whole : ∀ q, Prime q → q ∣ m → q = d ∨ q ∣ k

theorem PO.step {d m k : Nat} (hd : Prime d) (h : PO d m k) (hk : d ∣ k) : PO d m (k / d) := by
  obtain ⟨c, rfl⟩ := hk
  have h2 := hd.1
  rw [Nat.mul_div_cancel_left c (by omega)]
  refine ⟨?_, Nat.dvd_trans (Nat.dvd_mul_left c d) h.left, fun q hq hqm => ?_⟩
  · rcases Nat.eq_zero_or_pos c with g | g
    · subst g; have := h.pos; simp at this
    · exact g
  · rcases h.whole q hq hqm with g | g
    · exact Or.inl g
    · rcases euclid hq g with g | g
      · exact Or.inl (prime_dvd_prime hd hq g)
      · exact Or.inr g

theorem PD.step {n m d k : Nat} {ds : List Nat} (h : PD n m ds) (hl : Least m d) (ho : PO d m k) (hn : ¬ d ∣ k) : PD n k (ds ++ [d]) ∧ k < m := by
  have hs := dvd_size h.pos ho.left hl.2.1 hn
  have hp := ho.pos
  refine ⟨⟨ho.pos, Nat.dvd_trans ho.left h.left, ?_, ?_, ?_⟩, by omega⟩
  · intro q hq
    rcases List.mem_append.1 hq with g | g
    · exact h.sound q g
    · simp at g; subst g
      exact ⟨least_prime hl, Nat.dvd_trans hl.2.1 h.left⟩
  · intro q hq hd
    rcases h.whole q hq hd with g | g
    · exact Or.inl (List.mem_append_left _ g)
    · rcases ho.whole q hq g with g | g
      · subst g; exact Or.inl (by simp)
      · exact Or.inr g
  · have h1 := h.short
    rw [List.length_append, List.length_singleton, Nat.pow_succ, Nat.mul_assoc]
    have h2 : 2 ^ ds.length * (2 * k) ≤ 2 ^ ds.length * m := Nat.mul_le_mul_left _ hs
    omega

/-- ds are the primes that divide n -/
def Primes (n : Nat) (ds : List Nat) : Prop := (∀ q, q ∈ ds ↔ Prime q ∧ q ∣ n) ∧ ds.length ≤ 31

theorem PD.done {n m : Nat} {ds : List Nat} (h : PD n m ds) (hm : m ≤ 1) (hn : n ≤ 2147483647) : Primes n ds := by
  refine ⟨fun q => ⟨h.sound q, fun ⟨hq, hd⟩ => ?_⟩, h.len hn⟩
  rcases h.whole q hq hd with g | g
  · exact g
  · have := Nat.le_of_dvd (by have := h.pos; omega) g
    have := hq.1
    omega

/-- so many equal factors modulo p -/
def pwm (p s e : Nat) : Nat := s ^ e % p

theorem pwm_mul (p s x y : Nat) : pwm p (pwm p s x) y = pwm p s (x * y) := by
  unfold pwm; rw [← Nat.pow_mod, ← Nat.pow_mul]

theorem pwm_one_left (p y : Nat) (h : 2 ≤ p) : pwm p 1 y = 1 := by unfold pwm; rw [Nat.one_pow, Nat.mod_eq_of_lt (by omega)]

theorem pwm_one_mul {p s x : Nat} (hp : 2 ≤ p) (h : pwm p s x = 1) (y : Nat) : pwm p s (x * y) = 1 := by
  rw [← pwm_mul, h, pwm_one_left p y hp]

/-- k is the order of s -/
def Ord (p s k : Nat) : Prop := 1 ≤ k ∧ k ∣ p - 1 ∧ pwm p s k = 1 ∧ ∀ q, Prime q → q ∣ k → pwm p s (k / q) ≠ 1

/-- what is known while what is not needed is divided out of the order: js are the primes that are done -/
structure OI (p s k : Nat) (js : List Nat) : Prop where
  pos : 1 ≤ k
  left : k ∣ p - 1
  one : pwm p s k = 1
  done : ∀ q, q ∈ js → q ∣ k → pwm p s (k / q) ≠ 1

theorem OI.step {p s k q : Nat} {js : List Nat} (hp : 2 ≤ p) (h : OI p s k js) (hq : 2 ≤ q) (hd : q ∣ k) (h1 : pwm p s (k / q) = 1) (hj : ∀ x, x ∈ js → 2 ≤ x) : OI p s (k / q) js := by
  obtain ⟨c, rfl⟩ := hd
  rw [Nat.mul_div_cancel_left c (by omega)] at h1 ⊢
  refine ⟨?_, Nat.dvd_trans (Nat.dvd_mul_left c q) h.left, h1, fun x hx hxc hone => ?_⟩
  · rcases Nat.eq_zero_or_pos c with g | g
    · subst g; have := h.pos; simp at this
    · exact g
  · obtain ⟨e, rfl⟩ := hxc
    have hx2 := hj x hx
    rw [Nat.mul_div_cancel_left e (by omega)] at hone
    refine h.done x hx ⟨q * e, by rw [← Nat.mul_assoc, ← Nat.mul_assoc, Nat.mul_comm q x]⟩ ?_
    have : q * (x * e) / x = e * q := by
      rw [show q * (x * e) = x * (e * q) from by rw [Nat.mul_comm q, Nat.mul_assoc]]
      exact Nat.mul_div_cancel_left _ (by omega)
    rw [this]
    exact pwm_one_mul hp hone q

theorem OI.more {p s k q : Nat} {js : List Nat} (h : OI p s k js) (hn : ¬ (q ∣ k ∧ pwm p s (k / q) = 1)) : OI p s k (js ++ [q]) := by
  refine ⟨h.pos, h.left, h.one, fun x hx hd hone => ?_⟩
  rcases List.mem_append.1 hx with g | g
  · exact h.done x g hd hone
  · simp at g; subst g; exact hn ⟨hd, hone⟩

end Go.Proofs.YtmmgkdcojkmlcaaGreatDoor.Num

namespace Go.Proofs.YtmmgkdcojkmlcaaGreatDoor.Num

/-- k is the least divisor of p - 1 after which it is 1 -/
def LeastDiv (p s k : Nat) : Prop := 1 ≤ k ∧ k ∣ p - 1 ∧ pwm p s k = 1 ∧ ∀ d, 1 ≤ d → d ∣ p - 1 → pwm p s d = 1 → k ≤ d

theorem dvd_div_pos {n d : Nat} (hn : 1 ≤ n) (h : d ∣ n) : 1 ≤ n / d := by
  obtain ⟨c, rfl⟩ := h
  have hd : 0 < d := by rcases Nat.eq_zero_or_pos d with g | g; (subst g; simp at hn); exact g
  rw [Nat.mul_div_cancel_left c hd]
  rcases Nat.eq_zero_or_pos c with g | g
  · subst g; simp at hn
  · exact g

/-- what is known while divisors up to i are looked at -/
structure DI (p s i best : Nat) : Prop where
  pos : 1 ≤ best
  left : best ∣ p - 1
  one : pwm p s best = 1
  least : ∀ d, 1 ≤ d → d ∣ p - 1 → pwm p s d = 1 → (d < i ∨ (p - 1) / d < i) → best ≤ d

theorem div_div_self' {n d i : Nat} (hn : 1 ≤ n) (hd : d ∣ n) (h : n / d = i) : d = n / i := by
  obtain ⟨c, rfl⟩ := hd
  have hd0 : 0 < d := by rcases Nat.eq_zero_or_pos d with g | g; (subst g; simp at hn); exact g
  rw [Nat.mul_div_cancel_left c hd0] at h
  subst h
  have hc0 : 0 < c := by rcases Nat.eq_zero_or_pos c with g | g; (subst g; simp at hn); exact g
  rw [Nat.mul_div_cancel d hc0]

/-- one round: b1 behind the first look, b2 behind the second -/
theorem DI.step {p s i best b1 b2 : Nat} (hi : 1 ≤ i) (hp : 2 ≤ p) (h : DI p s i best) (hd : i ∣ p - 1)
    (h1 : b1 = if pwm p s i = 1 ∧ i < best then i else best) (h2 : b2 = if pwm p s ((p - 1) / i) = 1 ∧ (p - 1) / i < b1 then (p - 1) / i else b1) : DI p s (i + 1) b2 := by
  have hk := dvd_div_pos (by omega) hd
  have hkd : (p - 1) / i ∣ p - 1 := Nat.div_dvd_of_dvd hd
  have q1 : 1 ≤ b1 ∧ b1 ∣ p - 1 ∧ pwm p s b1 = 1 ∧ b1 ≤ best ∧ (pwm p s i = 1 → b1 ≤ i) := by
    subst h1
    split
    · rename_i g; exact ⟨hi, hd, g.1, by omega, fun _ => Nat.le_refl _⟩
    · rename_i g; exact ⟨h.pos, h.left, h.one, Nat.le_refl _, fun ho => by
        rcases Nat.lt_or_ge i best with l | l
        · exact absurd ⟨ho, l⟩ g
        · exact l⟩
  obtain ⟨a1, a2, a3, a4, a5⟩ := q1
  have q2 : 1 ≤ b2 ∧ b2 ∣ p - 1 ∧ pwm p s b2 = 1 ∧ b2 ≤ b1 ∧ (pwm p s ((p - 1) / i) = 1 → b2 ≤ (p - 1) / i) := by
    subst h2
    split
    · rename_i g; exact ⟨hk, hkd, g.1, by omega, fun _ => Nat.le_refl _⟩
    · rename_i g; exact ⟨a1, a2, a3, Nat.le_refl _, fun ho => by
        rcases Nat.lt_or_ge ((p - 1) / i) b1 with l | l
        · exact absurd ⟨ho, l⟩ g
        · exact l⟩
  obtain ⟨c1, c2, c3, c4, c5⟩ := q2
  refine ⟨c1, c2, c3, fun d hd1 hdv hone hlt => ?_⟩
  by_cases hdi : d = i
  · subst hdi; have := a5 hone; omega
  · by_cases hki : (p - 1) / d = i
    · have := div_div_self' (by omega) hdv hki
      subst this
      exact c5 hone
    · have := h.least d hd1 hdv hone (by omega)
      omega

theorem DI.done {p s i best : Nat} (_hp : 2 ≤ p) (_hi : 1 ≤ i) (h : DI p s i best) (hii : p - 1 < i * i) : LeastDiv p s best := by
  refine ⟨h.pos, h.left, h.one, fun d hd hdv hone => h.least d hd hdv hone ?_⟩
  rcases Nat.lt_or_ge d i with g | g
  · exact Or.inl g
  · right
    rcases Nat.lt_or_ge ((p - 1) / d) i with l | l
    · exact l
    · have h1 : i * i ≤ d * ((p - 1) / d) := Nat.mul_le_mul g l
      rw [Nat.mul_div_cancel' hdv] at h1
      omega

end Go.Proofs.YtmmgkdcojkmlcaaGreatDoor.Num

namespace Go.Proofs.YtmmgkdcojkmlcaaGreatDoor.Pol

/-- a row of numbers, one for each power -/
abbrev S := Nat → Int

def tl (f : S) : S := fun n => f (n + 1)
def ml : Nat → S → S → Int
  | 0, f, g => f 0 * g 0
  | n + 1, f, g => f 0 * g (n + 1) + ml n (tl f) g
def mul (f g : S) : S := fun n => ml n f g
def add (f g : S) : S := fun n => f n + g n
def sub (f g : S) : S := fun n => f n - g n
def sc (c : Int) (f : S) : S := fun n => c * f n
def sh (k : Nat) (f : S) : S := fun n => if n < k then 0 else f (n - k)
def zero : S := fun _ => 0
def one : S := fun n => if n = 0 then 1 else 0

theorem ml_add_left (n : Nat) (f g h : S) : ml n (add f g) h = ml n f h + ml n g h := by
  induction n generalizing f g with
  | zero => simp only [ml, add]; grind
  | succ n ih =>
    simp only [ml]
    rw [show tl (add f g) = add (tl f) (tl g) from rfl, ih]
    simp only [add]; grind

theorem ml_add_right (n : Nat) (f g h : S) : ml n f (add g h) = ml n f g + ml n f h := by
  induction n generalizing f with
  | zero => simp only [ml, add]; grind
  | succ n ih => simp only [ml, ih]; simp only [add]; grind

theorem ml_sub_left (n : Nat) (f g h : S) : ml n (sub f g) h = ml n f h - ml n g h := by
  induction n generalizing f g with
  | zero => simp only [ml, sub]; grind
  | succ n ih =>
    simp only [ml]
    rw [show tl (sub f g) = sub (tl f) (tl g) from rfl, ih]
    simp only [sub]; grind

theorem ml_sc_left (n : Nat) (c : Int) (f g : S) : ml n (sc c f) g = c * ml n f g := by
  induction n generalizing f with
  | zero => simp only [ml, sc]; grind
  | succ n ih =>
    simp only [ml]
    rw [show tl (sc c f) = sc c (tl f) from rfl, ih]
    simp only [sc]; grind

theorem tl_mul (f g : S) : tl (mul f g) = add (sc (f 0) (tl g)) (mul (tl f) g) := by
  funext n; rfl

theorem ml_last (n : Nat) (f g : S) : ml (n + 1) f g = f (n + 1) * g 0 + ml n f (tl g) := by
  induction n generalizing f with
  | zero => simp only [ml, tl]; grind
  | succ n ih =>
    rw [ml, ih (tl f)]
    show _ = _ + (f 0 * g (n + 2) + ml n (tl f) (tl g))
    simp only [tl]; grind

theorem ml_comm (n : Nat) (f g : S) : ml n f g = ml n g f := by
  induction n generalizing f g with
  | zero => simp only [ml]; grind
  | succ n ih => rw [ml_last, ml, ih]; grind

theorem ml_assoc (n : Nat) (f g h : S) : ml n (mul f g) h = ml n f (mul g h) := by
  induction n generalizing f with
  | zero => simp only [ml, mul]; grind
  | succ n ih =>
    rw [ml, ml, tl_mul, ml_add_left, ml_sc_left, ih (tl f)]
    show f 0 * g 0 * h (n + 1) + _ = f 0 * (g 0 * h (n + 1) + ml n (tl g) h) + _
    grind

theorem mul_comm (f g : S) : mul f g = mul g f := funext fun n => ml_comm n f g
theorem mul_assoc (f g h : S) : mul (mul f g) h = mul f (mul g h) := funext fun n => ml_assoc n f g h
theorem mul_add (f g h : S) : mul f (add g h) = add (mul f g) (mul f h) := funext fun n => ml_add_right n f g h
theorem sub_mul (f g h : S) : mul (sub f g) h = sub (mul f h) (mul g h) := funext fun n => ml_sub_left n f g h
theorem ml_zero_left (n : Nat) (g : S) : ml n zero g = 0 := by
  induction n with
  | zero => simp [ml, zero]
  | succ n ih => rw [ml, show tl zero = zero from rfl, ih]; simp [zero]

theorem zero_mul (g : S) : mul zero g = zero := funext fun n => ml_zero_left n g

theorem one_mul (g : S) : mul one g = g := by
  funext n
  cases n with
  | zero => simp [mul, ml, one]
  | succ n =>
    have : tl one = zero := by funext k; simp [tl, one, zero]
    simp only [mul, ml, this, ml_zero_left]; simp [one]

/-! ## modulo p -/
def Eqp (p : Nat) (f g : S) : Prop := ∀ n, (p : Int) ∣ f n - g n

theorem Eqp.refl (p : Nat) (f : S) : Eqp p f f := fun n => by rw [Int.sub_self]; exact Int.dvd_zero _
theorem Eqp.symm {p : Nat} {f g : S} (h : Eqp p f g) : Eqp p g f := fun n => by
  have := Int.dvd_neg.2 (h n); rwa [Int.neg_sub] at this
theorem Eqp.trans {p : Nat} {f g k : S} (h : Eqp p f g) (h' : Eqp p g k) : Eqp p f k := fun n => by
  have := Int.dvd_add (h n) (h' n); rwa [show f n - g n + (g n - k n) = f n - k n from by omega] at this
theorem Eqp.add {p : Nat} {f g f' g' : S} (h : Eqp p f f') (h' : Eqp p g g') : Eqp p (add f g) (add f' g') := fun n => by
  have := Int.dvd_add (h n) (h' n)
  rwa [show f n - f' n + (g n - g' n) = Pol.add f g n - Pol.add f' g' n from by simp only [Pol.add]; omega] at this
theorem Eqp.sub {p : Nat} {f g f' g' : S} (h : Eqp p f f') (h' : Eqp p g g') : Eqp p (sub f g) (sub f' g') := fun n => by
  have := Int.dvd_sub (h n) (h' n)
  rwa [show f n - f' n - (g n - g' n) = Pol.sub f g n - Pol.sub f' g' n from by simp only [Pol.sub]; omega] at this
theorem Eqp.mul_left {p : Nat} {f f' : S} (g : S) (h : Eqp p f f') : Eqp p (mul f g) (mul f' g) := by
  intro n
  have e : ml n f g - ml n f' g = ml n (Pol.sub f f') g := (ml_sub_left n f f' g).symm
  show (p : Int) ∣ ml n f g - ml n f' g
  rw [e]
  have : ∀ (n : Nat) (k : S), (∀ j, (p : Int) ∣ k j) → (p : Int) ∣ ml n k g := by
    intro n
    induction n with
    | zero => intro k hk; exact Int.dvd_mul_of_dvd_left (hk 0)
    | succ n ih => intro k hk; exact Int.dvd_add (Int.dvd_mul_of_dvd_left (hk 0)) (ih _ (fun j => hk (j + 1)))
  exact this n _ h
theorem Eqp.mul {p : Nat} {f g f' g' : S} (h : Eqp p f f') (h' : Eqp p g g') : Eqp p (mul f g) (mul f' g') :=
  (h.mul_left g).trans (by rw [mul_comm f' g, mul_comm f' g']; exact h'.mul_left f')
theorem Eqp.sc {p : Nat} {f g : S} (c : Int) (h : Eqp p f g) : Eqp p (sc c f) (sc c g) := fun n => by
  obtain ⟨k, hk⟩ := h n
  exact ⟨c * k, by simp only [Pol.sc]; grind⟩
theorem Eqp.sh {p : Nat} {f g : S} (k : Nat) (h : Eqp p f g) : Eqp p (sh k f) (sh k g) := fun n => by
  simp only [Pol.sh]
  split
  · exact Int.dvd_zero _
  · exact h _

theorem emod_dvd (p : Nat) (a : Int) : (p : Int) ∣ a % (p : Int) - a := by
  have := Int.emod_add_mul_ediv a p
  exact ⟨-(a / p), by grind⟩

theorem emod_zero_iff {p : Nat} {a : Int} : a % (p : Int) = 0 ↔ (p : Int) ∣ a := ⟨Int.dvd_of_emod_eq_zero, Int.emod_eq_zero_of_dvd⟩

theorem prime_mul {p : Nat} (hp : Num.Prime p) {a b : Int} (h : (p : Int) ∣ a * b) : (p : Int) ∣ a ∨ (p : Int) ∣ b := by
  rw [← Int.natAbs_dvd_natAbs, Int.natAbs_mul] at h
  rcases Num.euclid hp h with g | g
  · exact Or.inl (Int.natAbs_dvd_natAbs.1 g)
  · exact Or.inr (Int.natAbs_dvd_natAbs.1 g)

/-! ## lists -/
def cf (l : List Int) : S := fun n => l.getD n 0

theorem cf_ge {l : List Int} {n : Nat} (h : l.length ≤ n) : cf l n = 0 := by simp [cf, h]

/-- behind the last below n that is not 0 -/
def tp (p : Nat) (f : S) : Nat → Nat
  | 0 => 0
  | n + 1 => if f n % (p : Int) = 0 then tp p f n else n + 1

theorem tp_le (p : Nat) (f : S) (n : Nat) : tp p f n ≤ n := by
  induction n with
  | zero => exact Nat.le_refl _
  | succ n ih => unfold tp; split <;> omega

theorem tp_behind (p : Nat) (f : S) (n j : Nat) (h : tp p f n ≤ j) (hj : j < n) : f j % (p : Int) = 0 := by
  induction n with
  | zero => omega
  | succ n ih =>
    unfold tp at h
    split at h
    · by_cases e : j = n
      · subst e; assumption
      · exact ih h (by omega)
    · omega

theorem tp_last (p : Nat) (f : S) (n : Nat) (h : 0 < tp p f n) : f (tp p f n - 1) % (p : Int) ≠ 0 := by
  induction n with
  | zero => simp [tp] at h
  | succ n ih =>
    unfold tp at h ⊢
    split
    · rename_i g; rw [if_pos g] at h; exact ih h
    · assumption

theorem tp_unique (p : Nat) (f : S) (n t : Nat) (h1 : t ≤ n) (h2 : ∀ j, t ≤ j → j < n → f j % (p : Int) = 0) (h3 : 0 < t → f (t - 1) % (p : Int) ≠ 0) : tp p f n = t := by
  rcases Nat.lt_trichotomy (tp p f n) t with g | g | g
  · exact absurd (tp_behind p f n (t - 1) (by omega) (by omega)) (h3 (by omega))
  · exact g
  · exact absurd (h2 _ (by omega) (by have := tp_le p f n; omega)) (tp_last p f n (by omega))

/-- the list of a row that is 0 from n on -/
def mk (p : Nat) (f : S) (n : Nat) : List Int := (List.range (tp p f n)).map (fun j => f j % (p : Int))

theorem mk_length (p : Nat) (f : S) (n : Nat) : (mk p f n).length = tp p f n := by simp [mk]
theorem mk_at (p : Nat) (f : S) (n j : Nat) (h : j < tp p f n) : (mk p f n).getD j 0 = f j % (p : Int) := by simp [mk, h]

theorem cf_mk {p : Nat} {f : S} {n : Nat} (h : ∀ j, n ≤ j → f j % (p : Int) = 0) (j : Nat) : cf (mk p f n) j = f j % (p : Int) := by
  by_cases hj : j < tp p f n
  · exact mk_at p f n j hj
  · rw [cf_ge (by rw [mk_length]; omega)]
    by_cases hn : j < n
    · exact (tp_behind p f n j (by omega) hn).symm
    · exact (h j (by omega)).symm

theorem mk_eqp {p : Nat} {f : S} {n : Nat} (h : ∀ j, n ≤ j → f j % (p : Int) = 0) : Eqp p (cf (mk p f n)) f := fun j => by
  rw [cf_mk h]; exact emod_dvd p _

/-- elements, and no 0 at the end -/
structure Can (p : Nat) (l : List Int) : Prop where
  elem : ∀ j, j < l.length → 0 ≤ l.getD j 0 ∧ l.getD j 0 < p
  last : 0 < l.length → l.getD (l.length - 1) 0 ≠ 0

theorem mk_can {p : Nat} (hp : 0 < p) (f : S) (n : Nat) : Can p (mk p f n) := by
  refine ⟨fun j hj => ?_, fun h => ?_⟩
  · rw [mk_length] at hj
    rw [mk_at p f n j hj]
    exact ⟨Int.emod_nonneg _ (by omega), Int.emod_lt_of_pos _ (by omega)⟩
  · rw [mk_length] at h ⊢
    rw [mk_at p f n _ (by omega)]
    exact tp_last p f n h

theorem Can.nil (p : Nat) : Can p [] := ⟨fun j hj => by simp at hj, fun h => by simp at h⟩

theorem Can.last_nd {p : Nat} {l : List Int} (h : Can p l) (h0 : 0 < l.length) : ¬ (p : Int) ∣ cf l (l.length - 1) := by
  have h1 := h.elem (l.length - 1) (by omega)
  have h2 := h.last h0
  intro hd
  have := Int.le_of_dvd (by show (0 : Int) < cf l _; simp only [cf]; omega) hd
  simp only [cf] at this
  omega

/-! ## the degree of a product -/
theorem ml_dvd {p : Nat} (f g : S) (hf : ∀ j, (p : Int) ∣ f j) (k : Nat) : (p : Int) ∣ ml k f g := by
  induction k generalizing f with
  | zero => exact Int.dvd_mul_of_dvd_left (hf 0)
  | succ k ih => exact Int.dvd_add (Int.dvd_mul_of_dvd_left (hf 0)) (ih _ (fun j => hf (j + 1)))

theorem ml_behind {p : Nat} (f g : S) (m n : Nat) (hf : ∀ j, m ≤ j → (p : Int) ∣ f j) (hg : ∀ j, n ≤ j → (p : Int) ∣ g j) (k : Nat) (hk : m + n ≤ k + 1) : (p : Int) ∣ ml k f g := by
  induction k generalizing f m with
  | zero =>
    simp only [ml]
    by_cases h : m = 0
    · exact Int.dvd_mul_of_dvd_left (hf 0 (by omega))
    · exact Int.dvd_mul_of_dvd_right (hg 0 (by omega))
  | succ k ih =>
    by_cases h : m = 0
    · exact ml_dvd f g (fun j => hf j (by omega)) _
    · simp only [ml]
      exact Int.dvd_add (Int.dvd_mul_of_dvd_right (hg _ (by omega))) (ih (tl f) (m - 1) (fun j hj => hf _ (by omega)) (by omega))

theorem ml_top {p : Nat} (f g : S) (m n : Nat) (hf : ∀ j, m < j → (p : Int) ∣ f j) (hg : ∀ j, n < j → (p : Int) ∣ g j) : (p : Int) ∣ ml (m + n) f g - f m * g n := by
  induction m generalizing f with
  | zero =>
    rw [Nat.zero_add]
    cases n with
    | zero => simp only [ml]; rw [Int.sub_self]; exact Int.dvd_zero _
    | succ n =>
      simp only [ml]
      rw [show f 0 * g (n + 1) + ml n (tl f) g - f 0 * g (n + 1) = ml n (tl f) g from by omega]
      exact ml_dvd (tl f) g (fun j => hf _ (by omega)) _
  | succ m ih =>
    have h1 := ih (tl f) (fun j hj => hf _ (by omega))
    have h2 : (p : Int) ∣ f 0 * g (m + n + 1) := Int.dvd_mul_of_dvd_right (hg _ (by omega))
    rw [show m + 1 + n = m + n + 1 from by omega, ml]
    have := Int.dvd_add h2 h1
    rwa [show f 0 * g (m + n + 1) + (ml (m + n) (tl f) g - tl f m * g n) = f 0 * g (m + n + 1) + ml (m + n) (tl f) g - f (m + 1) * g n from by simp only [tl]; omega] at this

theorem ml_zero_beyond (f g : S) (m n : Nat) (hf : ∀ j, m ≤ j → f j = 0) (hg : ∀ j, n ≤ j → g j = 0) (k : Nat) (hk : m + n ≤ k + 1) : ml k f g = 0 := by
  have : ((0 : Nat) : Int) ∣ ml k f g := ml_behind (p := 0) f g m n (fun j hj => by rw [hf j hj]; exact Int.dvd_zero _) (fun j hj => by rw [hg j hj]; exact Int.dvd_zero _) k hk
  exact Int.zero_dvd.1 this

/-! ## what comes of two lists -/
def lo (i : Nat) (f : S) : S := fun n => if n < i then f n else 0

def psub (p : Nat) (a b : List Int) : List Int := mk p (sub (cf a) (cf b)) (max a.length b.length)
def pmul (p : Nat) (a b : List Int) : List Int := mk p (mul (cf a) (cf b)) (a.length + b.length)

theorem psub_b (p : Nat) (a b : List Int) : ∀ j, max a.length b.length ≤ j → sub (cf a) (cf b) j % (p : Int) = 0 := fun j hj => by
  simp only [sub]; rw [cf_ge (by omega), cf_ge (by omega)]; simp
theorem pmul_z (a b : List Int) : ∀ j, a.length + b.length ≤ j + 1 → mul (cf a) (cf b) j = 0 := fun j hj =>
  ml_zero_beyond _ _ a.length b.length (fun j h => cf_ge h) (fun j h => cf_ge h) j (by omega)
theorem pmul_b (p : Nat) (a b : List Int) : ∀ j, a.length + b.length ≤ j → mul (cf a) (cf b) j % (p : Int) = 0 := fun j hj => by
  rw [pmul_z a b j (by omega)]; simp

theorem psub_eqp (p : Nat) (a b : List Int) : Eqp p (cf (psub p a b)) (sub (cf a) (cf b)) := mk_eqp (psub_b p a b)
theorem pmul_eqp (p : Nat) (a b : List Int) : Eqp p (cf (pmul p a b)) (mul (cf a) (cf b)) := mk_eqp (pmul_b p a b)

/-- the product of two without zeros at their ends: its last place is not 0 -/
theorem pmul_len {p : Nat} (hp : Num.Prime p) {a b : List Int} (ha : Can p a) (hb : Can p b) (h1 : 0 < a.length) (h2 : 0 < b.length) : (pmul p a b).length = a.length + b.length - 1 := by
  rw [pmul, mk_length]
  refine tp_unique p _ _ _ (by omega) (fun j hj _ => ?_) (fun _ => ?_)
  · rw [pmul_z a b j (by omega)]; simp
  · intro h
    have h3 := ml_top (p := p) (cf a) (cf b) (a.length - 1) (b.length - 1) (fun j hj => by rw [cf_ge (by omega)]; exact Int.dvd_zero _) (fun j hj => by rw [cf_ge (by omega)]; exact Int.dvd_zero _)
    rw [show a.length + b.length - 1 - 1 = a.length - 1 + (b.length - 1) from by omega] at h
    have h4 := Int.dvd_sub (emod_zero_iff.1 h) h3
    simp only [mul] at h4
    rw [show ∀ x y : Int, x - (x - y) = y from fun x y => by omega] at h4
    rcases prime_mul hp h4 with g | g
    · exact ha.last_nd h1 g
    · exact hb.last_nd h2 g

/-! ## values -/
def ps (f : S) (x : Int) : Nat → Int
  | 0 => 0
  | n + 1 => ps f x n + f n * x ^ n
def hz (f : S) (x : Int) (n : Nat) : Nat → Int
  | 0 => 0
  | i + 1 => hz f x n i * x + f (n - 1 - i)

theorem ps_cons (f : S) (x : Int) (n : Nat) : ps f x (n + 1) = f 0 + x * ps (tl f) x n := by
  induction n with
  | zero => simp [ps]
  | succ n ih => rw [ps, ih, ps]; simp only [tl]; rw [Int.pow_succ]; grind

def qd (f : S) (r : Int) : Nat → S
  | 0 => zero
  | n + 1 => fun k => match k with | 0 => ps (tl f) r (n + 1) | k + 1 => qd (tl f) r n k

theorem qd_spec (f : S) (x r : Int) (n : Nat) : ps f x (n + 1) - ps f r (n + 1) = (x - r) * ps (qd f r n) x n := by
  induction n generalizing f with
  | zero => simp [ps]
  | succ n ih =>
    rw [ps_cons f x, ps_cons f r, ps_cons (qd f r (n + 1)), show tl (qd f r (n + 1)) = qd (tl f) r n from rfl, show qd f r (n + 1) 0 = ps (tl f) r (n + 1) from rfl]
    have := ih (tl f)
    grind

theorem qd_zero {p : Nat} (f : S) (r : Int) (n : Nat) (h0 : (p : Int) ∣ ps f r (n + 1)) (h : ∀ k, k < n → (p : Int) ∣ qd f r n k) : ∀ j, j < n + 1 → (p : Int) ∣ f j := by
  induction n generalizing f with
  | zero => intro j hj; obtain rfl : j = 0 := by omega
            simpa [ps] using h0
  | succ n ih =>
    have h1 : (p : Int) ∣ ps (tl f) r (n + 1) := h 0 (by omega)
    have h2 := ih (tl f) h1 (fun k hk => h (k + 1) (by omega))
    intro j hj
    cases j with
    | zero =>
      rw [ps_cons] at h0
      have := Int.dvd_sub h0 (show (p : Int) ∣ r * ps (tl f) r (n + 1) from Int.dvd_mul_of_dvd_right h1)
      rwa [show f 0 + r * ps (tl f) r (n + 1) - r * ps (tl f) r (n + 1) = f 0 from by omega] at this
    | succ j => exact h2 j (by omega)

/-- as many roots as places: all places are 0 -/
theorem roots {p : Nat} (hp : Num.Prime p) (n : Nat) (f : S) (xs : Nat → Int) (hu : ∀ i j, i < j → j < n → ¬ (p : Int) ∣ xs j - xs i) (hr : ∀ i, i < n → (p : Int) ∣ ps f (xs i) n) : ∀ j, j < n → (p : Int) ∣ f j := by
  induction n generalizing f xs with
  | zero => intro j hj; omega
  | succ n ih =>
    have h0 := hr 0 (by omega)
    refine qd_zero f (xs 0) n h0 (ih (qd f (xs 0) n) (fun i => xs (i + 1)) (fun i j h1 h2 => hu _ _ (by omega) (by omega)) (fun i hi => ?_))
    have h1 := Int.dvd_sub (hr (i + 1) (by omega)) h0
    rw [qd_spec] at h1
    exact (prime_mul hp h1).resolve_left (hu 0 (i + 1) (by omega) (by omega))

/-! ## products of x - xs[i] -/
def lin (x : Int) : S := sub (sh 1 one) (sc x one)

def vsk (xs : Nat → Int) (k : Nat) : Nat → S
  | 0 => one
  | n + 1 => if n = k then vsk xs k n else mul (vsk xs k n) (lin (xs n))

end Go.Proofs.YtmmgkdcojkmlcaaGreatDoor.Pol

namespace Go.Proofs.YtmmgkdcojkmlcaaGreatDoor.Dom
open Pol

def sm (f : Nat → Int) : Nat → Int
  | 0 => 0
  | n + 1 => sm f n + f n

theorem sm_add (f g : Nat → Int) (n : Nat) : sm (fun i => f i + g i) n = sm f n + sm g n := by
  induction n with
  | zero => rfl
  | succ n ih => simp only [sm, ih]; omega
theorem sm_mul (c : Int) (f : Nat → Int) (n : Nat) : sm (fun i => c * f i) n = c * sm f n := by
  induction n with
  | zero => simp [sm]
  | succ n ih => simp only [sm, ih]; grind
theorem sm_zero (n : Nat) : sm (fun _ => 0) n = 0 := by
  induction n with
  | zero => rfl
  | succ n ih => simp only [sm, ih]; omega
theorem sm_one (n : Nat) : sm (fun _ => 1) n = n := by
  induction n with
  | zero => rfl
  | succ n ih => simp only [sm, ih]; push_cast; omega
theorem sm_congr {p : Nat} {f g : Nat → Int} {n : Nat} (h : ∀ i, i < n → (p : Int) ∣ f i - g i) : (p : Int) ∣ sm f n - sm g n := by
  induction n with
  | zero => simp [sm]
  | succ n ih =>
    simp only [sm]
    have := Int.dvd_add (ih (fun i hi => h i (by omega))) (h n (by omega))
    rwa [show sm f n - sm g n + (f n - g n) = sm f n + f n - (sm g n + g n) from by omega] at this
theorem sm_swap (F : Nat → Nat → Int) (n m : Nat) : sm (fun i => sm (fun j => F i j) m) n = sm (fun j => sm (fun i => F i j) n) m := by
  induction n with
  | zero => simp only [sm]; rw [sm_zero]
  | succ n ih => simp only [sm]; rw [ih, sm_add]
/-- all but that at k vanish -/
theorem sm_single {p : Nat} {f : Nat → Int} {n k : Nat} (hk : k < n) (h : ∀ i, i < n → i ≠ k → (p : Int) ∣ f i) : (p : Int) ∣ sm f n - f k := by
  induction n with
  | zero => omega
  | succ n ih =>
    simp only [sm]
    by_cases e : k = n
    · subst e
      have z : ∀ m, m ≤ k → (p : Int) ∣ sm f m := fun m hm => by
        induction m with
        | zero => exact Int.dvd_zero _
        | succ m ihm => exact Int.dvd_add (ihm (by omega)) (h m (by omega) (by omega))
      have := z k (Nat.le_refl _)
      rwa [show sm f k = sm f k + f k - f k from by omega] at this
    · have := Int.dvd_add (ih (by omega) (fun i h1 h2 => h i (by omega) h2)) (h n (by omega) (fun e' => e e'.symm))
      rwa [show sm f n - f k + f n = sm f n + f n - f k from by omega] at this

theorem ps_sm (f : S) (x : Int) (n : Nat) : ps f x n = sm (fun j => f j * x ^ j) n := by
  induction n with
  | zero => rfl
  | succ n ih => simp only [ps, sm, ih]

theorem geo (x : Int) (n : Nat) : (x - 1) * sm (fun i => x ^ i) n = x ^ n - 1 := by
  induction n with
  | zero => simp [sm]
  | succ n ih => simp only [sm]; rw [Int.mul_add, ih, Int.pow_succ]; grind

theorem pow_dvd_one {p : Nat} {x : Int} (h : (p : Int) ∣ x - 1) (k : Nat) : (p : Int) ∣ x ^ k - 1 := by
  have := geo x k
  rw [← this]; exact Int.dvd_mul_of_dvd_left h

/-- w is 1 after n factors, and not before -/
structure Ord (p : Nat) (w : Int) (n : Nat) : Prop where
  pos : 0 < n
  one : (p : Int) ∣ w ^ n - 1
  no : ∀ k, 0 < k → k < n → ¬ (p : Int) ∣ w ^ k - 1

theorem Ord.nd {p : Nat} (hp : Num.Prime p) {w : Int} {n : Nat} (h : Ord p w n) : ¬ (p : Int) ∣ w := fun hd => by
  have h1 : (p : Int) ∣ w ^ n := by
    obtain ⟨m, hm⟩ : ∃ m, n = m + 1 := ⟨n - 1, by have := h.pos; omega⟩
    rw [hm, Int.pow_succ]; exact Int.dvd_mul_of_dvd_right hd
  have h2 := Int.dvd_sub h1 h.one
  rw [show w ^ n - (w ^ n - 1) = 1 from by omega] at h2
  have h3 := Int.le_of_dvd (by decide) h2
  have := hp.1
  omega

/-- the sum of all powers of a power -/
theorem Ord.sum {p : Nat} (hp : Num.Prime p) {w : Int} {n : Nat} (h : Ord p w n) {j : Nat} (h0 : 0 < j) (hj : j < n) : (p : Int) ∣ sm (fun i => (w ^ j) ^ i) n := by
  have hg := geo (w ^ j) n
  have hd : (p : Int) ∣ (w ^ j) ^ n - 1 := by
    rw [← Int.pow_mul, Nat.mul_comm, Int.pow_mul]
    exact pow_dvd_one h.one j
  rw [← hg] at hd
  exact (prime_mul hp hd).resolve_left (h.no j h0 hj)

theorem pow_nd {p : Nat} (hp : Num.Prime p) {x : Int} (h : ¬ (p : Int) ∣ x) (k : Nat) : ¬ (p : Int) ∣ x ^ k := by
  induction k with
  | zero =>
    intro hd
    have := Int.le_of_dvd (by decide) (show (p : Int) ∣ 1 by simpa using hd)
    have := hp.1
    omega
  | succ k ih => intro hd; rw [Int.pow_succ] at hd; exact (prime_mul hp hd).elim ih h

/-- the powers below the order are unlike -/
theorem Ord.unlike {p : Nat} (hp : Num.Prime p) {w : Int} {n : Nat} (h : Ord p w n) {i j : Nat} (hij : i < j) (hj : j < n) : ¬ (p : Int) ∣ w ^ j - w ^ i := fun hd => by
  obtain ⟨k, rfl⟩ : ∃ k, j = i + k := ⟨j - i, by omega⟩
  rw [Int.pow_add, show w ^ i * w ^ k - w ^ i = w ^ i * (w ^ k - 1) from by grind] at hd
  exact (prime_mul hp hd).elim (pow_nd hp (h.nd hp) i) (h.no k (by omega) (by omega))

/-- even and odd places -/
def ev (f : S) : S := fun k => f (2 * k)
/-! ## back from the values -/
theorem mul_one_pow {p : Nat} {x y : Int} (h : (p : Int) ∣ x * y - 1) (k : Nat) : (p : Int) ∣ x ^ k * y ^ k - 1 := by
  rw [← Int.mul_pow]; exact pow_dvd_one h k

/-- the powers of a quotient of two points -/
theorem Ord.quot {p : Nat} (hp : Num.Prime p) {w v : Int} {n : Nat} (h : Ord p w n) (hv : (p : Int) ∣ v * w - 1) {i k : Nat} (hi : i < n) (hk : k < n) (hne : k ≠ i) : (p : Int) ∣ sm (fun j => (v ^ k * w ^ i) ^ j) n := by
  have hg := geo (v ^ k * w ^ i) n
  have hvn : (p : Int) ∣ v ^ n - 1 := by
    obtain ⟨a, ha⟩ := mul_one_pow hv n
    obtain ⟨b, hb⟩ := h.one
    exact ⟨a - v ^ n * b, by grind⟩
  have hd : (p : Int) ∣ (v ^ k * w ^ i) ^ n - 1 := by
    rw [Int.mul_pow, ← Int.pow_mul, ← Int.pow_mul, Nat.mul_comm k n, Nat.mul_comm i n, Int.pow_mul, Int.pow_mul]
    obtain ⟨a, ha⟩ := pow_dvd_one hvn k
    obtain ⟨b, hb⟩ := pow_dvd_one h.one i
    exact ⟨a * (w ^ n) ^ i + b, by grind⟩
  rw [← hg] at hd
  refine (prime_mul hp hd).resolve_left (fun h1 => ?_)
  -- then the points would be the same
  obtain ⟨a, ha⟩ := h1
  obtain ⟨b, hb⟩ := mul_one_pow hv k
  have hw : (p : Int) ∣ w ^ i - w ^ k := ⟨w ^ k * a - w ^ i * b, by grind⟩
  rcases Nat.lt_or_ge i k with g | g
  · refine h.unlike hp g hk ?_
    have := Int.dvd_neg.2 hw; rwa [Int.neg_sub] at this
  · exact h.unlike hp (show k < i by omega) hi hw

/-- the polynomial that has these values at the points s w^i -/
theorem back {p : Nat} (hp : Num.Prime p) {w v s t m : Int} {n : Nat} (h : Ord p w n) (hv : (p : Int) ∣ v * w - 1) (hs : (p : Int) ∣ t * s - 1) (hm : (p : Int) ∣ m * n - 1) (val c : S)
    (hc : ∀ j, j < n → (p : Int) ∣ c j - m * t ^ j * sm (fun k => val k * (v ^ j) ^ k) n) (i : Nat) (hi : i < n) : (p : Int) ∣ ps c (s * w ^ i) n - val i := by
  -- each place's share
  have e1 : (p : Int) ∣ ps c (s * w ^ i) n - sm (fun j => m * sm (fun k => val k * (v ^ k * w ^ i) ^ j) n) n := by
    rw [ps_sm]
    refine sm_congr (fun j hj => ?_)
    obtain ⟨a, ha⟩ := hc j hj
    obtain ⟨b, hb⟩ := mul_one_pow hs j
    have e2 : sm (fun k => val k * (v ^ k * w ^ i) ^ j) n = (w ^ i) ^ j * sm (fun k => val k * (v ^ j) ^ k) n := by
      rw [← sm_mul]
      congr 1
      funext k
      rw [Int.mul_pow, ← Int.pow_mul, ← Int.pow_mul, ← Int.pow_mul, Nat.mul_comm k j]; grind
    rw [e2, Int.mul_pow]
    generalize sm (fun k => val k * (v ^ j) ^ k) n = T at *
    generalize (w ^ i) ^ j = u at *
    exact ⟨a * s ^ j * u + m * T * u * b, by
      have hcj : c j = m * t ^ j * T + p * a := by omega
      rw [hcj]
      have hts : t ^ j * s ^ j = 1 + p * b := by omega
      grind⟩
  have e3 : sm (fun j => m * sm (fun k => val k * (v ^ k * w ^ i) ^ j) n) n = m * sm (fun k => val k * sm (fun j => (v ^ k * w ^ i) ^ j) n) n := by
    rw [sm_mul, sm_swap]
    congr 2
    funext k
    rw [sm_mul]
  rw [e3] at e1
  have e4 := sm_single (p := p) (f := fun k => val k * sm (fun j => (v ^ k * w ^ i) ^ j) n) hi (fun k hk hne => Int.dvd_mul_of_dvd_right (h.quot hp hv hi hk hne))
  have e5 : (p : Int) ∣ sm (fun j => (v ^ i * w ^ i) ^ j) n - n := by
    have := sm_congr (p := p) (f := fun j => (v ^ i * w ^ i) ^ j) (g := fun _ => 1) (n := n) (fun j _ => pow_dvd_one (mul_one_pow hv i) j)
    rwa [sm_one] at this
  obtain ⟨a1, h1⟩ := e1
  obtain ⟨a4, h4⟩ := e4
  obtain ⟨a5, h5⟩ := e5
  obtain ⟨a6, h6⟩ := hm
  generalize sm (fun k => val k * sm (fun j => (v ^ k * w ^ i) ^ j) n) n = T at *
  generalize sm (fun j => (v ^ i * w ^ i) ^ j) n = U at *
  refine ⟨a1 + m * a4 + m * val i * a5 + val i * a6, ?_⟩
  have hT : T = val i * U + p * a4 := by omega
  have hU : U = n + p * a5 := by omega
  have hmn : m * n = 1 + p * a6 := by omega
  have hps : ps c (s * w ^ i) n = m * T + p * a1 := by omega
  rw [hps, hT, hU]
  grind

end Go.Proofs.YtmmgkdcojkmlcaaGreatDoor.Dom

namespace Go.Proofs.YtmmgkdcojkmlcaaGreatDoor.Dom
open Pol

theorem pow_congr {p : Nat} {x y : Int} (h : (p : Int) ∣ x - y) (k : Nat) : (p : Int) ∣ x ^ k - y ^ k := by
  induction k with
  | zero => simp
  | succ k ih =>
    obtain ⟨a, ha⟩ := ih
    obtain ⟨b, hb⟩ := h
    exact ⟨a * x + y ^ k * b, by rw [Int.pow_succ, Int.pow_succ, show x ^ k * x - y ^ k * y = (x ^ k - y ^ k) * x + y ^ k * (x - y) from by grind, ha, hb]; grind⟩

theorem Ord.congr {p : Nat} {w v : Int} {n : Nat} (h : Ord p w n) (e : (p : Int) ∣ w - v) : Ord p v n := by
  refine ⟨h.pos, ?_, fun k h1 h2 hd => h.no k h1 h2 ?_⟩
  · have := Int.dvd_sub h.one (pow_congr e n)
    rwa [show w ^ n - 1 - (w ^ n - v ^ n) = v ^ n - 1 from by omega] at this
  · have := Int.dvd_add hd (pow_congr e k)
    rwa [show v ^ k - 1 + (w ^ k - v ^ k) = w ^ k - 1 from by omega] at this

/-! ## round a circle -/
/-! ## points -/
end Go.Proofs.YtmmgkdcojkmlcaaGreatDoor.Dom

namespace Go.Proofs.YtmmgkdcojkmlcaaGreatDoor.Num

end Go.Proofs.YtmmgkdcojkmlcaaGreatDoor.Num

namespace Go.Proofs.YtmmgkdcojkmlcaaGreatDoor.Cod
open Pol Dom

/-- how many of the first n places -/
def cnt (P : Nat → Bool) : Nat → Nat
  | 0 => 0
  | n + 1 => cnt P n + (if P n then 1 else 0)

theorem cnt_not (P : Nat → Bool) (n : Nat) : cnt P n + cnt (fun j => !P j) n = n := by
  induction n with
  | zero => rfl
  | succ n ih => simp only [cnt]; by_cases h : P n = true <;> simp [h] <;> omega
/-- so many of them, in their order -/
theorem cnt_enum (P : Nat → Bool) : ∀ (n k : Nat), k ≤ cnt P n → ∃ e : Nat → Nat, (∀ i, i < k → e i < n ∧ P (e i) = true) ∧ ∀ i j, i < j → j < k → e i < e j
  | 0, k, h => ⟨fun i => i, fun i hi => by simp [cnt] at h; omega, fun i j _ hj => by simp [cnt] at h; omega⟩
  | n + 1, k, h => by
    simp only [cnt] at h
    by_cases hk : k ≤ cnt P n
    · obtain ⟨e, h1, h2⟩ := cnt_enum P n k hk
      exact ⟨e, fun i hi => ⟨by have := (h1 i hi).1; omega, (h1 i hi).2⟩, h2⟩
    · have hp : P n = true := by
        cases hp : P n with
        | true => rfl
        | false => rw [hp] at h; simp at h; omega
      rw [hp] at h
      simp at h
      obtain ⟨e, h1, h2⟩ := cnt_enum P n (k - 1) (by omega)
      refine ⟨fun i => if i < k - 1 then e i else n, fun i hi => ?_, fun i j hij hj => ?_⟩
      · by_cases g : i < k - 1
        · simp only [g, if_true]; exact ⟨by have := (h1 i g).1; omega, (h1 i g).2⟩
        · simp only [g, if_false]; exact ⟨by omega, hp⟩
      · show (if i < k - 1 then e i else n) < (if j < k - 1 then e j else n)
        by_cases g : j < k - 1
        · rw [if_pos (by omega), if_pos g]; exact h2 i j hij g
        · rw [if_pos (by omega), if_neg g]; exact (h1 i (by omega)).1

/-- 0 at as many points as it has places: 0 -/
theorem zero_of_roots {p : Nat} (hp : Num.Prime p) {xs : Nat → Int} {n : Nat} (hu : ∀ i j, i < j → j < n → ¬ (p : Int) ∣ xs j - xs i) (f : S) (k : Nat) (P : Nat → Bool) (hP : ∀ j, j < n → P j = true → (p : Int) ∣ ps f (xs j) k) (hk : k ≤ cnt P n) : ∀ j, j < k → (p : Int) ∣ f j := by
  obtain ⟨e, h1, h2⟩ := cnt_enum P n k hk
  exact Pol.roots hp k f (fun i => xs (e i)) (fun i j hij hj => hu (e i) (e j) (h2 i j hij hj) (h1 j hj).1) (fun i hi => hP _ (h1 i hi).1 (h1 i hi).2)

/-- two polynomials whose values agree at many points are the same -/
theorem same_of_agree {p : Nat} (hp : Num.Prime p) {xs : Nat → Int} {n : Nat} (hu : ∀ i j, i < j → j < n → ¬ (p : Int) ∣ xs j - xs i) (f g : S) (k : Nat) (P : Nat → Bool) (hP : ∀ j, j < n → P j = true → (p : Int) ∣ ps f (xs j) k - ps g (xs j) k) (hk : k ≤ cnt P n) : ∀ j, j < k → (p : Int) ∣ f j - g j := by
  have hs : ∀ (x : Int) (m : Nat), ps (Pol.sub f g) x m = ps f x m - ps g x m := fun x m => by
    induction m with
    | zero => rfl
    | succ m ih => simp only [ps, ih, Pol.sub]; grind
  exact zero_of_roots hp hu (Pol.sub f g) k P (fun j h1 h2 => by rw [hs]; exact hP j h1 h2) hk

/-- Singleton: unlike polynomials of low degree have values that differ nearly everywhere -/
theorem apart {p : Nat} (hp : Num.Prime p) {xs : Nat → Int} {n : Nat} (hu : ∀ i j, i < j → j < n → ¬ (p : Int) ∣ xs j - xs i) (a b : S) (k : Nat) (D : Nat → Bool) (hD : ∀ j, j < n → D j = false → (p : Int) ∣ ps a (xs j) k - ps b (xs j) k)
    (hne : ∃ j, j < k ∧ ¬ (p : Int) ∣ a j - b j) : n < cnt D n + k := by
  refine Nat.lt_of_not_le (fun hle => ?_)
  obtain ⟨j, hj, hd⟩ := hne
  refine hd (same_of_agree hp hu a b k (fun j => !D j) (fun i h1 h2 => hD i h1 (by simpa using h2)) ?_ j hj)
  have := cnt_not D n
  omega

end Go.Proofs.YtmmgkdcojkmlcaaGreatDoor.Cod

namespace Go.Proofs.YtmmgkdcojkmlcaaGreatDoor.Cod
open Pol Dom

theorem ml_low {p : Nat} (f g : S) (k : Nat) (hf : ∀ j, j ≤ k → (p : Int) ∣ f j) : (p : Int) ∣ ml k f g := by
  induction k generalizing f with
  | zero => exact Int.dvd_mul_of_dvd_left (hf 0 (Nat.le_refl _))
  | succ k ih => exact Int.dvd_add (Int.dvd_mul_of_dvd_left (hf 0 (by omega))) (ih _ (fun j hj => hf (j + 1) (by omega)))

/-- the first places of a product come of the first places -/
theorem mul_low {p : Nat} (q f g : S) (n : Nat) (h : ∀ j, j < n → (p : Int) ∣ f j - g j) (j : Nat) (hj : j < n) : (p : Int) ∣ mul q f j - mul q g j := by
  have h1 : mul q f j - mul q g j = ml j (sub f g) q := by
    rw [ml_sub_left]
    simp only [mul]
    rw [ml_comm j q f, ml_comm j q g]
  rw [h1]
  exact ml_low (sub f g) q j (fun i hi => h i (by omega))

/-- what stands from the place n on is laid on the first n, times c -/
def wr (c : Int) (n : Nat) (F : S) : S := fun j => F j + c * F (n + j)

/-! ## Euclid's way -/

theorem psub_len_right {p : Nat} {a b : List Int} (hb : Can p b) (h : a.length < b.length) : (psub p a b).length = b.length := by
  rw [psub, mk_length]
  refine tp_unique p _ _ _ (by omega) (fun j h1 h2 => by omega) (fun h0 hz => ?_)
  have := hb.last_nd h0
  refine this ?_
  have hz := emod_zero_iff.1 hz
  simp only [sub] at hz
  rw [cf_ge (l := a) (by omega)] at hz
  have := Int.dvd_neg.2 hz
  rwa [show -(0 - cf b (b.length - 1)) = cf b (b.length - 1) from by omega] at this

/-- what the rounds keep: what is here and next are the second and the third times A on the first places -/
structure LI (p sp : Nat) (A : S) (h nx bf fc : List Int) : Prop where
  ch : Can p h
  cn : Can p nx
  cb : Can p bf
  cf : Can p fc
  eh : ∀ j, j < sp → (p : Int) ∣ Pol.cf h j - mul (Pol.cf bf) A j
  en : ∀ j, j < sp → (p : Int) ∣ Pol.cf nx j - mul (Pol.cf fc) A j
  dn : nx.length < h.length
  db : bf.length < fc.length
  df : fc.length + h.length = sp + 2
  dh : sp + 2 ≤ 2 * h.length

/-- a power of x -/
def pw (n : Nat) : List Int := List.replicate n 0 ++ [1]
/-- one round; q and r are quotient and rest -/
theorem LI.step {p sp : Nat} (hp : Num.Prime p) (h3 : 3 ≤ p) {A : S} {h nx bf fc q r : List Int} (i : LI p sp A h nx bf fc) (cq : Can p q) (cr : Can p r) (lt : r.length < nx.length) (eq : Eqp p (Pol.cf h) (add (mul (Pol.cf q) (Pol.cf nx)) (Pol.cf r)))
    (lq : q.length ≤ h.length + 1 - nx.length) (hc : sp + 2 ≤ 2 * nx.length) : LI p sp A nx r fc (psub p bf (pmul p q fc)) := by
  have hdn := i.dn
  have hdb := i.db
  have hdf := i.df
  have hq : h.length + 1 ≤ q.length + nx.length := by
    refine Nat.le_of_not_lt (fun g => ?_)
    have h1 := i.ch.last_nd (by omega)
    have h2 := eq (h.length - 1)
    simp only [add] at h2
    rw [show mul (Pol.cf q) (Pol.cf nx) (h.length - 1) = 0 from pmul_z q nx _ (by omega), cf_ge (l := r) (by omega), Int.add_zero, Int.sub_zero] at h2
    exact h1 h2
  have hm := pmul_len hp cq i.cf (by omega) (by omega)
  have hcm : Can p (pmul p q fc) := mk_can (by omega) _ _
  have hs := psub_len_right (a := bf) hcm (by omega)
  refine ⟨i.cn, cr, i.cf, mk_can (by omega) _ _, i.en, fun j hj => ?_, lt, by omega, by omega, by omega⟩
  have e1 := eq j
  have e2 := mul_low (Pol.cf q) (Pol.cf nx) (mul (Pol.cf fc) A) sp i.en j hj
  have e3 := i.eh j hj
  have e4 := (((psub_eqp p bf (pmul p q fc)).trans ((Eqp.refl p (Pol.cf bf)).sub (pmul_eqp p q fc))).mul_left A) j
  rw [sub_mul, mul_assoc] at e4
  simp only [sub, add] at e1 e4
  have := Int.dvd_sub (Int.dvd_sub (Int.dvd_sub e3 e1) e2) e4
  rwa [show ∀ H B Q R F X : Int, H - B - (H - (Q + R)) - (Q - F) - (X - (B - F)) = R - X from fun H B Q R F X => by omega] at this

end Go.Proofs.YtmmgkdcojkmlcaaGreatDoor.Cod

namespace Go.Proofs.YtmmgkdcojkmlcaaGreatDoor.Spo
open Pol Dom

/-! ## products of x - y, one left out -/
def pa (ys : Nat → Int) (x : Int) : Nat → Int
  | 0 => 1
  | n + 1 => pa ys x n * (x - ys n)

/-! ## the matrix of inverses -/
/-- the sum over the columns, as a polynomial in the row -/
def qf (e : Nat → Int) (ys : Nat → Int) (n : Nat) : S := fun m => sm (fun j => e j * vsk ys j n m) n

/-! ## powers -/
/-- no divisor but 1 in common -/
def Apart (n m : Nat) : Prop := ∀ i, 2 ≤ i → i ∣ n → ¬ i ∣ m
/-- the least above 1 that has no divisor but 1 in common with p - 1 -/
def PowIs (p n : Nat) : Prop := 2 ≤ n ∧ Apart n (p - 1) ∧ ∀ m, 2 ≤ m → m < n → ¬ Apart m (p - 1)
end Go.Proofs.YtmmgkdcojkmlcaaGreatDoor.Spo
