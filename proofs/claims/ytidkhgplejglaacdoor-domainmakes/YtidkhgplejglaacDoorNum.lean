/- Plain facts on numbers, of no program: primes, least divisors, and that p - 1 equal factors which a prime p does not divide leave 1 (Fermat). -/
namespace Go.Proofs.YtidkhgplejglaacDoor.Num

def Prime (p : Nat) : Prop := 2 ≤ p ∧ ∀ d, d ∣ p → d = 1 ∨ d = p

/-- the least divisor from 2 on -/
def Least (n d : Nat) : Prop := 2 ≤ d ∧ d ∣ n ∧ ∀ e, 2 ≤ e → e < d → ¬ e ∣ n

theorem least_prime {n d : Nat} (h : Least n d) : Prime d := by
  refine ⟨h.1, fun e he => ?_⟩
  have hpos : 0 < d := by have := h.1; omega
  have hle : e ≤ d := Nat.le_of_dvd hpos he
  by_cases h1 : e = d
  · exact Or.inr h1
  · by_cases h0 : e = 0
    · subst h0
      have := Nat.eq_zero_of_zero_dvd he
      omega
    · by_cases h2 : e = 1
      · exact Or.inl h2
      · exact absurd (Nat.dvd_trans he h.2.1) (h.2.2 e (by omega) (by omega))

theorem least_unique {n d e : Nat} (h : Least n d) (g : Least n e) : d = e := by
  rcases Nat.lt_trichotomy d e with l | l | l
  · exact absurd h.2.1 (g.2.2 d h.1 l)
  · exact l
  · exact absurd g.2.1 (h.2.2 e g.1 l)

theorem prime_least {p : Nat} (h : Prime p) : Least p p := by
  refine ⟨h.1, Nat.dvd_refl _, fun e h2 hlt hd => ?_⟩
  rcases h.2 e hd with g | g <;> omega

theorem prime_iff_least {p : Nat} : Prime p ↔ Least p p := ⟨prime_least, least_prime⟩

/-- what is found when no divisor d with d*d ≤ n is there -/
theorem least_self {n k : Nat} (h2 : 2 ≤ n) (hk : n < k * k) (h : ∀ e, 2 ≤ e → e < k → ¬ e ∣ n) : Least n n := by
  refine ⟨h2, Nat.dvd_refl _, fun e he hlt hd => ?_⟩
  obtain ⟨c, hc⟩ := hd
  by_cases hek : e < k
  · exact h e he hek ⟨c, hc⟩
  · have hc2 : 2 ≤ c := by
      rcases Nat.lt_or_ge c 2 with g | g
      · have : c = 0 ∨ c = 1 := by omega
        rcases this with g | g <;> subst g <;> omega
      · exact g
    have hck : c < k := by
      rcases Nat.lt_or_ge c k with g | g
      · exact g
      · have : k * k ≤ e * c := Nat.mul_le_mul (by omega) g
        omega
    exact h c hc2 hck ⟨e, by rw [hc, Nat.mul_comm]⟩

theorem euclid {p x y : Nat} (hp : Prime p) (h : p ∣ x * y) : p ∣ x ∨ p ∣ y := by
  have hg : Nat.gcd p x ∣ p := Nat.gcd_dvd_left p x
  rcases hp.2 _ hg with g | g
  · exact Or.inr (Nat.Coprime.dvd_of_dvd_mul_left g h)
  · left; rw [← g]; exact Nat.gcd_dvd_right p x

theorem not_dvd_pow {p x n : Nat} (hp : Prime p) (h : ¬ p ∣ x) : ¬ p ∣ x ^ n := by
  induction n with
  | zero => simp only [Nat.pow_zero]; intro g; have := Nat.le_of_dvd (by omega) g; have := hp.1; omega
  | succ n ih => rw [Nat.pow_succ]; intro g; rcases euclid hp g with g | g; exact ih g; exact h g

theorem not_dvd_lt {p x : Nat} (h0 : 0 < x) (h : x < p) : ¬ p ∣ x := by
  intro g; have := Nat.le_of_dvd h0 g; omega

/-- what is the same behind a factor is the same -/
theorem cancel {p a x y : Nat} (hp : Prime p) (ha : ¬ p ∣ a) (h : a * x % p = a * y % p) : x % p = y % p := by
  have key : ∀ x y : Nat, x ≤ y → a * x % p = a * y % p → x % p = y % p := by
    intro x y hxy h
    have h1 : p ∣ a * y - a * x := Nat.dvd_of_mod_eq_zero (Nat.sub_mod_eq_zero_of_mod_eq h.symm)
    rw [← Nat.mul_sub] at h1
    rcases euclid hp h1 with g | g
    · exact absurd g ha
    · obtain ⟨c, hc⟩ := g
      have : y = x + p * c := by omega
      rw [this, Nat.add_mul_mod_self_left]
  rcases Nat.le_total x y with g | g
  · exact key x y g h
  · exact (key y x g h.symm).symm

theorem prod_map_mod (p a : Nat) (l : List Nat) : (l.map (fun i => a * i % p)).prod % p = (a ^ l.length * l.prod) % p := by
  induction l with
  | nil => simp
  | cons x l ih =>
    simp only [List.map_cons, List.prod_cons, List.length_cons]
    rw [Nat.mul_mod, Nat.mod_mod, ih, ← Nat.mul_mod]
    congr 1
    rw [Nat.pow_succ]; grind

theorem not_dvd_prod {p : Nat} (hp : Prime p) (l : List Nat) (h : ∀ x, x ∈ l → ¬ p ∣ x) : ¬ p ∣ l.prod := by
  induction l with
  | nil => simp only [List.prod_nil]; intro g; have := Nat.le_of_dvd (by omega) g; have := hp.1; omega
  | cons x l ih =>
    rw [List.prod_cons]; intro g
    rcases euclid hp g with g | g
    · exact h x (by simp) g
    · exact ih (fun y hy => h y (by simp [hy])) g

theorem fermat {p a : Nat} (hp : Prime p) (ha : ¬ p ∣ a) : a ^ (p - 1) % p = 1 := by
  have h2 := hp.1
  have hS : ∀ x, x ∈ List.range' 1 (p - 1) ↔ 1 ≤ x ∧ x < p := by
    intro x; rw [List.mem_range'_1]; omega
  have nS : (List.range' 1 (p - 1)).Nodup := List.nodup_range'
  have lS : (List.range' 1 (p - 1)).length = p - 1 := List.length_range'
  generalize List.range' 1 (p - 1) = S at *
  have hnd : ∀ x, x ∈ S → ¬ p ∣ x := fun x hx => not_dvd_lt (by have := (hS x).1 hx; omega) ((hS x).1 hx).2
  have nT : (S.map (fun i => a * i % p)).Nodup := by
    rw [List.nodup_iff_pairwise_ne] at nS ⊢
    rw [List.pairwise_map]
    refine nS.imp_of_mem ?_
    intro x y hx hy hxy h
    have := cancel hp ha h
    rw [Nat.mod_eq_of_lt ((hS x).1 hx).2, Nat.mod_eq_of_lt ((hS y).1 hy).2] at this
    exact hxy this
  have sub : S.map (fun i => a * i % p) ⊆ S := by
    intro y hy
    obtain ⟨x, hx, rfl⟩ := List.mem_map.1 hy
    rw [hS]
    refine ⟨?_, Nat.mod_lt _ (by omega)⟩
    rcases Nat.eq_zero_or_pos (a * x % p) with g | g
    · rcases euclid hp (Nat.dvd_of_mod_eq_zero g) with g | g
      · exact absurd g ha
      · exact absurd g (hnd x hx)
    · exact g
  have sup : S ⊆ S.map (fun i => a * i % p) := by
    intro y hy
    by_cases hm : y ∈ S.map (fun i => a * i % p)
    · exact hm
    · have nn : (y :: S.map (fun i => a * i % p)).Nodup := List.nodup_cons.2 ⟨hm, nT⟩
      have := nn.length_le_of_subset (l₂ := S) (by
        intro z hz
        rcases List.mem_cons.1 hz with g | g
        · rw [g]; exact hy
        · exact sub g)
      simp at this
      omega
  have hperm : (S.map (fun i => a * i % p)).Perm S := (List.perm_ext_iff_of_nodup nT nS).2 (fun z => ⟨fun h => sub h, fun h => sup h⟩)
  have hprod := hperm.prod_nat
  have hm := prod_map_mod p a S
  rw [hprod, lS] at hm
  have hF := not_dvd_prod hp S hnd
  have : S.prod * 1 % p = S.prod * a ^ (p - 1) % p := by rw [Nat.mul_one, hm, Nat.mul_comm]
  have := cancel hp hF this
  rw [← this, Nat.mod_eq_of_lt (by omega)]

theorem prime_dvd_prime {p q : Nat} (hp : Prime p) (hq : Prime q) (h : q ∣ p) : q = p := by
  rcases hp.2 q h with g | g
  · have := hq.1; omega
  · exact g

theorem dvd_size {m d k : Nat} (hm : 1 ≤ m) (hk : k ∣ m) (hd : d ∣ m) (hn : ¬ d ∣ k) : 2 * k ≤ m := by
  obtain ⟨c, hc⟩ := hk
  have h0 : c ≠ 0 := by rintro rfl; omega
  have h1 : c ≠ 1 := by rintro rfl; rw [Nat.mul_one] at hc; rw [hc] at hd; exact hn hd
  have : k * 2 ≤ k * c := Nat.mul_le_mul_left k (by omega)
  omega

/-- what is known while the primes that divide n are gathered: ds so far, m is what is left -/
structure PD (n m : Nat) (ds : List Nat) : Prop where
  pos : 1 ≤ m
  left : m ∣ n
  sound : ∀ q, q ∈ ds → Prime q ∧ q ∣ n
  whole : ∀ q, Prime q → q ∣ n → q ∈ ds ∨ q ∣ m
  short : 2 ^ ds.length * m ≤ n

theorem PD.start {n : Nat} (h : 1 ≤ n) : PD n n [] :=
  ⟨h, Nat.dvd_refl _, fun q hq => by simp at hq, fun q _ hd => Or.inr hd, by simp⟩

theorem PD.len {n m : Nat} {ds : List Nat} (h : PD n m ds) (hn : n ≤ 2147483647) : ds.length ≤ 31 := by
  rcases Nat.lt_or_ge 31 ds.length with g | g
  · have h1 : 2 ^ 32 ≤ 2 ^ ds.length := Nat.pow_le_pow_right (by omega) g
    have h2 : 2 ^ ds.length * 1 ≤ 2 ^ ds.length * m := Nat.mul_le_mul_left _ h.pos
    have := h.short
    omega
  · exact g

/-- what is known while one prime d is divided out: m is what was, k what is left -/
structure PO (d m k : Nat) : Prop where
  pos : 1 ≤ k
  left : k ∣ m
  whole : ∀ q, Prime q → q ∣ m → q = d ∨ q ∣ k

theorem PO.start {d m : Nat} (h : 1 ≤ m) : PO d m m := ⟨h, Nat.dvd_refl _, fun _ _ hd => Or.inr hd⟩

theorem PO.step {d m k : Nat} (hd : Prime d) (h : PO d m k) (hk : d ∣ k) : PO d m (k / d) := by
  obtain ⟨c, rfl⟩ := hk
  have h2 := hd.1
  rw [Nat.mul_div_cancel_left c (by omega)]
  refine ⟨?_, Nat.dvd_trans (Nat.dvd_mul_left c d) h.left, fun q hq hqm => ?_⟩
  · rcases Nat.eq_zero_or_pos c with g | g
    · subst g; have := h.pos; simp at this
    · exact g
  · rcases h.whole q hq hqm with g | g
    · exact Or.inl g
    · rcases euclid hq g with g | g
      · exact Or.inl (prime_dvd_prime hd hq g)
      · exact Or.inr g

theorem PD.step {n m d k : Nat} {ds : List Nat} (h : PD n m ds) (hl : Least m d) (ho : PO d m k) (hn : ¬ d ∣ k) : PD n k (ds ++ [d]) ∧ k < m := by
  have hs := dvd_size h.pos ho.left hl.2.1 hn
  have hp := ho.pos
  refine ⟨⟨ho.pos, Nat.dvd_trans ho.left h.left, ?_, ?_, ?_⟩, by omega⟩
  · intro q hq
    rcases List.mem_append.1 hq with g | g
    · exact h.sound q g
    · simp at g; subst g
      exact ⟨least_prime hl, Nat.dvd_trans hl.2.1 h.left⟩
  · intro q hq hd
    rcases h.whole q hq hd with g | g
    · exact Or.inl (List.mem_append_left _ g)
    · rcases ho.whole q hq g with g | g
      · subst g; exact Or.inl (by simp)
      · exact Or.inr g
  · have h1 := h.short
    rw [List.length_append, List.length_singleton, Nat.pow_succ, Nat.mul_assoc]
    have h2 : 2 ^ ds.length * (2 * k) ≤ 2 ^ ds.length * m := Nat.mul_le_mul_left _ hs
    omega

/-- ds are the primes that divide n -/
def Primes (n : Nat) (ds : List Nat) : Prop := (∀ q, q ∈ ds ↔ Prime q ∧ q ∣ n) ∧ ds.length ≤ 31

theorem PD.done {n m : Nat} {ds : List Nat} (h : PD n m ds) (hm : m ≤ 1) (hn : n ≤ 2147483647) : Primes n ds := by
  refine ⟨fun q => ⟨h.sound q, fun ⟨hq, hd⟩ => ?_⟩, h.len hn⟩
  rcases h.whole q hq hd with g | g
  · exact g
  · have := Nat.le_of_dvd (by have := h.pos; omega) g
    have := hq.1
    omega

/-- so many equal factors modulo p -/
def pwm (p s e : Nat) : Nat := s ^ e % p

theorem pwm_lt (p s e : Nat) (h : 0 < p) : pwm p s e < p := Nat.mod_lt _ h
theorem pwm_zero (p s : Nat) (h : 2 ≤ p) : pwm p s 0 = 1 := by unfold pwm; rw [Nat.pow_zero, Nat.mod_eq_of_lt (by omega)]
theorem pwm_one (p s : Nat) (h : s < p) : pwm p s 1 = s := by unfold pwm; rw [Nat.pow_one, Nat.mod_eq_of_lt h]
theorem pwm_add (p s x y : Nat) : pwm p s x * pwm p s y % p = pwm p s (x + y) := by
  unfold pwm; rw [← Nat.mul_mod, ← Nat.pow_add]
theorem pwm_mul (p s x y : Nat) : pwm p (pwm p s x) y = pwm p s (x * y) := by
  unfold pwm; rw [← Nat.pow_mod, ← Nat.pow_mul]

theorem pwm_one_left (p y : Nat) (h : 2 ≤ p) : pwm p 1 y = 1 := by unfold pwm; rw [Nat.one_pow, Nat.mod_eq_of_lt (by omega)]

theorem pwm_one_mul {p s x : Nat} (hp : 2 ≤ p) (h : pwm p s x = 1) (y : Nat) : pwm p s (x * y) = 1 := by
  rw [← pwm_mul, h, pwm_one_left p y hp]

theorem pwm_fermat {p s : Nat} (hp : Prime p) (h0 : 0 < s) (hs : s < p) : pwm p s (p - 1) = 1 := fermat hp (not_dvd_lt h0 hs)

/-- so many times p - 1 factors more make no difference -/
theorem pwm_mod {p s : Nat} (hp : Prime p) (h0 : 0 < s) (hs : s < p) (n : Nat) : pwm p s (n % (p - 1)) = pwm p s n := by
  have h2 := hp.1
  have e : n = (p - 1) * (n / (p - 1)) + n % (p - 1) := (Nat.div_add_mod n (p - 1)).symm
  have h : pwm p s n = pwm p s ((p - 1) * (n / (p - 1)) + n % (p - 1)) := congrArg _ e
  rw [h, ← pwm_add, pwm_one_mul h2 (pwm_fermat hp h0 hs), Nat.one_mul, Nat.mod_eq_of_lt (pwm_lt p s _ (by omega))]

/-- k is the order of s -/
def Ord (p s k : Nat) : Prop := 1 ≤ k ∧ k ∣ p - 1 ∧ pwm p s k = 1 ∧ ∀ q, Prime q → q ∣ k → pwm p s (k / q) ≠ 1

/-- x makes all others -/
def IsGen (p x : Nat) : Prop := ∀ q, Prime q → q ∣ p - 1 → pwm p x ((p - 1) / q) ≠ 1

/-- g is the least that makes all others, or 0: there is none -/
def GenIs (p g : Nat) : Prop := (1 ≤ g ∧ g < p ∧ IsGen p g ∧ ∀ x, 1 ≤ x → x < g → ¬ IsGen p x) ∨ (g = 0 ∧ ∀ x, 1 ≤ x → x < p → ¬ IsGen p x)

theorem genIs_unique {p g h : Nat} (a : GenIs p g) (b : GenIs p h) : g = h := by
  rcases a with ⟨a1, a2, a3, a4⟩ | ⟨a1, a2⟩
  · rcases b with ⟨b1, b2, b3, b4⟩ | ⟨b1, b2⟩
    · rcases Nat.lt_trichotomy g h with l | l | l
      · exact absurd a3 (b4 g a1 l)
      · exact l
      · exact absurd b3 (a4 h b1 l)
    · exact absurd a3 (b2 g a1 a2)
  · rcases b with ⟨b1, b2, b3, b4⟩ | ⟨b1, b2⟩
    · exact absurd b3 (a2 h b1 b2)
    · omega

/-- what is known while what is not needed is divided out of the order: js are the primes that are done -/
structure OI (p s k : Nat) (js : List Nat) : Prop where
  pos : 1 ≤ k
  left : k ∣ p - 1
  one : pwm p s k = 1
  done : ∀ q, q ∈ js → q ∣ k → pwm p s (k / q) ≠ 1

theorem OI.start {p s : Nat} (hp : Prime p) (h0 : 0 < s) (hs : s < p) : OI p s (p - 1) [] :=
  ⟨by have := hp.1; omega, Nat.dvd_refl _, pwm_fermat hp h0 hs, fun q hq => by simp at hq⟩

theorem OI.step {p s k q : Nat} {js : List Nat} (hp : 2 ≤ p) (h : OI p s k js) (hq : 2 ≤ q) (hd : q ∣ k) (h1 : pwm p s (k / q) = 1) (hj : ∀ x, x ∈ js → 2 ≤ x) : OI p s (k / q) js := by
  obtain ⟨c, rfl⟩ := hd
  rw [Nat.mul_div_cancel_left c (by omega)] at h1 ⊢
  refine ⟨?_, Nat.dvd_trans (Nat.dvd_mul_left c q) h.left, h1, fun x hx hxc hone => ?_⟩
  · rcases Nat.eq_zero_or_pos c with g | g
    · subst g; have := h.pos; simp at this
    · exact g
  · obtain ⟨e, rfl⟩ := hxc
    have hx2 := hj x hx
    rw [Nat.mul_div_cancel_left e (by omega)] at hone
    refine h.done x hx ⟨q * e, by rw [← Nat.mul_assoc, ← Nat.mul_assoc, Nat.mul_comm q x]⟩ ?_
    have : q * (x * e) / x = e * q := by
      rw [show q * (x * e) = x * (e * q) from by rw [Nat.mul_comm q, Nat.mul_assoc]]
      exact Nat.mul_div_cancel_left _ (by omega)
    rw [this]
    exact pwm_one_mul hp hone q

theorem OI.more {p s k q : Nat} {js : List Nat} (h : OI p s k js) (hn : ¬ (q ∣ k ∧ pwm p s (k / q) = 1)) : OI p s k (js ++ [q]) := by
  refine ⟨h.pos, h.left, h.one, fun x hx hd hone => ?_⟩
  rcases List.mem_append.1 hx with g | g
  · exact h.done x g hd hone
  · simp at g; subst g; exact hn ⟨hd, hone⟩

theorem OI.ord {p s k : Nat} {js : List Nat} (h : OI p s k js) (hj : Primes (p - 1) js) : Ord p s k :=
  ⟨h.pos, h.left, h.one, fun q hq hd => h.done q ((hj.1 q).2 ⟨hq, Nat.dvd_trans hd h.left⟩) hd⟩

end Go.Proofs.YtidkhgplejglaacDoor.Num
