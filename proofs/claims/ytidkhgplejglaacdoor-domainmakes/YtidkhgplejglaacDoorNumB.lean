/- Plain facts on orders and on elements that make all others: of no program. -/
import Derived.Test.YtidkhgplejglaacDoorNum
namespace Go.Proofs.YtidkhgplejglaacDoor.Num

theorem exists_prime_dvd : ∀ (k n : Nat), n ≤ k → 2 ≤ n → ∃ q, Prime q ∧ q ∣ n
  | 0, n, h, h2 => by omega
  | k + 1, n, h, h2 => by
    by_cases hp : ∀ d, d ∣ n → d = 1 ∨ d = n
    · exact ⟨n, ⟨h2, hp⟩, Nat.dvd_refl _⟩
    · have : ∃ d, d ∣ n ∧ d ≠ 1 ∧ d ≠ n := by
        apply Classical.byContradiction
        intro hno
        apply hp
        intro d hd
        by_cases h1 : d = 1
        · exact Or.inl h1
        · by_cases hn : d = n
          · exact Or.inr hn
          · exact absurd ⟨d, hd, h1, hn⟩ hno
      obtain ⟨d, hd, h1, hn⟩ := this
      have hle := Nat.le_of_dvd (by omega) hd
      have h0 : d ≠ 0 := by rintro rfl; have := Nat.eq_zero_of_zero_dvd hd; omega
      obtain ⟨q, hq, hqd⟩ := exists_prime_dvd k d (by omega) (by omega)
      exact ⟨q, hq, Nat.dvd_trans hqd hd⟩

theorem pwm_mod_of {p s k j : Nat} (hp : 2 ≤ p) (hk : pwm p s k = 1) : pwm p s (j % k) = pwm p s j := by
  have e : j = k * (j / k) + j % k := (Nat.div_add_mod j k).symm
  have h : pwm p s j = pwm p s (k * (j / k) + j % k) := congrArg _ e
  rw [h, ← pwm_add, pwm_one_mul hp hk, Nat.one_mul, Nat.mod_eq_of_lt (pwm_lt p s _ (by omega))]

theorem pwm_gcd {p s : Nat} (hp : 2 ≤ p) : ∀ (f k j : Nat), k ≤ f → pwm p s k = 1 → pwm p s j = 1 → pwm p s (Nat.gcd k j) = 1
  | 0, k, j, h, _, hj => by
    have : k = 0 := by omega
    subst this; rw [Nat.gcd_zero_left]; exact hj
  | f + 1, k, j, h, hk, hj => by
    by_cases h0 : k = 0
    · subst h0; rw [Nat.gcd_zero_left]; exact hj
    · rw [Nat.gcd_rec]
      have hlt := Nat.mod_lt j (show 0 < k by omega)
      exact pwm_gcd hp f (j % k) k (by omega) (by rw [pwm_mod_of hp hk]; exact hj) hk

theorem ord_dvd {p s k j : Nat} (hp : 2 ≤ p) (h : Ord p s k) (hj : pwm p s j = 1) : k ∣ j := by
  obtain ⟨h1, h2, h3, h4⟩ := h
  have hg := pwm_gcd hp k k j (Nat.le_refl _) h3 hj
  have hgk := Nat.gcd_dvd_left k j
  have hgj := Nat.gcd_dvd_right k j
  generalize Nat.gcd k j = g at *
  by_cases he : g = k
  · rw [← he]; exact hgj
  · obtain ⟨c, hc⟩ := hgk
    have hc2 : 2 ≤ c := by
      rcases Nat.lt_or_ge c 2 with l | l
      · have : c = 0 ∨ c = 1 := by omega
        rcases this with rfl | rfl <;> omega
      · exact l
    obtain ⟨q, hq, e, rfl⟩ := exists_prime_dvd c c (Nat.le_refl _) hc2
    have hq2 := hq.1
    exfalso
    refine h4 q hq ⟨g * e, by rw [hc]; exact Nat.mul_left_comm g q e⟩ ?_
    rw [hc, Nat.mul_left_comm g q e, Nat.mul_div_cancel_left _ (by omega)]
    exact pwm_one_mul hp hg e

/-- k is the least divisor of p - 1 after which it is 1 -/
def LeastDiv (p s k : Nat) : Prop := 1 ≤ k ∧ k ∣ p - 1 ∧ pwm p s k = 1 ∧ ∀ d, 1 ≤ d → d ∣ p - 1 → pwm p s d = 1 → k ≤ d

theorem ord_leastDiv {p s k m : Nat} (hp : 2 ≤ p) (h : Ord p s k) (g : LeastDiv p s m) : k = m := by
  have h1 := g.2.2.2 k h.1 h.2.1 h.2.2.1
  have h2 := Nat.le_of_dvd (by have := g.1; omega) (ord_dvd hp h g.2.2.1)
  omega

theorem div_lt_of_two {n q : Nat} (hn : 1 ≤ n) (hq : 2 ≤ q) : n / q < n := Nat.div_lt_self hn hq

theorem dvd_div_pos {n d : Nat} (hn : 1 ≤ n) (h : d ∣ n) : 1 ≤ n / d := by
  obtain ⟨c, rfl⟩ := h
  have hd : 0 < d := by rcases Nat.eq_zero_or_pos d with g | g; (subst g; simp at hn); exact g
  rw [Nat.mul_div_cancel_left c hd]
  rcases Nat.eq_zero_or_pos c with g | g
  · subst g; simp at hn
  · exact g

/-- an element makes all others just where the least divisor is p - 1 -/
theorem leastDiv_gen {p s k : Nat} (hp : 3 ≤ p) (h : LeastDiv p s k) : k = p - 1 ↔ IsGen p s := by
  obtain ⟨h1, h2, h3, h4⟩ := h
  constructor
  · rintro rfl q hq hd hone
    have hdd : (p - 1) / q ∣ p - 1 := Nat.div_dvd_of_dvd hd
    have := h4 _ (dvd_div_pos (by omega) hd) hdd hone
    have := div_lt_of_two (n := p - 1) (by omega) hq.1
    omega
  · intro hg
    apply Classical.byContradiction
    intro hne
    obtain ⟨c, hc⟩ := h2
    have hc2 : 2 ≤ c := by
      rcases Nat.lt_or_ge c 2 with l | l
      · have : c = 0 ∨ c = 1 := by omega
        rcases this with rfl | rfl <;> omega
      · exact l
    obtain ⟨q, hq, e, rfl⟩ := exists_prime_dvd c c (Nat.le_refl _) hc2
    have hq2 := hq.1
    refine hg q hq ⟨k * e, by rw [hc]; exact Nat.mul_left_comm k q e⟩ ?_
    rw [hc, Nat.mul_left_comm k q e, Nat.mul_div_cancel_left _ (by omega)]
    exact pwm_one_mul (by omega) h3 e

theorem gen_ord {p g : Nat} (hp : Prime p) (h1 : 1 ≤ g) (h2 : g < p) (hg : IsGen p g) : Ord p g (p - 1) :=
  ⟨by have := hp.1; omega, Nat.dvd_refl _, pwm_fermat hp h1 h2, hg⟩

/-- the order of what (p - 1) / n factors of such an element make is n -/
theorem root_ord {p g n k : Nat} (hp : Prime p) (h1 : 1 ≤ g) (h2 : g < p) (hg : IsGen p g) (hn : 1 ≤ n) (hd : n ∣ p - 1)
    (hk : Ord p (pwm p g ((p - 1) / n)) k) : k = n := by
  have hp2 := hp.1
  obtain ⟨c, hc⟩ := hd
  have hc0 : 0 < c := by
    rcases Nat.eq_zero_or_pos c with g | g
    · subst g; omega
    · exact g
  rw [hc, Nat.mul_div_cancel_left c (by omega)] at hk
  have hkn : k ∣ n := ord_dvd hp2 hk (by rw [pwm_mul, Nat.mul_comm, ← hc]; exact pwm_fermat hp h1 h2)
  have hone := hk.2.2.1
  rw [pwm_mul] at hone
  have hdv := ord_dvd hp2 (gen_ord hp h1 h2 hg) hone
  rw [hc, Nat.mul_comm n c] at hdv
  have hnk : n ∣ k := Nat.dvd_of_mul_dvd_mul_left hc0 hdv
  exact Nat.dvd_antisymm hkn hnk

/-- what is known while divisors up to i are looked at -/
structure DI (p s i best : Nat) : Prop where
  pos : 1 ≤ best
  left : best ∣ p - 1
  one : pwm p s best = 1
  least : ∀ d, 1 ≤ d → d ∣ p - 1 → pwm p s d = 1 → (d < i ∨ (p - 1) / d < i) → best ≤ d

theorem DI.start {p s : Nat} (hp : Prime p) (h0 : 0 < s) (hs : s < p) : DI p s 1 (p - 1) := by
  have h2 := hp.1
  refine ⟨by omega, Nat.dvd_refl _, pwm_fermat hp h0 hs, fun d hd hdv _ h => ?_⟩
  have := dvd_div_pos (by omega) hdv
  omega

theorem DI.skip {p s i best : Nat} (_hi : 1 ≤ i) (_hp : 2 ≤ p) (h : DI p s i best) (hn : ¬ i ∣ p - 1) : DI p s (i + 1) best := by
  refine ⟨h.pos, h.left, h.one, fun d hd hdv hone hlt => h.least d hd hdv hone ?_⟩
  have h1 : d ≠ i := by rintro rfl; exact hn hdv
  have h2 : (p - 1) / d ≠ i := by
    intro he
    apply hn
    rw [← he]; exact Nat.div_dvd_of_dvd hdv
  omega

theorem div_div_self' {n d i : Nat} (hn : 1 ≤ n) (hd : d ∣ n) (h : n / d = i) : d = n / i := by
  obtain ⟨c, rfl⟩ := hd
  have hd0 : 0 < d := by rcases Nat.eq_zero_or_pos d with g | g; (subst g; simp at hn); exact g
  rw [Nat.mul_div_cancel_left c hd0] at h
  subst h
  have hc0 : 0 < c := by rcases Nat.eq_zero_or_pos c with g | g; (subst g; simp at hn); exact g
  rw [Nat.mul_div_cancel d hc0]

/-- one round: b1 behind the first look, b2 behind the second -/
theorem DI.step {p s i best b1 b2 : Nat} (hi : 1 ≤ i) (hp : 2 ≤ p) (h : DI p s i best) (hd : i ∣ p - 1)
    (h1 : b1 = if pwm p s i = 1 ∧ i < best then i else best) (h2 : b2 = if pwm p s ((p - 1) / i) = 1 ∧ (p - 1) / i < b1 then (p - 1) / i else b1) : DI p s (i + 1) b2 := by
  have hk := dvd_div_pos (by omega) hd
  have hkd : (p - 1) / i ∣ p - 1 := Nat.div_dvd_of_dvd hd
  have q1 : 1 ≤ b1 ∧ b1 ∣ p - 1 ∧ pwm p s b1 = 1 ∧ b1 ≤ best ∧ (pwm p s i = 1 → b1 ≤ i) := by
    subst h1
    split
    · rename_i g; exact ⟨hi, hd, g.1, by omega, fun _ => Nat.le_refl _⟩
    · rename_i g; exact ⟨h.pos, h.left, h.one, Nat.le_refl _, fun ho => by
        rcases Nat.lt_or_ge i best with l | l
        · exact absurd ⟨ho, l⟩ g
        · exact l⟩
  obtain ⟨a1, a2, a3, a4, a5⟩ := q1
  have q2 : 1 ≤ b2 ∧ b2 ∣ p - 1 ∧ pwm p s b2 = 1 ∧ b2 ≤ b1 ∧ (pwm p s ((p - 1) / i) = 1 → b2 ≤ (p - 1) / i) := by
    subst h2
    split
    · rename_i g; exact ⟨hk, hkd, g.1, by omega, fun _ => Nat.le_refl _⟩
    · rename_i g; exact ⟨a1, a2, a3, Nat.le_refl _, fun ho => by
        rcases Nat.lt_or_ge ((p - 1) / i) b1 with l | l
        · exact absurd ⟨ho, l⟩ g
        · exact l⟩
  obtain ⟨c1, c2, c3, c4, c5⟩ := q2
  refine ⟨c1, c2, c3, fun d hd1 hdv hone hlt => ?_⟩
  by_cases hdi : d = i
  · subst hdi; have := a5 hone; omega
  · by_cases hki : (p - 1) / d = i
    · have := div_div_self' (by omega) hdv hki
      subst this
      exact c5 hone
    · have := h.least d hd1 hdv hone (by omega)
      omega

theorem DI.done {p s i best : Nat} (_hp : 2 ≤ p) (_hi : 1 ≤ i) (h : DI p s i best) (hii : p - 1 < i * i) : LeastDiv p s best := by
  refine ⟨h.pos, h.left, h.one, fun d hd hdv hone => h.least d hd hdv hone ?_⟩
  rcases Nat.lt_or_ge d i with g | g
  · exact Or.inl g
  · right
    rcases Nat.lt_or_ge ((p - 1) / d) i with l | l
    · exact l
    · have h1 : i * i ≤ d * ((p - 1) / d) := Nat.mul_le_mul g l
      rw [Nat.mul_div_cancel' hdv] at h1
      omega

end Go.Proofs.YtidkhgplejglaacDoor.Num
