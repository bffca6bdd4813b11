/- Plain facts on numbers, of no program: modulo a prime there is an element of every order that divides p - 1; so there is one that makes all others. -/
import Derived.Test.YtidkhgplejglaacDoorNumB
import Derived.Test.YtidkhgplejglaacDoorDom
namespace Go.Proofs.YtidkhgplejglaacDoor.Num

theorem pwm_cast (p s e : Nat) : ((pwm p s e : Nat) : Int) = (s : Int) ^ e % (p : Int) := by unfold pwm; simp

theorem pwm_one_iff {p s e : Nat} (hp : 2 ≤ p) : pwm p s e = 1 ↔ (p : Int) ∣ (s : Int) ^ e - 1 := by
  rw [← Pol.emod_eq_iff (by omega), ← pwm_cast, Int.emod_eq_of_lt (by omega) (by omega)]
  omega

/-- some element is not 1 after m factors, where m is below p - 1 -/
theorem some_not_one {p m : Nat} (hp : Prime p) (h1 : 1 ≤ m) (h2 : m < p - 1) : ∃ a, 1 ≤ a ∧ a < p ∧ pwm p a m ≠ 1 := by
  refine Classical.byContradiction (fun hno => ?_)
  have hall : ∀ a, 1 ≤ a → a < p → pwm p a m = 1 := fun a ha hb => Classical.byContradiction (fun h => hno ⟨a, ha, hb, h⟩)
  have hp2 := hp.1
  let f : Pol.S := Pol.add (Pol.sh m Pol.one) (Pol.sc (-1) Pol.one)
  have hone : ∀ (x : Int) (n : Nat), Pol.ps Pol.one x (n + 1) = 1 := fun x n => by
    rw [Dom.ps_stay Pol.one x 1 (n + 1) (by omega) (fun j hj => by simp only [Pol.one]; rw [if_neg (by omega)])]
    simp [Pol.ps, Pol.one]
  have hval : ∀ x : Int, Pol.ps f x (m + 1) = x ^ m - 1 := fun x => by
    show Pol.ps (Pol.add (Pol.sh m Pol.one) (Pol.sc (-1) Pol.one)) x (m + 1) = _
    rw [Dom.ps_add, Dom.ps_sh, Dom.ps_sc, hone x m, hone x 0]; omega
  have hz := Pol.roots hp (m + 1) f (fun i => ((i + 1 : Nat) : Int)) (fun i j hij hj hd => by
      have := Int.le_of_dvd (by omega) hd
      omega) (fun i hi => by
      rw [hval]
      exact (pwm_one_iff hp2).1 (hall (i + 1) (by omega) (by omega))) m (by omega)
  have hm : f m = 1 := by
    show Pol.add (Pol.sh m Pol.one) (Pol.sc (-1) Pol.one) m = 1
    simp only [Pol.add, Pol.sh, Pol.sc, Pol.one]
    rw [if_neg (by omega), if_pos (by omega), if_neg (by omega)]; rfl
  rw [hm] at hz
  have := Int.le_of_dvd (by decide) hz
  omega

theorem pwm_prod (p a b t : Nat) : pwm p (a * b % p) t = pwm p a t * pwm p b t % p := by
  unfold pwm
  rw [← Nat.pow_mod, Nat.mul_pow, Nat.mul_mod]

/-- the product of two whose orders have no divisor in common -/
theorem ord_prod {p a b m n : Nat} (hp : 2 ≤ p) (ha : Ord p a m) (hb : Ord p b n) (hc : Nat.Coprime m n) (hd : m * n ∣ p - 1) : Ord p (a * b % p) (m * n) := by
  have hm := ha.1
  have hn := hb.1
  refine ⟨Nat.mul_pos hm hn, hd, ?_, fun q hq hqd h1 => ?_⟩
  · rw [pwm_prod, pwm_one_mul hp ha.2.2.1 n, Nat.mul_comm m n, pwm_one_mul hp hb.2.2.1 m]
    exact Nat.mod_eq_of_lt (by omega)
  · have hq2 := hq.1
    -- one of the two is divided
    have half : ∀ {x y u v : Nat}, Ord p x u → Ord p y v → Nat.Coprime u v → q ∣ u → pwm p (x * y % p) (u * v / q) = 1 → False := fun {x y u v} hx hy huv hqu h => by
      obtain ⟨c, rfl⟩ := hqu
      have hc0 : 0 < c := by
        rcases Nat.eq_zero_or_pos c with g | g
        · subst g; have := hx.1; omega
        · exact g
      rw [Nat.mul_assoc, Nat.mul_div_cancel_left _ (by omega)] at h
      have hy1 : pwm p y (c * v) = 1 := by rw [Nat.mul_comm]; exact pwm_one_mul hp hy.2.2.1 c
      rw [pwm_prod, hy1, Nat.mul_one] at h
      have hx1 : pwm p x (c * v) = 1 := by rw [Nat.mod_eq_of_lt (pwm_lt p x _ (by omega))] at h; exact h
      have hdv := ord_dvd hp hx hx1
      have hdc : q * c ∣ c := (Nat.Coprime.dvd_of_dvd_mul_right huv hdv)
      have := Nat.le_of_dvd hc0 hdc
      have h2c : 2 * c ≤ q * c := Nat.mul_le_mul_right c hq2
      omega
    rcases euclid hq hqd with g | g
    · exact half ha hb hc g h1
    · refine half hb ha hc.symm g ?_
      rw [Nat.mul_comm b a, Nat.mul_comm n m]; exact h1

/-- what q divides, without q -/
theorem split_prime (q : Nat) (hq : 2 ≤ q) : ∀ (b m : Nat), m ≤ b → 1 ≤ m → ∃ e k, m = q ^ e * k ∧ ¬ q ∣ k
  | 0, m, hb, h1 => by omega
  | b + 1, m, hb, h1 => by
    by_cases hd : q ∣ m
    · obtain ⟨c, rfl⟩ := hd
      have hc : 1 ≤ c := by
        rcases Nat.eq_zero_or_pos c with g | g
        · subst g; omega
        · exact g
      have h2c : 2 * c ≤ q * c := Nat.mul_le_mul_right c hq
      obtain ⟨e, k, hek, hk⟩ := split_prime q hq b c (by omega) hc
      exact ⟨e + 1, k, by rw [hek, Nat.pow_succ, Nat.mul_comm (q ^ e) q, Nat.mul_assoc], hk⟩
    · exact ⟨0, m, by simp, hd⟩

theorem prime_only {q r : Nat} (hq : Prime q) (hr : Prime r) (h : r ∣ q) : r = q := by
  rcases hq.2 r h with g | g
  · have := hr.1; omega
  · exact g

theorem prime_of_pow {q r : Nat} (hq : Prime q) (hr : Prime r) : ∀ e, r ∣ q ^ e → r = q
  | 0, h => by have := Nat.le_of_dvd (by simp) h; have := hr.1; simp at *; omega
  | e + 1, h => by
    rw [Nat.pow_succ] at h
    rcases euclid hr h with g | g
    · exact prime_of_pow hq hr e g
    · exact prime_only hq hr g

/-- there is an element of every order that divides p - 1 -/
theorem exists_ord {p : Nat} (hp : Prime p) (h3 : 3 ≤ p) : ∀ (b m : Nat), m ≤ b → 1 ≤ m → m ∣ p - 1 → ∃ g, 1 ≤ g ∧ g < p ∧ Ord p g m
  | 0, m, hb, h1, _ => by omega
  | b + 1, m, hb, h1, hd => by
    have hp2 := hp.1
    by_cases hm1 : m = 1
    · subst hm1
      refine ⟨1, by omega, by omega, by omega, hd, pwm_one_left p 1 hp2, fun q hq hqd => ?_⟩
      have := Nat.le_of_dvd (by omega) hqd
      have := hq.1
      omega
    · obtain ⟨q, hq, hqm⟩ := exists_prime_dvd m m (Nat.le_refl _) (by omega)
      have hq2 := hq.1
      obtain ⟨e, k, hek, hk⟩ := split_prime q hq2 m m (Nat.le_refl _) h1
      have he : 1 ≤ e := by
        rcases Nat.eq_zero_or_pos e with g | g
        · subst g; rw [Nat.pow_zero, Nat.one_mul] at hek; rw [hek] at hqm; exact absurd hqm hk
        · exact g
      have hk1 : 1 ≤ k := by
        rcases Nat.eq_zero_or_pos k with g | g
        · subst g; exact absurd (Nat.dvd_zero q) hk
        · exact g
      have hqe : 1 ≤ q ^ e := Nat.pos_of_ne_zero (by have := Nat.pow_pos (n := e) (show 0 < q by omega); omega)
      have hqe2 : 2 ≤ q ^ e := by
        obtain ⟨e', rfl⟩ : ∃ e', e = e' + 1 := ⟨e - 1, by omega⟩
        have hp' : 0 < q ^ e' := Nat.pow_pos (show 0 < q by omega)
        rw [Nat.pow_succ]
        have : 1 * 2 ≤ q ^ e' * q := Nat.mul_le_mul hp' hq2
        omega
      have hkm : k < m := by
        have : 2 * k ≤ q ^ e * k := Nat.mul_le_mul_right k hqe2
        omega
      have hkd : k ∣ p - 1 := Nat.dvd_trans ⟨q ^ e, by rw [hek, Nat.mul_comm]⟩ hd
      have hqd : q ^ e ∣ p - 1 := Nat.dvd_trans ⟨k, hek⟩ hd
      obtain ⟨g', hg1, hg2, hgo⟩ := exists_ord hp h3 b k (by omega) hk1 hkd
      -- one of the order q^e
      have hqp : q ∣ p - 1 := Nat.dvd_trans hqm hd
      obtain ⟨c, hc⟩ := hqd
      have hc0 : 0 < c := by
        rcases Nat.eq_zero_or_pos c with g | g
        · subst g; omega
        · exact g
      obtain ⟨e', rfl⟩ : ∃ e', e = e' + 1 := ⟨e - 1, by omega⟩
      have hdiv : (p - 1) / q = q ^ e' * c := by
        rw [hc, Nat.pow_succ, Nat.mul_comm (q ^ e') q, Nat.mul_assoc, Nat.mul_div_cancel_left _ (by omega)]
      have hlt : (p - 1) / q < p - 1 := Nat.div_lt_self (by omega) (by omega)
      obtain ⟨a, ha1, ha2, ha3⟩ := some_not_one hp (show 1 ≤ (p - 1) / q by rw [hdiv]; exact Nat.mul_pos (Nat.pow_pos (by omega)) hc0) hlt
      have hbo : Ord p (pwm p a c) (q ^ (e' + 1)) := by
        refine ⟨hqe, ⟨c, hc⟩, ?_, fun r hr hrd => ?_⟩
        · rw [pwm_mul, Nat.mul_comm, ← hc]; exact pwm_fermat hp ha1 ha2
        · obtain rfl := prime_of_pow hq hr _ hrd
          rw [pwm_mul, Nat.pow_succ, Nat.mul_div_cancel _ (by omega), Nat.mul_comm, ← hdiv]
          exact ha3
      have hcop : Nat.Coprime (q ^ (e' + 1)) k := by
        refine Nat.Coprime.pow_left _ ?_
        rcases hq.2 (Nat.gcd q k) (Nat.gcd_dvd_left q k) with g | g
        · exact g
        · exact absurd (g ▸ Nat.gcd_dvd_right q k) hk
      have ho := ord_prod hp2 hbo hgo hcop (by rw [← hek]; exact hd)
      refine ⟨pwm p a c * g' % p, ?_, Nat.mod_lt _ (by omega), by rw [hek]; exact ho⟩
      rcases Nat.eq_zero_or_pos (pwm p a c * g' % p) with g | g
      · exfalso
        have h1' := ho.2.2.1
        rw [g] at h1'
        unfold pwm at h1'
        have hpos : 0 < q ^ (e' + 1) * k := Nat.mul_pos hqe hk1
        rw [Nat.zero_pow hpos] at h1'
        simp at h1'
      · exact g

/-- there is one that makes all others -/
theorem exists_gen {p : Nat} (hp : Prime p) (h3 : 3 ≤ p) : ∃ g, 1 ≤ g ∧ g < p ∧ IsGen p g := by
  obtain ⟨g, h1, h2, h⟩ := exists_ord hp h3 (p - 1) (p - 1) (Nat.le_refl _) (by omega) (Nat.dvd_refl _)
  exact ⟨g, h1, h2, h.2.2.2⟩

theorem genIs_some {p g : Nat} (hp : Prime p) (h3 : 3 ≤ p) (h : GenIs p g) : 1 ≤ g ∧ g < p ∧ IsGen p g := by
  rcases h with h | ⟨_, h⟩
  · exact ⟨h.1, h.2.1, h.2.2.1⟩
  · obtain ⟨x, h1, h2, hx⟩ := exists_gen hp h3
    exact absurd hx (h x h1 h2)

/-- the order of what (p - 1) / n factors of such an element make, in the words of circles -/
theorem root_circle {p g n : Nat} (hp : Prime p) (h3 : 3 ≤ p) (h1 : 1 ≤ g) (h2 : g < p) (hg : IsGen p g) (hn : 1 ≤ n) (hd : n ∣ p - 1) : Dom.Ord p (pwm p g ((p - 1) / n) : Int) n := by
  have hp2 := hp.1
  obtain ⟨c, hc⟩ := hd
  rw [hc, Nat.mul_div_cancel_left c (by omega)]
  refine ⟨hn, (pwm_one_iff hp2).1 ?_, fun k hk0 hkn hk => ?_⟩
  · rw [pwm_mul, Nat.mul_comm, ← hc]; exact pwm_fermat hp h1 h2
  · have := (pwm_one_iff hp2).2 hk
    rw [pwm_mul] at this
    have hdv := ord_dvd hp2 (gen_ord hp h1 h2 hg) this
    rw [hc] at hdv
    have hc0 : 0 < c := by
      rcases Nat.eq_zero_or_pos c with g | g
      · subst g; omega
      · exact g
    have hle := Nat.le_of_dvd (Nat.mul_pos hc0 hk0) hdv
    rw [Nat.mul_comm n c] at hle
    have := Nat.le_of_mul_le_mul_left hle hc0
    omega

end Go.Proofs.YtidkhgplejglaacDoor.Num
