/- Plain facts on squares modulo a prime: there is an element that is no square, and how a root is found (Tonelli and Shanks): of no program. -/
import Derived.Test.YtdcpahiljchehaaDoorNumB
namespace Go.Proofs.YtdcpahiljchehaaDoor.Num

/-- differences -/
def D : Nat → (Int → Int) → Int → Int
  | 0, f, x => f x
  | n + 1, f, x => D n f (x + 1) - D n f x

theorem D_mul (g : Int → Int) : ∀ (n : Nat) (x : Int), D (n + 1) (fun y => y * g y) x = x * D (n + 1) g x + ((n : Int) + 1) * D n g (x + 1)
  | 0, x => by simp only [D]; grind
  | n + 1, x => by
    have h1 := D_mul g n (x + 1)
    have h2 := D_mul g n x
    have e : D (n + 1 + 1) (fun y => y * g y) x = D (n + 1) (fun y => y * g y) (x + 1) - D (n + 1) (fun y => y * g y) x := rfl
    rw [e, h1, h2]
    have e1 : D (n + 1 + 1) g x = D (n + 1) g (x + 1) - D (n + 1) g x := rfl
    have e2 : D (n + 1) g (x + 1) = D n g (x + 1 + 1) - D n g (x + 1) := rfl
    rw [e1, e2]
    have e3 : D (n + 1) g x = D n g (x + 1) - D n g x := rfl
    rw [e3]
    push_cast
    grind

def fac : Nat → Nat
  | 0 => 1
  | n + 1 => (n + 1) * fac n

theorem D_pow : ∀ (m : Nat), (∀ x, D m (fun y => y ^ m) x = fac m) ∧ (∀ x, D (m + 1) (fun y => y ^ m) x = 0)
  | 0 => ⟨fun x => by simp [D, fac], fun x => by simp [D]⟩
  | m + 1 => by
    obtain ⟨h1, h2⟩ := D_pow m
    have ef : (fun y : Int => y ^ (m + 1)) = fun y => y * y ^ m := by funext y; rw [Int.pow_succ, Int.mul_comm]
    have h3 : ∀ x, D (m + 1) (fun y => y ^ (m + 1)) x = fac (m + 1) := by
      intro x
      rw [ef, D_mul (fun y => y ^ m) m x, h1, h2]
      simp [fac]
    refine ⟨h3, fun x => ?_⟩
    show D (m + 1) (fun y => y ^ (m + 1)) (x + 1) - D (m + 1) (fun y => y ^ (m + 1)) x = 0
    rw [h3, h3]; omega

/-- what is 1 everywhere has differences that p divides -/
theorem D_const {p : Int} {f : Int → Int} {m : Nat} (h : ∀ x : Int, 1 ≤ x → x ≤ m + 1 → p ∣ f x - 1) :
    ∀ (n : Nat) (x : Int), 1 ≤ x → x + n + 1 ≤ m + 1 → p ∣ D (n + 1) f x
  | 0, x, h1, h2 => by
    have a := h (x + 1) (by omega) (by omega)
    have b := h x h1 (by omega)
    have := Int.dvd_sub a b
    rw [show f (x + 1) - 1 - (f x - 1) = D (0 + 1) f x from by simp only [D]; omega] at this
    exact this
  | n + 1, x, h1, h2 => Int.dvd_sub (D_const h n (x + 1) (by omega) (by omega)) (D_const h n x h1 (by omega))

theorem not_dvd_fac {p : Nat} (hp : Prime p) : ∀ m, m < p → ¬ p ∣ fac m
  | 0, _, h => by have := Nat.le_of_dvd (by simp [fac]) h; have := hp.1; simp [fac] at *; omega
  | m + 1, hm, h => by
    rcases euclid hp h with g | g
    · have := Nat.le_of_dvd (by omega) g; omega
    · exact not_dvd_fac hp m (by omega) g

theorem exists_nonres {p m : Nat} (hp : Prime p) (hm1 : 1 ≤ m) (hm : m + 1 < p) : ∃ z, 1 ≤ z ∧ z < p ∧ pwm p z m ≠ 1 := by
  apply Classical.byContradiction
  intro hno
  have hall : ∀ z, 1 ≤ z → z < p → pwm p z m = 1 := by
    intro z h1 h2
    apply Classical.byContradiction
    intro h
    exact hno ⟨z, h1, h2, h⟩
  obtain ⟨n, rfl⟩ : ∃ n, m = n + 1 := ⟨m - 1, by omega⟩
  have hd := D_const (p := (p : Int)) (f := fun y => y ^ (n + 1)) (m := n + 1) (fun x h1 h2 => by
    obtain ⟨z, rfl⟩ := Int.eq_ofNat_of_zero_le (show 0 ≤ x by omega)
    have h := hall z (by omega) (by omega)
    unfold pwm at h
    have : ((z ^ (n + 1) : Nat) : Int) % (p : Int) = 1 := by
      rw [← Int.natCast_emod, h]; rfl
    apply Int.dvd_of_emod_eq_zero
    rw [show ((z : Int)) ^ (n + 1) = ((z ^ (n + 1) : Nat) : Int) from by simp, Int.sub_emod, this]
    have := hp.1
    rw [show (1 : Int) % (p : Int) = 1 from Int.emod_eq_of_lt (by omega) (by omega)]
    simp) n 1 (by omega) (by omega)
  rw [(D_pow (n + 1)).1 1] at hd
  exact not_dvd_fac hp (n + 1) (by omega) (Int.ofNat_dvd.1 hd)

theorem mul_mod_eq {p x : Nat} (hp : Prime p) (hx : x < p) (h : x * x % p = 1) : x = 1 ∨ x = p - 1 := by
  have h2 := hp.1
  have hx0 : x ≠ 0 := by rintro rfl; simp at h
  have hd : p ∣ (x + 1) * (x - 1) := by
    have e : (x + 1) * (x - 1) = x * x - 1 := by
      obtain ⟨y, rfl⟩ : ∃ y, x = y + 1 := ⟨x - 1, by omega⟩
      rw [Nat.add_sub_cancel]
      have : (y + 1) * (y + 1) = (y + 1 + 1) * y + 1 := by grind
      omega
    rw [e]
    exact Nat.dvd_of_mod_eq_zero (Nat.sub_mod_eq_zero_of_mod_eq (by rw [h, Nat.mod_eq_of_lt (by omega)]))
  rcases euclid hp hd with g | g
  · have := Nat.le_of_dvd (by omega) g; omega
  · rcases Nat.eq_zero_or_pos (x - 1) with l | l
    · omega
    · have := Nat.le_of_dvd l g; omega

theorem neg_one_sq {p : Nat} (h : 2 ≤ p) : (p - 1) * (p - 1) % p = 1 := by
  obtain ⟨q, rfl⟩ : ∃ q, p = q + 2 := ⟨p - 2, by omega⟩
  have e : (q + 2 - 1) * (q + 2 - 1) = 1 + (q + 2) * q := by
    rw [show q + 2 - 1 = q + 1 from by omega]; grind
  rw [e, Nat.add_mul_mod_self_left, Nat.mod_eq_of_lt (by omega)]

/-- half of p - 1 factors make 1, or p - 1 -/
theorem euler_two {p z m : Nat} (hp : Prime p) (hm : m + m = p - 1) (h1 : 1 ≤ z) (h2 : z < p) : pwm p z m = 1 ∨ pwm p z m = p - 1 := by
  refine mul_mod_eq hp (pwm_lt _ _ _ (by omega)) ?_
  rw [pwm_add, hm, pwm_fermat hp h1 h2]

theorem pwm_mul_left (p x y n : Nat) : pwm p (x * y % p) n = pwm p x n * pwm p y n % p := by
  unfold pwm; rw [← Nat.pow_mod, Nat.mul_pow, Nat.mul_mod]

theorem pwm_two (p x : Nat) : pwm p x 2 = x * x % p := by unfold pwm; rw [show x ^ 2 = x * x from by rw [Nat.pow_succ, Nat.pow_one]]

/-- what is known while a root of a is sought -/
structure TI (p a k root rest step : Nat) : Prop where
  lroot : root < p
  lrest : rest < p
  lstep : step < p
  sq : root * root % p = a * rest % p
  one : pwm p rest (2 ^ k) = 1
  neg : pwm p step (2 ^ k) = p - 1

theorem TI.next {p a k root rest step : Nat} (h : TI p a (k + 1) root rest step) : pwm p (step * step % p) (2 ^ k) = p - 1 := by
  rw [← pwm_two, pwm_mul, show 2 * 2 ^ k = 2 ^ (k + 1) from by rw [Nat.pow_succ]; omega]
  exact h.neg

theorem TI.stay {p a k root rest step : Nat} (h2 : 2 ≤ p) (h : TI p a (k + 1) root rest step) (h1 : pwm p rest (2 ^ k) = 1) : TI p a k root rest (step * step % p) :=
  ⟨h.lroot, h.lrest, Nat.mod_lt _ (by omega), h.sq, h1, h.next⟩

theorem TI.turn {p a k root rest step : Nat} (hp : Prime p) (h : TI p a (k + 1) root rest step) (h1 : pwm p rest (2 ^ k) ≠ 1) :
    TI p a k (root * step % p) (rest * (step * step % p) % p) (step * step % p) := by
  have h2 := hp.1
  refine ⟨Nat.mod_lt _ (by omega), Nat.mod_lt _ (by omega), Nat.mod_lt _ (by omega), ?_, ?_, h.next⟩
  · rw [← Nat.mul_mod, Nat.mul_mod_mod, show root * step * (root * step) = (root * root) * (step * step) from by grind, Nat.mul_mod, h.sq, Nat.mul_mod_mod, Nat.mod_mul_mod, show a * (rest * (step * step % p)) = a * rest * (step * step % p) from by rw [Nat.mul_assoc], Nat.mul_mod_mod]
  · have hh : pwm p rest (2 ^ k) = p - 1 := by
      rcases mul_mod_eq hp (pwm_lt p rest (2 ^ k) (by omega)) (by rw [pwm_add, show 2 ^ k + 2 ^ k = 2 ^ (k + 1) from by rw [Nat.pow_succ]; omega]; exact h.one) with g | g
      · exact absurd g h1
      · exact g
    rw [pwm_mul_left, hh, h.next]
    exact neg_one_sq h2

theorem TI.done {p a root rest step : Nat} (ha : a < p) (h : TI p a 0 root rest step) : root * root % p = a := by
  have h1 := h.one
  rw [Nat.pow_zero, pwm_one p rest h.lrest] at h1
  rw [h.sq, h1, Nat.mul_one, Nat.mod_eq_of_lt ha]

theorem TI.start {p a z S m : Nat} (hp : Prime p) (hS : p - 1 = 2 ^ (S + 1) * (2 * m + 1)) (ha2 : a < p) (hz1 : 1 ≤ z) (hz2 : z < p)
    (ha : pwm p a ((p - 1) / 2) = 1) (hz : pwm p z ((p - 1) / 2) ≠ 1) :
    TI p a S (pwm p a (m + 1)) (pwm p a (2 * m + 1)) (pwm p z (2 * m + 1)) := by
  have h2 := hp.1
  have hhalf : (p - 1) / 2 = (2 * m + 1) * 2 ^ S := by
    rw [hS, Nat.pow_succ, show 2 ^ S * 2 * (2 * m + 1) = 2 * ((2 * m + 1) * 2 ^ S) from by grind, Nat.mul_div_cancel_left _ (by omega)]
  have hhalf2 : (p - 1) / 2 + (p - 1) / 2 = p - 1 := by
    have : p - 1 = 2 * ((2 * m + 1) * 2 ^ S) := by rw [hS, Nat.pow_succ]; grind
    omega
  refine ⟨pwm_lt _ _ _ (by omega), pwm_lt _ _ _ (by omega), pwm_lt _ _ _ (by omega), ?_, ?_, ?_⟩
  · rw [pwm_add, show m + 1 + (m + 1) = 1 + (2 * m + 1) from by omega, ← pwm_add, pwm_one p a ha2]
  · rw [pwm_mul, ← hhalf]; exact ha
  · rw [pwm_mul, ← hhalf]
    rcases euler_two hp hhalf2 hz1 hz2 with g | g
    · exact absurd g hz
    · exact g

end Go.Proofs.YtdcpahiljchehaaDoor.Num
