/- Plain facts on the transform by halves, of no program: what halves make of a list; a list that is wrapped round a circle; points. -/
import Derived.Test.YtidkhgplejglaacDoorDom
namespace Go.Proofs.YtidkhgplejglaacDoor.Dom
open Pol

theorem pow_congr {p : Nat} {x y : Int} (h : (p : Int) ∣ x - y) (k : Nat) : (p : Int) ∣ x ^ k - y ^ k := by
  induction k with
  | zero => simp
  | succ k ih =>
    obtain ⟨a, ha⟩ := ih
    obtain ⟨b, hb⟩ := h
    exact ⟨a * x + y ^ k * b, by rw [Int.pow_succ, Int.pow_succ, show x ^ k * x - y ^ k * y = (x ^ k - y ^ k) * x + y ^ k * (x - y) from by grind, ha, hb]; grind⟩

theorem Ord.congr {p : Nat} {w v : Int} {n : Nat} (h : Ord p w n) (e : (p : Int) ∣ w - v) : Ord p v n := by
  refine ⟨h.pos, ?_, fun k h1 h2 hd => h.no k h1 h2 ?_⟩
  · have := Int.dvd_sub h.one (pow_congr e n)
    rwa [show w ^ n - 1 - (w ^ n - v ^ n) = v ^ n - 1 from by omega] at this
  · have := Int.dvd_add hd (pow_congr e k)
    rwa [show v ^ k - 1 + (w ^ k - v ^ k) = w ^ k - 1 from by omega] at this

theorem Ord.inv {p : Nat} {w v : Int} {n : Nat} (h : Ord p w n) (hv : (p : Int) ∣ v * w - 1) : Ord p v n := by
  refine ⟨h.pos, ?_, fun k h1 h2 hd => h.no k h1 h2 ?_⟩
  · obtain ⟨a, ha⟩ := mul_one_pow hv n
    obtain ⟨b, hb⟩ := h.one
    exact ⟨a - v ^ n * b, by grind⟩
  · obtain ⟨a, ha⟩ := mul_one_pow hv k
    obtain ⟨b, hb⟩ := hd
    exact ⟨a - w ^ k * b, by grind⟩

theorem Ord.sqm {p : Nat} {w : Int} {m : Nat} (h : Ord p w (2 * m)) : Ord p (w * w % (p : Int)) m :=
  h.square.congr (by have := Int.dvd_neg.2 (emod_dvd p (w * w)); rwa [Int.neg_sub] at this)

/-- what halves make of a list of n -/
def ft (p : Nat) (f : S) (r : Int) (n j : Nat) : Int := if n = 1 then f j else ps f (r ^ j) n % (p : Int)

theorem ft_congr {p : Nat} (f : S) (r : Int) {n j : Nat} (hj : j < n) : (p : Int) ∣ ft p f r n j - ps f (r ^ j) n := by
  unfold ft
  split
  · next h =>
    subst h
    obtain rfl : j = 0 := by omega
    simp [ps]
  · exact emod_dvd p _

theorem ft_bounds {p : Nat} (hp : 0 < p) (f : S) (r : Int) {n : Nat} (hn : n ≠ 1) (j : Nat) : 0 ≤ ft p f r n j ∧ ft p f r n j < p := by
  unfold ft
  rw [if_neg hn]
  exact ⟨Int.emod_nonneg _ (by omega), Int.emod_lt_of_pos _ (by omega)⟩

theorem ft_one (p : Nat) (f : S) (r : Int) (j : Nat) : ft p f r 1 j = f j := by simp [ft]

theorem ft_halves {p : Nat} (f : S) (r : Int) {m i : Nat} (hi : i < m) :
    (p : Int) ∣ ps (ev f) (r ^ i * r ^ i) m - ft p (ev f) (r * r % (p : Int)) m i ∧ (p : Int) ∣ ps (od f) (r ^ i * r ^ i) m - ft p (od f) (r * r % (p : Int)) m i := by
  have h1 : (p : Int) ∣ r ^ i * r ^ i - (r * r % (p : Int)) ^ i := by
    have := pow_congr (x := r * r) (y := r * r % (p : Int)) (p := p) (by have := Int.dvd_neg.2 (emod_dvd p (r * r)); rwa [Int.neg_sub] at this) i
    rwa [Int.mul_pow] at this
  have key : ∀ g : S, (p : Int) ∣ ps g (r ^ i * r ^ i) m - ft p g (r * r % (p : Int)) m i := fun g => by
    have := Int.dvd_sub (ps_point g h1 m) (ft_congr (p := p) g (r * r % (p : Int)) hi)
    rwa [show ps g (r ^ i * r ^ i) m - ps g ((r * r % (p : Int)) ^ i) m - (ft p g (r * r % (p : Int)) m i - ps g ((r * r % (p : Int)) ^ i) m) = ps g (r ^ i * r ^ i) m - ft p g (r * r % (p : Int)) m i from by omega] at this
  exact ⟨key _, key _⟩

theorem ft_low {p : Nat} (hp : 0 < p) (f : S) (r : Int) {m i : Nat} (hi : i < m) :
    (ft p (ev f) (r * r % (p : Int)) m i + (r ^ i % (p : Int)) * ft p (od f) (r * r % (p : Int)) m i % (p : Int)) % (p : Int) = ft p f r (2 * m) i := by
  obtain ⟨⟨a, ha⟩, ⟨b, hb⟩⟩ := ft_halves (p := p) f r hi
  rw [show ft p f r (2 * m) i = ps f (r ^ i) (2 * m) % (p : Int) from by unfold ft; rw [if_neg (by omega)], emod_eq_iff hp, ps_halves]
  obtain ⟨c, hc⟩ := emod_dvd p ((r ^ i % (p : Int)) * ft p (od f) (r * r % (p : Int)) m i)
  obtain ⟨d, hd⟩ := emod_dvd p (r ^ i)
  generalize (r ^ i % (p : Int)) * ft p (od f) (r * r % (p : Int)) m i % (p : Int) = U at *
  generalize ft p (od f) (r * r % (p : Int)) m i = V at *
  generalize ft p (ev f) (r * r % (p : Int)) m i = T at *
  generalize ps (ev f) (r ^ i * r ^ i) m = A at *
  generalize ps (od f) (r ^ i * r ^ i) m = B at *
  generalize r ^ i % (p : Int) = y at *
  generalize r ^ i = x at *
  refine ⟨c + d * V - a - x * b, ?_⟩
  have h1 : A = T + p * a := by omega
  have h2 : B = V + p * b := by omega
  have h3 : U = y * V + p * c := by omega
  have h4 : y = x + p * d := by omega
  rw [h1, h2, h3, h4]
  grind

theorem ft_high {p : Nat} (hp : Num.Prime p) (f : S) {r : Int} {m : Nat} (h : Ord p r (2 * m)) {i : Nat} (hi : i < m) :
    (ft p (ev f) (r * r % (p : Int)) m i - (r ^ i % (p : Int)) * ft p (od f) (r * r % (p : Int)) m i % (p : Int)) % (p : Int) = ft p f r (2 * m) (m + i) := by
  have hp2 := hp.1
  obtain ⟨⟨a, ha⟩, ⟨b, hb⟩⟩ := ft_halves (p := p) f r hi
  have hn : (p : Int) ∣ r ^ (m + i) + r ^ i := by
    obtain ⟨k, hk⟩ := h.half hp
    exact ⟨k * r ^ i, by rw [Int.pow_add, show r ^ m * r ^ i + r ^ i = (r ^ m + 1) * r ^ i from by grind, hk]; grind⟩
  obtain ⟨z, hz⟩ := ps_neg f hn m
  rw [show ft p f r (2 * m) (m + i) = ps f (r ^ (m + i)) (2 * m) % (p : Int) from by unfold ft; rw [if_neg (by omega)], emod_eq_iff (by omega)]
  obtain ⟨c, hc⟩ := emod_dvd p ((r ^ i % (p : Int)) * ft p (od f) (r * r % (p : Int)) m i)
  obtain ⟨d, hd⟩ := emod_dvd p (r ^ i)
  generalize (r ^ i % (p : Int)) * ft p (od f) (r * r % (p : Int)) m i % (p : Int) = U at *
  generalize ft p (od f) (r * r % (p : Int)) m i = V at *
  generalize ft p (ev f) (r * r % (p : Int)) m i = T at *
  generalize ps (ev f) (r ^ i * r ^ i) m = A at *
  generalize ps (od f) (r ^ i * r ^ i) m = B at *
  generalize ps f (r ^ (m + i)) (2 * m) = Q at *
  generalize r ^ i % (p : Int) = y at *
  generalize r ^ i = x at *
  refine ⟨x * b - c - d * V - a - z, ?_⟩
  have h1 : A = T + p * a := by omega
  have h2 : B = V + p * b := by omega
  have h3 : U = y * V + p * c := by omega
  have h4 : y = x + p * d := by omega
  have h5 : Q = A - x * B + p * z := by omega
  rw [h5, h1, h2, h3, h4]
  grind

/-! ## round a circle -/
def wrp (a : S) (s : Int) (n : Nat) : Nat → S
  | 0 => zero
  | k + 1 => fun t => if t = k % n then wrp a s n k t + a k * s ^ k else wrp a s n k t

theorem ps_one_more (f : S) (c y : Int) (i n : Nat) : ps (fun t => if t = i then f t + c else f t) y n = ps f y n + (if i < n then c * y ^ i else 0) := by
  induction n with
  | zero => simp [ps]
  | succ n ih =>
    rw [ps, ps, ih]
    by_cases h : n = i
    · subst h
      rw [if_pos rfl, if_neg (by omega), if_pos (by omega)]; grind
    · rw [if_neg h]
      by_cases h2 : i < n
      · rw [if_pos h2, if_pos (by omega)]; omega
      · rw [if_neg h2, if_neg (by omega)]; omega

theorem pow_mod_n {p : Nat} {y : Int} {n : Nat} (hy : (p : Int) ∣ y ^ n - 1) (k : Nat) : (p : Int) ∣ y ^ (k % n) - y ^ k := by
  obtain ⟨a, ha⟩ := pow_dvd_one hy (k / n)
  have e : y ^ k = y ^ (k % n) * (y ^ n) ^ (k / n) := by
    rw [← Int.pow_mul, ← Int.pow_add, Nat.mod_add_div]
  exact ⟨-(y ^ (k % n) * a), by rw [e]; grind⟩

theorem wrp_ps {p : Nat} (a : S) (s y : Int) {n : Nat} (hn : 0 < n) (hy : (p : Int) ∣ y ^ n - 1) (k : Nat) : (p : Int) ∣ ps (wrp a s n k) y n - ps a (s * y) k := by
  induction k with
  | zero => simp only [wrp, ps_zero, ps]; exact Int.dvd_zero _
  | succ k ih =>
    have e := ps_one_more (wrp a s n k) (a k * s ^ k) y (k % n) n
    rw [if_pos (Nat.mod_lt _ hn)] at e
    rw [wrp, e, ps, Int.mul_pow]
    obtain ⟨b, hb⟩ := ih
    obtain ⟨c, hc⟩ := pow_mod_n hy k
    exact ⟨b + a k * s ^ k * c, by
      have h1 : y ^ (k % n) = y ^ k + p * c := by omega
      have h2 : ps (wrp a s n k) y n = ps a (s * y) k + p * b := by omega
      rw [h1, h2]; grind⟩

theorem Ord.pow_one {p : Nat} {r : Int} {n : Nat} (h : Ord p r n) (j : Nat) : (p : Int) ∣ (r ^ j) ^ n - 1 := by
  rw [← Int.pow_mul, Nat.mul_comm, Int.pow_mul]; exact pow_dvd_one h.one j

/-- the values of a polynomial at s r^j, by way of what is wrapped -/
theorem wrp_values {p : Nat} (hp : 0 < p) (a : S) (s : Int) {r : Int} {n : Nat} (h : Ord p r n) (N : Nat) {j : Nat} (hj : j < n) :
    ft p (fun t => wrp a s n N t % (p : Int)) r n j = ps a (s * r ^ j) N % (p : Int) := by
  have h1 := ft_congr (p := p) (fun t => wrp a s n N t % (p : Int)) r hj
  have h2 := ps_congr (p := p) (f := fun t => wrp a s n N t % (p : Int)) (g := wrp a s n N) (r ^ j) n (fun t _ => emod_dvd p _)
  have h3 := wrp_ps (p := p) a s (r ^ j) h.pos (h.pow_one j) N
  have h4 := Int.dvd_add (Int.dvd_add h1 h2) h3
  have hb : 0 ≤ ft p (fun t => wrp a s n N t % (p : Int)) r n j ∧ ft p (fun t => wrp a s n N t % (p : Int)) r n j < p := by
    by_cases e : n = 1
    · subst e
      rw [ft_one]
      exact ⟨Int.emod_nonneg _ (by omega), Int.emod_lt_of_pos _ (by omega)⟩
    · exact ft_bounds hp _ r e j
  have h5 := emod_dvd p (ps a (s * r ^ j) N)
  refine eq_of_dvd (p := p) ?_ hb.1 hb.2 (Int.emod_nonneg _ (by omega)) (Int.emod_lt_of_pos _ (by omega))
  have h6 := Int.dvd_sub h4 h5
  generalize ft p (fun t => wrp a s n N t % (p : Int)) r n j = A at *
  generalize ps (fun t => wrp a s n N t % (p : Int)) (r ^ j) n = B at *
  generalize ps (wrp a s n N) (r ^ j) n = C at *
  generalize ps a (s * r ^ j) N % (p : Int) = E at *
  generalize ps a (s * r ^ j) N = D at *
  rwa [show A - B + (B - C) + (C - D) - (E - D) = A - E from by omega] at h6

theorem wrp_mod (p : Nat) (a : S) (s : Int) (n k : Nat) : ((wrp a s n k (k % n) % (p : Int)) + a k * (s ^ k % (p : Int)) % (p : Int)) % (p : Int) = wrp a s n (k + 1) (k % n) % (p : Int) := by
  show _ = (if k % n = k % n then wrp a s n k (k % n) + a k * s ^ k else wrp a s n k (k % n)) % (p : Int)
  rw [if_pos rfl, Int.mul_emod (a k), Int.emod_emod_of_dvd _ (Int.dvd_refl _), ← Int.mul_emod, Int.add_emod, Int.emod_emod_of_dvd _ (Int.dvd_refl _), Int.emod_emod_of_dvd _ (Int.dvd_refl _), ← Int.add_emod]

/-! ## points -/
def pt (p : Nat) (s r : Int) (i : Nat) : Int := s * r ^ i % (p : Int)
theorem pt_zero {p : Nat} {s : Int} (r : Int) (h0 : 0 ≤ s) (h1 : s < p) : pt p s r 0 = s := by
  unfold pt; rw [Int.pow_zero, Int.mul_one]; exact Int.emod_eq_of_lt h0 h1
theorem pt_succ (p : Nat) (s r : Int) (i : Nat) : pt p s r i * r % (p : Int) = pt p s r (i + 1) := by
  unfold pt
  rw [Int.pow_succ, Int.mul_emod, Int.emod_emod_of_dvd _ (Int.dvd_refl _), ← Int.mul_emod]
  congr 1; grind
theorem pt_mul (p : Nat) (s r : Int) (i : Nat) : s * (r ^ i % (p : Int)) % (p : Int) = pt p s r i := by
  unfold pt
  rw [Int.mul_emod s (r ^ i % (p : Int)), Int.emod_emod_of_dvd _ (Int.dvd_refl _), ← Int.mul_emod]

/-- the coefficients of what has these values: congruent to what the way back asks -/
theorem back_coef {p : Nat} (val : S) (v m t : Int) {n j : Nat} (hj : j < n) (sc : Int) (hsc : sc = m * t ^ j % (p : Int)) :
    (p : Int) ∣ ft p val v n j * sc % (p : Int) - m * t ^ j * sm (fun k => val k * (v ^ j) ^ k) n := by
  obtain ⟨a, ha⟩ := ft_congr (p := p) val v hj
  rw [ps_sm] at ha
  obtain ⟨b, hb⟩ := emod_dvd p (ft p val v n j * sc)
  obtain ⟨c, hc⟩ := emod_dvd p (m * t ^ j)
  rw [← hsc] at hc
  generalize ft p val v n j * sc % (p : Int) = U at *
  generalize ft p val v n j = F at *
  generalize sm (fun k => val k * (v ^ j) ^ k) n = T at *
  generalize m * t ^ j = M at *
  refine ⟨b + a * sc + T * c, ?_⟩
  have h1 : U = F * sc + p * b := by omega
  have h2 : F = T + p * a := by omega
  have h3 : sc = M + p * c := by omega
  rw [h1, h2, h3]
  grind

end Go.Proofs.YtidkhgplejglaacDoor.Dom
