/- attestref8.used. attestref8.Table: a row of a step, set in the reference's order; the greatest cell. What the rules say of rows, plainly. The first rule that does not hold, and the first row in which it does not: plainly. What package attestref1 answers of polynomials: Scaled, Minus, Times, for every list. Plain facts on division with a rest, for lists modulo a prime: what the reference's rounds and the program's rounds keep; both end at the one quotient and the one rest. -/
import Derived.Test.YtdpdmgmeieijaaaGreatDoorSndAW
import Derived.Test.YtdpdmgmeieijaaaGreatDoorSndAX
import Derived.Test.YtdpdmgmeieijaaaGreatDoorSndAG
import Derived.Test.YtdpdmgmeieijaaaGreatDoorSndAR
import Derived.Test.YtdpdmgmeieijaaaGreatDoorTres
import Derived.Test.YtdpdmgmeieijaaaGreatDoorPls
namespace Go.Proofs.YtdpdmgmeieijaaaGreatDoor
open Go.RowKit

end Go.Proofs.YtdpdmgmeieijaaaGreatDoor

namespace Go.Proofs.YtdpdmgmeieijaaaGreatDoor
open Go.RowKit Go.Maps

/-- the greatest of numbers, or 0 -/
def TopOk (l : List Int) (t : Int) : Prop := 0 ≤ t ∧ (∀ a, a ∈ l → a ≤ t) ∧ (t = 0 ∨ t ∈ l)
theorem TopOk.keep {l : List Int} {t x : Int} (h : TopOk l t) (hx : ¬ t < x) : TopOk (l ++ [x]) t :=
  ⟨h.1, fun a ha => by
    rcases List.mem_append.1 ha with h1 | h1
    · exact h.2.1 a h1
    · rw [List.mem_singleton] at h1; omega, h.2.2.imp_right fun e => List.mem_append.2 (.inl e)⟩
theorem TopOk.up {l : List Int} {t x : Int} (h : TopOk l t) (hx : t < x) : TopOk (l ++ [x]) x :=
  ⟨by have := h.1; omega, fun a ha => by
    rcases List.mem_append.1 ha with h1 | h1
    · have := h.2.1 a h1; omega
    · rw [List.mem_singleton] at h1; omega, .inr (by simp)⟩
/-- the holes, as the reference finds them -/
theorem tho_filter {p : Nat} {L : List InsZ} {st : List (List Int)} {n : Nat} (h3 : 3 ≤ p) (hst : ∀ s, s ∈ st → StB p L.length s) (h0 : 0 < st.length) (hn : 0 < n) {t : Int} (ht : TopOk (allc (shns p L st n)) t) :
    tho p L st n = (gap 0 t).filter fun a => !decide (a ∈ allc (shns p L st n)) := by
  have hon := once_compact (allc (shns p L st n))
  have hb : ∀ a, a ∈ allc (shns p L st n) → 0 ≤ a := fun a ha => (allc_shns h3 hst h0 ha).1
  have hne : ∃ a, a ∈ allc (shns p L st n) := by
    have : 0 < (allc (shns p L st n)).length := by rw [allc_len, shns_len]; omega
    exact List.exists_mem_of_length_pos this
  obtain ⟨a0, ha0⟩ := hne
  have htm : t ∈ allc (shns p L st n) := by
    rcases ht.2.2 with e | e
    · have h1 := ht.2.1 a0 ha0
      have h2 := hb a0 ha0
      have : a0 = t := by omega
      rw [← this]; exact ha0
    · exact e
  have := hol_filter (ascC (shns p L st n)) 0 t hon.1 (fun a ha => hb a ((hon.2 a).1 ha)) (fun e => absurd ((hon.2 a0).2 ha0) (by show a0 ∉ ascC _; rw [e]; simp)) (fun a ha => ht.2.1 a ((hon.2 a).1 ha)) (fun _ => (hon.2 t).2 htm)
  show hol (ascC (shns p L st n)) 0 = _
  rw [this]
  apply List.filter_congr
  intro a _
  have : (a ∈ ascC (shns p L st n)) ↔ a ∈ allc (shns p L st n) := hon.2 a
  simp only [this]

end Go.Proofs.YtdpdmgmeieijaaaGreatDoor

namespace Go.Proofs.YtdpdmgmeieijaaaGreatDoor
open Go.RowKit Go.Maps

theorem em_add1 (a b : Int) (p : Nat) : (a % (p : Int) + b) % (p : Int) = (a + b) % (p : Int) := by rw [Int.add_emod, Int.emod_emod_of_dvd _ (Int.dvd_refl _), ← Int.add_emod]
theorem em_add2 (a b : Int) (p : Nat) : (a + b % (p : Int)) % (p : Int) = (a + b) % (p : Int) := by rw [Int.add_emod, Int.emod_emod_of_dvd b (Int.dvd_refl _), ← Int.add_emod]
theorem em_sub1 (a b : Int) (p : Nat) : (a % (p : Int) - b) % (p : Int) = (a - b) % (p : Int) := by rw [Int.sub_emod, Int.emod_emod_of_dvd _ (Int.dvd_refl _), ← Int.sub_emod]
theorem em_sub2 (a b : Int) (p : Nat) : (a - b % (p : Int)) % (p : Int) = (a - b) % (p : Int) := by rw [Int.sub_emod, Int.emod_emod_of_dvd b (Int.dvd_refl _), ← Int.sub_emod]
theorem em_mul1 (a b : Int) (p : Nat) : (a % (p : Int) * b) % (p : Int) = (a * b) % (p : Int) := by rw [Int.mul_emod, Int.emod_emod_of_dvd _ (Int.dvd_refl _), ← Int.mul_emod]
theorem em_mul2 (a b : Int) (p : Nat) : (a * (b % (p : Int))) % (p : Int) = (a * b) % (p : Int) := by rw [Int.mul_emod, Int.emod_emod_of_dvd b (Int.dvd_refl _), ← Int.mul_emod]

/-- the terms of an instruction: what it works, what more, what is next, the registers, whether it halts -/
def tvW (p : Nat) (r : List Int) (o : InsZ) : Int :=
  if o.op = 1 then (zat r 7 + zat r 8 - zat r 9) % (p : Int)
  else if o.op = 2 then (zat r 7 - zat r 8 - zat r 9) % (p : Int)
  else if o.op = 3 then (zat r 7 * zat r 8 - zat r 9) % (p : Int)
  else if o.op = 4 then (zat r 9 * zat r 8 - zat r 7) % (p : Int)
  else if o.op = 5 then (zat r 7 - o.b) % (p : Int)
  else if o.op = 6 then ((zat r 7 - zat r 8) * zat r 11 - (1 - zat r 9)) % (p : Int)
  else if o.op = 7 ∨ o.op = 13 then (zat r 7 - zat r 8) % (p : Int)
  else if o.op = 9 then (zat r 7 * (1 - zat r 11 * zat r 7)) % (p : Int)
  else if o.op = 10 then (zat r 7 - zat r 0) % (p : Int)
  else if o.op = 12 then (zat r 7 - zat r 2) % (p : Int)
  else if o.op = 0 ∨ o.op = 8 ∨ o.op = 11 then 0 else 1
def tvM (p : Nat) (r : List Int) (k : Nat) (o : InsZ) : Int :=
  if o.op = 4 then (zat r 11 * zat r 8 - 1) % (p : Int)
  else if o.op = 6 then (zat r 9 * (zat r 7 - zat r 8)) % (p : Int)
  else if o.op = 10 then (zat r 8 - ((k : Int) + 1)) % (p : Int) else 0
def tvN (p : Nat) (r : List Int) (k : Nat) (o : InsZ) : Int :=
  if o.op = 0 then (k : Int)
  else if o.op = 8 ∨ o.op = 10 then o.a
  else if o.op = 9 then ((1 - zat r 11 * zat r 7) * o.b + zat r 11 * zat r 7 * ((k : Int) + 1)) % (p : Int)
  else if o.op = 11 then zat r 8 else (k : Int) + 1
def tvF (p : Nat) (r : List Int) (o : InsZ) : Int := if o.op = 10 then (zat r 1 + 2) % (p : Int) else if o.op = 11 then zat r 7 else zat r 0
def tvA (p : Nat) (r : List Int) (o : InsZ) : Int := if o.op = 10 then (zat r 1 + 2 + o.b) % (p : Int) else zat r 1
def tvR (r : List Int) (o : InsZ) : Int := if o.op = 11 then zat r 9 else zat r 2
def tvH (o : InsZ) : Int := if o.op = 0 then 1 else 0
def tvC (p : Nat) (r : List Int) (j : Nat) (o : InsZ) : Int := cel3 p o.op o.a o.b o.c (zat r 0) (zat r 1) j
/-- a sum of terms, each times its s -/
def smz (p : Nat) (s f : Nat → Int) : Nat → Int
  | 0 => 0
  | k + 1 => (smz p s f k + s k * f k) % (p : Int)
theorem smz_bd {p : Nat} (h3 : 3 ≤ p) (s f : Nat → Int) : ∀ k, 0 ≤ smz p s f k ∧ smz p s f k < (p : Int)
  | 0 => ⟨(by show (0 : Int) ≤ 0; decide), (by show (0 : Int) < p; omega)⟩
  | k + 1 => emod_bounds _ p h3
/-- which s, which term: by the rule's number -/
def sel (r : List Int) (k : Nat) : Int := zat r (20 + k)
def smt (p : Nat) (L : List InsZ) (s : List Int) (f : Nat → InsZ → Int) : Int := smz p (sel s) (fun k => f k (insat L k)) L.length
theorem smt_bd {p : Nat} (h3 : 3 ≤ p) (L : List InsZ) (s : List Int) (f : Nat → InsZ → Int) : 0 ≤ smt p L s f ∧ smt p L s f < (p : Int) := smz_bd h3 _ _ _
/-- what two pairs behind one another say -/
def ord1 (p : Nat) (a b : Int) : Int := ((b - a) * (b - a - 1)) % (p : Int)
def ord2 (p : Nat) (a v b u : Int) : Int := ((b - a - 1) * (u - v)) % (p : Int)
/-- what the rules behind those of the choices say -/
def rl26 (p : Nat) (L : List InsZ) (size out : Int) (r n : List Int) : List Int :=
  [(smt p L r (fun _ _ => 1) - 1) % (p : Int),
   (zat r 3 - smt p L r (fun _ => tvC p r 0)) % (p : Int),
   (zat r 4 - smt p L r (fun _ => tvC p r 1)) % (p : Int),
   (zat r 5 - smt p L r (fun _ => tvC p r 2)) % (p : Int),
   smt p L r (fun _ => tvW p r),
   smt p L r (tvM p r),
   ord1 p (zat r 12) (zat r 13), ord2 p (zat r 12) (zat r 16) (zat r 13) (zat r 17),
   ord1 p (zat r 13) (zat r 14), ord2 p (zat r 13) (zat r 17) (zat r 14) (zat r 18),
   ord1 p (zat r 14) (zat r 15), ord2 p (zat r 14) (zat r 18) (zat r 15) (zat r 19),
   (smt p L n (fun k _ => (k : Int)) - smt p L r (tvN p r)) % (p : Int),
   (zat n 0 - smt p L r (fun _ => tvF p r)) % (p : Int),
   (zat n 1 - smt p L r (fun _ => tvA p r)) % (p : Int),
   (zat n 2 - smt p L r (fun _ => tvR r)) % (p : Int),
   ord1 p (zat r 15) (zat n 12), ord2 p (zat r 15) (zat r 19) (zat n 12) (zat n 16),
   (zat r 20 - 1) % (p : Int), (zat r 0 - 1) % (p : Int), (zat r 1 - 1 - size) % (p : Int), zat r 2 % (p : Int), zat r 12 % (p : Int), zat r 16 % (p : Int),
   (smt p L r (fun _ => tvH) - 1) % (p : Int), (zat r 7 - out) % (p : Int)]
/-- what the choice of an instruction says -/
def chz (p : Nat) (r : List Int) (k : Nat) : Int := (zat r (20 + k) * (zat r (20 + k) - 1)) % (p : Int)
/-- what all rules say of a row and the next -/
def rls (p : Nat) (L : List InsZ) (size out : Int) (r n : List Int) : List Int := ls (chz p r) L.length ++ rl26 p L size out r n
theorem rls_len (p : Nat) (L : List InsZ) (size out : Int) (r n : List Int) : (rls p L size out r n).length = L.length + 26 := by simp [rls, ls_len, rl26]
theorem rls_low (p : Nat) (L : List InsZ) (size out : Int) (r n : List Int) {i : Nat} (h : i < L.length) : zat (rls p L size out r n) i = chz p r i := by
  unfold rls zat
  rw [List.getElem?_append_left (by rw [ls_len]; exact h)]
  exact ls_at _ _ _ h
theorem rls_high (p : Nat) (L : List InsZ) (size out : Int) (r n : List Int) (j : Nat) : zat (rls p L size out r n) (L.length + j) = zat (rl26 p L size out r n) j := by
  unfold rls zat
  rw [List.getElem?_append_right (by rw [ls_len]; omega), ls_len, Nat.add_sub_cancel_left]
theorem rl26_bd {p : Nat} (h3 : 3 ≤ p) (L : List InsZ) (size out : Int) (r n : List Int) : ∀ x, x ∈ rl26 p L size out r n → 0 ≤ x ∧ x < (p : Int) := by
  have e := fun x => emod_bounds x p h3
  have s := fun s f => smt_bd h3 L s f
  intro x hx
  simp only [rl26, List.mem_cons, List.not_mem_nil, or_false] at hx
  rcases hx with rfl | rfl | rfl | rfl | rfl | rfl | rfl | rfl | rfl | rfl | rfl | rfl | rfl | rfl | rfl | rfl | rfl | rfl | rfl | rfl | rfl | rfl | rfl | rfl | rfl | rfl <;> first | exact e _ | exact s _ _
theorem rls_bd {p : Nat} (h3 : 3 ≤ p) (L : List InsZ) (size out : Int) (r n : List Int) : ∀ x, x ∈ rls p L size out r n → 0 ≤ x ∧ x < (p : Int) := by
  intro x hx
  unfold rls at hx
  rcases List.mem_append.1 hx with h | h
  · unfold ls at h
    obtain ⟨k, _, rfl⟩ := List.mem_map.1 h
    exact emod_bounds _ p h3
  · exact rl26_bd h3 L size out r n x h

end Go.Proofs.YtdpdmgmeieijaaaGreatDoor

namespace Go.Proofs.YtdpdmgmeieijaaaGreatDoor
open Go.RowKit Go.Maps

/-- does a rule say something of a row? -/
def spk (l n i k : Nat) : Bool := if k < l + 12 then true else if k < l + 18 then decide (i ≠ n - 1) else if k < l + 24 then decide (i = 0) else decide (i = n - 1)
/-- what a rule says, where rows stand behind one another -/
def rvl (p : Nat) (L : List InsZ) (size out : Int) (rows : List (List Int)) (i k : Nat) : Int := zat (rls p L size out (rat rows i) (rat rows (min (i + 1) (rows.length - 1)))) k
/-- a rule that does not hold -/
def brkn (p : Nat) (L : List InsZ) (size out : Int) (rows : List (List Int)) (i k : Nat) : Bool := decide (rvl p L size out rows i k ≠ 0) && spk L.length rows.length i k
/-- the first of so many -/
def FstB (P : Nat → Bool) (m : Nat) (z : Int) : Prop := (z = -1 ∧ ∀ k, k < m → P k = false) ∨ ∃ k, k < m ∧ z = (k : Int) ∧ P k = true ∧ ∀ j, j < k → P j = false
/-- the first rule of all rows that does not hold, and the first row of it -/
def MinB (P : Nat → Nat → Bool) (m n : Nat) (z x : Int) : Prop := (z = -1 ∧ x = 0 ∧ ∀ i, i < n → ∀ k, k < m → P i k = false) ∨
  ∃ k i, k < m ∧ i < n ∧ z = (k : Int) ∧ x = (i : Int) ∧ P i k = true ∧ (∀ i', i' < n → ∀ j, j < k → P i' j = false) ∧ ∀ i', i' < i → P i' k = false
theorem MinB.one {P : Nat → Nat → Bool} {m n : Nat} {z x z' x' : Int} (h : MinB P m n z x) (h' : MinB P m n z' x') : z = z' ∧ x = x' := by
  rcases h with ⟨rfl, rfl, h1⟩ | ⟨k, i, hk, hi, rfl, rfl, h2, h3, h4⟩
  · rcases h' with ⟨rfl, rfl, _⟩ | ⟨k, i, hk, hi, rfl, rfl, h2, _⟩
    · exact ⟨rfl, rfl⟩
    · rw [h1 i hi k hk] at h2; cases h2
  · rcases h' with ⟨rfl, rfl, h1⟩ | ⟨k', i', hk', hi', rfl, rfl, h2', h3', h4'⟩
    · rw [h1 i hi k hk] at h2; cases h2
    · have hkk : k = k' := by
        rcases Nat.lt_trichotomy k k' with g | g | g
        · rw [h3' i hi k g] at h2; cases h2
        · exact g
        · rw [h3 i' hi' k' g] at h2'; cases h2'
      subst hkk
      have hii : i = i' := by
        rcases Nat.lt_trichotomy i i' with g | g | g
        · rw [h4' i g] at h2; cases h2
        · exact g
        · rw [h4 i' g] at h2'; cases h2'
      subst hii
      exact ⟨rfl, rfl⟩
theorem MinB.start (P : Nat → Nat → Bool) (m : Nat) : MinB P m 0 (-1) 0 := .inl ⟨rfl, rfl, fun _ h => absurd h (Nat.not_lt_zero _)⟩
/-- one row more: none of it, or none that is earlier -/
theorem MinB.keep {P : Nat → Nat → Bool} {m n : Nat} {z x f : Int} (h : MinB P m n z x) (hf : FstB (P n) m f) (hno : ¬ (0 ≤ f ∧ (z < 0 ∨ f < z))) : MinB P m (n + 1) z x := by
  rcases h with ⟨rfl, rfl, h1⟩ | ⟨k, i, hk, hi, rfl, rfl, h2, h3, h4⟩
  · rcases hf with ⟨rfl, hf⟩ | ⟨k, hk, rfl, _⟩
    · refine .inl ⟨rfl, rfl, fun i hi => ?_⟩
      by_cases e : i = n
      · subst e; exact hf
      · exact h1 i (by omega)
    · exact absurd ⟨by omega, .inl (by omega)⟩ hno
  · refine .inr ⟨k, i, hk, by omega, rfl, rfl, h2, fun i' hi' j hj => ?_, h4⟩
    by_cases e : i' = n
    · subst e
      rcases hf with ⟨_, hf⟩ | ⟨k', hk', rfl, _, hf⟩
      · exact hf j (by omega)
      · have : ¬ ((k' : Int) < (k : Int)) := fun h => hno ⟨by omega, .inr h⟩
        exact hf j (by omega)
    · exact h3 i' (by omega) j hj
/-- .. or one that is earlier -/
theorem MinB.take {P : Nat → Nat → Bool} {m n : Nat} {z x f : Int} (h : MinB P m n z x) (hf : FstB (P n) m f) (hyes : 0 ≤ f ∧ (z < 0 ∨ f < z)) : MinB P m (n + 1) f (n : Int) := by
  rcases hf with ⟨rfl, hf⟩ | ⟨k', hk', rfl, hp, hf⟩
  · omega
  · refine .inr ⟨k', n, hk', by omega, rfl, rfl, hp, fun i' hi' j hj => ?_, fun i' hi' => ?_⟩
    · by_cases e : i' = n
      · subst e; exact hf j hj
      · rcases h with ⟨rfl, rfl, h1⟩ | ⟨k, i, hk, hi, rfl, rfl, h2, h3, h4⟩
        · exact h1 i' (by omega) j (by omega)
        · exact h3 i' (by omega) j (by omega)
    · rcases h with ⟨rfl, rfl, h1⟩ | ⟨k, i, hk, hi, rfl, rfl, h2, h3, h4⟩
      · exact h1 i' hi' k' hk'
      · exact h3 i' hi' k' (by omega)
end Go.Proofs.YtdpdmgmeieijaaaGreatDoor

namespace Go.Proofs.YtdpdmgmeieijaaaGreatDoor
open Go.RowKit

theorem padd_can {p : Nat} (h3 : 3 ≤ p) (xs ys : List Int) : Pol.Can p (Pol.padd p xs ys) := Pol.mk_can (by omega) _ _
theorem psub_can {p : Nat} (h3 : 3 ≤ p) (xs ys : List Int) : Pol.Can p (Pol.psub p xs ys) := Pol.mk_can (by omega) _ _
/-- the product while the first i of xs are taken -/
def tm (p : Nat) (xs ys : List Int) (i : Nat) : List Int := Pol.mk p (Pol.mul (Pol.lo i (Pol.cf xs)) (Pol.cf ys)) (i + ys.length)

end Go.Proofs.YtdpdmgmeieijaaaGreatDoor

namespace Go.Proofs.YtdpdmgmeieijaaaGreatDoor
open Go.RowKit Pol

theorem nonneg_dvd_zero {p : Nat} {x : Int} (h0 : 0 ≤ x) (h1 : x < p) (hd : (p : Int) ∣ x) : x = 0 := by
  rcases Int.lt_or_le 0 x with g | g
  · have := Int.le_of_dvd g hd; omega
  · omega

theorem invn_dvd {p : Nat} (hp : Num.Prime p) (h3 : 3 ≤ p) {z : Int} (h : ¬ (p : Int) ∣ z) : (p : Int) ∣ (invn p z : Int) * z - 1 := by
  have hz : z % (p : Int) ≠ 0 := fun e => h (Int.dvd_of_emod_eq_zero e)
  have h1 : 0 < el p z := by have := (emod_bounds z p h3).1; unfold el; omega
  have h2 := el_lt p z h3
  have key : invn p z * el p z % p = 1 := by
    unfold invn
    have : el p z = Num.pwm p (el p z) 1 := (Num.pwm_one p _ h2).symm
    rw [show Num.pwm p (el p z) (p - 2) * el p z = Num.pwm p (el p z) (p - 2) * Num.pwm p (el p z) 1 from by rw [← this], Num.pwm_add, show p - 2 + 1 = p - 1 from by omega]
    exact Num.pwm_fermat hp h1 h2
  have e1 := el_cast p z h3
  have d1 : (p : Int) ∣ ((invn p z * el p z : Nat) : Int) - 1 := by
    have hm := Nat.div_add_mod (invn p z * el p z) p
    rw [key] at hm
    obtain ⟨k, hk⟩ : ∃ k, p * k + 1 = invn p z * el p z := ⟨_, hm⟩
    rw [← hk]
    exact ⟨(k : Int), by push_cast; omega⟩
  have d2 : (p : Int) ∣ (invn p z : Int) * (z % (p : Int) - z) := Int.dvd_mul_of_dvd_right (emod_dvd p z)
  have := Int.dvd_sub d1 d2
  rw [show ((invn p z * el p z : Nat) : Int) - 1 - (invn p z : Int) * (z % (p : Int) - z) = (invn p z : Int) * z - 1 from by push_cast; rw [e1]; grind] at this
  exact this

/-- q and r are quotient and rest; ts has no zeros at its end and is not empty -/
structure IsD (p : Nat) (az ts q r : List Int) : Prop where
  cq : Pol.Can p q
  cr : Pol.Can p r
  lt : r.length < ts.length
  eq : Eqp p (cf az) (add (mul (cf q) (cf ts)) (cf r))

/-- what the reference's rounds keep -/
structure RD (p : Nat) (az ts q r : List Int) (n : Nat) : Prop where
  cq : Pol.Can p q
  cr : Pol.Can p r
  lq : q.length ≤ n
  lr : r.length ≤ n
  eq : Eqp p (cf az) (add (mul (cf q) (cf ts)) (cf r))

theorem RD.start {p : Nat} (h3 : 3 ≤ p) (az ts : List Int) : RD p az ts [] (trim p az) az.length :=
  ⟨Pol.Can.nil p, trim_can (by omega) az, by simp, trim_le p az, by
    rw [cf_nil, zero_mul]
    refine (trim_eqp p az).symm.trans (Eqp.of_eq ?_)
    funext j; simp [add, zero]⟩

def rc (p : Nat) (r ts : List Int) : Int := zat r (r.length - 1) * (invn p (zat ts (ts.length - 1)) : Int) % (p : Int)

theorem RD.step {p : Nat} (hp : Num.Prime p) (h3 : 3 ≤ p) {az ts q r : List Int} {n : Nat} (ht : Pol.Can p ts) (hts : 0 < ts.length) (h : RD p az ts q r n) (hl : ts.length ≤ r.length) :
    RD p az ts (padd p q (pscale p [1] (rc p r ts) (r.length - ts.length))) (psub p r (pscale p ts (rc p r ts) (r.length - ts.length))) n ∧ (psub p r (pscale p ts (rc p r ts) (r.length - ts.length))).length < r.length := by
  have hc : ∀ c, c = rc p r ts → (p : Int) ∣ zat r (r.length - 1) - c * zat ts (ts.length - 1) := fun c e => by
    have d1 := emod_dvd p (zat r (r.length - 1) * (invn p (zat ts (ts.length - 1)) : Int))
    rw [show zat r (r.length - 1) * (invn p (zat ts (ts.length - 1)) : Int) % (p : Int) = c from e.symm] at d1
    obtain ⟨u, hu⟩ := invn_dvd hp h3 (ht.last_nd hts)
    rw [show cf ts (ts.length - 1) = zat ts (ts.length - 1) from rfl] at hu
    obtain ⟨v, hv⟩ := d1
    refine ⟨- (zat r (r.length - 1) * u) - v * zat ts (ts.length - 1), ?_⟩
    have e1 : c = zat r (r.length - 1) * (invn p (zat ts (ts.length - 1)) : Int) + p * v := by omega
    have e2 : (invn p (zat ts (ts.length - 1)) : Int) * zat ts (ts.length - 1) = 1 + p * u := by omega
    rw [e1]
    grind
  generalize rc p r ts = c at *
  have hc := hc c rfl
  have hk : r.length - ts.length + ts.length = r.length := by omega
  have hrow : ∀ j, r.length - 1 ≤ j → (p : Int) ∣ sub (cf r) (cf (pscale p ts c (r.length - ts.length))) j := fun j hj => by
    have d := pscale_eqp p ts c (r.length - ts.length) j
    simp only [sub]
    have hr : (p : Int) ∣ cf r j - sh (r.length - ts.length) (sc c (cf ts)) j := by
      simp only [sh, sc]
      rw [if_neg (by omega)]
      by_cases e : j = r.length - 1
      · subst e
        rw [show r.length - 1 - (r.length - ts.length) = ts.length - 1 from by omega]
        exact hc
      · rw [cf_ge (by omega), cf_ge (by omega)]; simp
    have := Int.dvd_sub hr d
    rwa [show ∀ x y z : Int, x - y - (z - y) = x - z from fun x y z => by omega] at this
  have hlen : (psub p r (pscale p ts c (r.length - ts.length))).length ≤ r.length - 1 := by
    rw [psub, mk_length]; exact tp_bound hrow
  refine ⟨⟨padd_can h3 _ _, psub_can h3 _ _, ?_, ?_, ?_⟩, ?_⟩
  · have h1 := padd_le p q (pscale p [1] c (r.length - ts.length))
    have h2 := pscale_le p [1] c (r.length - ts.length)
    have := h.lq; have := h.lr
    simp at h2
    omega
  · have := h.lr; omega
  · have e1 := padd_eqp p q (pscale p [1] c (r.length - ts.length))
    have e2 := psub_eqp p r (pscale p ts c (r.length - ts.length))
    have e3 := pscale_eqp p [1] c (r.length - ts.length)
    have e4 := pscale_eqp p ts c (r.length - ts.length)
    refine h.eq.trans (Eqp.symm ?_)
    refine (((e1.trans ((Eqp.refl p (cf q)).add e3)).mul_left (cf ts)).add (e2.trans ((Eqp.refl p (cf r)).sub e4))).trans (Eqp.of_eq ?_)
    rw [add_mul, cf_one, sh_mul, sc_mul, one_mul]
    funext j
    simp only [add, sub]
    omega
  · omega

theorem RD.done {p : Nat} {az ts q r : List Int} {n : Nat} (h : RD p az ts q r n) (hl : r.length < ts.length) : IsD p az ts q r := ⟨h.cq, h.cr, hl, h.eq⟩

/-- what the program's rounds keep: i places of the quotient are told -/
structure PD (p : Nat) (az ts : List Int) (m n top i : Nat) (qf rf : Nat → Int) : Prop where
  rb : ∀ j, j < n → 0 ≤ rf j ∧ rf j < p
  qb : ∀ j, j < m → 0 ≤ qf j ∧ qf j < p
  q0 : ∀ j, j < m - i → qf j = 0
  r0 : ∀ j, m - i + top ≤ j → j < n → rf j = 0
  eq : Eqp p (cf az) (add (mul (lo m qf) (cf ts)) (lo n rf))
  first : i = 0 → ∀ j, j < n → rf j = zat (trim p az) j
  last : 0 < i → qf (m - 1) ≠ 0

theorem PD.start {p : Nat} (h3 : 3 ≤ p) (az ts : List Int) (m top : Nat) (hm : (trim p az).length ≤ m + top) : PD p az ts m (trim p az).length top 0 (fun _ => 0) (zat (trim p az)) := by
  refine ⟨fun j hj => (trim_can (by omega) az).elem j hj, fun j _ => by omega, fun _ _ => rfl, fun j h1 h2 => by omega, ?_, fun _ _ _ => rfl, fun h => by omega⟩
  rw [show lo m (fun _ => (0 : Int)) = zero from by funext j; simp [lo, zero], zero_mul, show lo (trim p az).length (zat (trim p az)) = cf (trim p az) from lo_len _]
  refine (trim_eqp p az).symm.trans (Eqp.of_eq ?_)
  funext j; simp [add, zero]

theorem PD.step {p : Nat} (hp : Num.Prime p) (h3 : 3 ≤ p) {az ts : List Int} {m n top i : Nat} {qf rf : Nat → Int} (ht : Pol.Can p ts) (htop : ts.length = top + 1) (hn : n = m + top) (hnl : n = (trim p az).length) (h : PD p az ts m n top i qf rf) (hi : i < m) :
    PD p az ts m n top (i + 1) (Go.Proofs.YtdpdmgmeieijaaaGreatDoor.up qf (m - 1 - i) (rf (m - 1 - i + top) * (invn p (zat ts top) : Int) % (p : Int)))
      (addf p rf (zat ts) ((0 - rf (m - 1 - i + top) * (invn p (zat ts top) : Int) % (p : Int)) % (p : Int)) (m - 1 - i) ts.length) := by
  have hnd : ¬ (p : Int) ∣ zat ts top := by
    have := ht.last_nd (by omega)
    rw [show ts.length - 1 = top from by omega] at this
    exact this
  obtain ⟨x, hx⟩ : ∃ x, x = rf (m - 1 - i + top) := ⟨_, rfl⟩
  obtain ⟨q, hq⟩ : ∃ q, q = x * (invn p (zat ts top) : Int) % (p : Int) := ⟨_, rfl⟩
  rw [← hx, ← hq]
  have hqb := emod_bounds (x * (invn p (zat ts top) : Int)) p h3
  rw [← hq] at hqb
  obtain ⟨pl, hpl⟩ : ∃ pl, pl = m - 1 - i := ⟨_, rfl⟩
  rw [← hpl] at hx ⊢
  -- the place that goes
  have hc : (p : Int) ∣ x - q * zat ts top := by
    have d1 := emod_dvd p (x * (invn p (zat ts top) : Int))
    rw [← hq] at d1
    obtain ⟨u, hu⟩ := invn_dvd hp h3 hnd
    obtain ⟨v, hv⟩ := d1
    refine ⟨- (x * u) - v * zat ts top, ?_⟩
    have e1 : q = x * (invn p (zat ts top) : Int) + p * v := by omega
    have e2 : (invn p (zat ts top) : Int) * zat ts top = 1 + p * u := by omega
    rw [e1]
    grind
  have hneg : (p : Int) ∣ (0 - q) % (p : Int) - (0 - q) := emod_dvd p _
  have hrb : ∀ j, j < n → 0 ≤ addf p rf (zat ts) ((0 - q) % (p : Int)) pl ts.length j ∧ addf p rf (zat ts) ((0 - q) % (p : Int)) pl ts.length j < p := fun j hj => by
    unfold addf
    split
    · exact emod_bounds _ p h3
    · exact h.rb j hj
  refine ⟨hrb, fun j hj => ?_, fun j hj => ?_, fun j h1 h2 => ?_, ?_, fun e => by omega, fun _ => ?_⟩
  · unfold Go.Proofs.YtdpdmgmeieijaaaGreatDoor.up
    split
    · exact hqb
    · exact h.qb j hj
  · unfold Go.Proofs.YtdpdmgmeieijaaaGreatDoor.up
    rw [if_neg (by omega)]
    exact h.q0 j (by omega)
  · by_cases e : j = pl + top
    · refine nonneg_dvd_zero (hrb j h2).1 (hrb j h2).2 ?_
      unfold addf
      rw [if_pos (by omega), e, Nat.add_sub_cancel_left, ← hx]
      have d1 := emod_dvd p (x + zat ts top * ((0 - q) % (p : Int)))
      obtain ⟨u, hu⟩ := hneg
      obtain ⟨v, hv⟩ := hc
      obtain ⟨s, hs⟩ := d1
      have e1 : (0 - q) % (p : Int) = p * u + (0 - q) := by omega
      refine ⟨s + v + zat ts top * u, ?_⟩
      have e2 : (x + zat ts top * ((0 - q) % (p : Int))) % (p : Int) = p * s + (x + zat ts top * ((0 - q) % (p : Int))) := by omega
      rw [e2, e1]
      grind
    · unfold addf
      rw [if_neg (by omega)]
      exact h.r0 j (by omega) h2
  · have hq' : lo m (Go.Proofs.YtdpdmgmeieijaaaGreatDoor.up qf pl q) = add (lo m qf) (sh pl (sc q Pol.one)) := by
      funext j
      simp only [lo, add, sh, sc, Pol.one, Go.Proofs.YtdpdmgmeieijaaaGreatDoor.up]
      by_cases e : j = pl
      · subst e
        rw [if_pos (by omega), if_pos rfl, if_pos (by omega), if_neg (by omega), h.q0 j (by omega)]
        simp
      · by_cases e2 : j < m
        · rw [if_pos e2, if_neg e, if_pos e2]
          by_cases e3 : j < pl
          · rw [if_pos e3]; omega
          · rw [if_neg e3, if_neg (by omega)]; omega
        · rw [if_neg e2, if_neg e2, if_neg (by omega), if_neg (by omega)]; simp
    have hr' : Eqp p (lo n (addf p rf (zat ts) ((0 - q) % (p : Int)) pl ts.length)) (sub (lo n rf) (sh pl (sc q (cf ts)))) := fun j => by
      simp only [lo, sub, sh, sc]
      by_cases e2 : j < n
      · rw [if_pos e2, if_pos e2]
        unfold addf
        by_cases e : pl ≤ j ∧ j < pl + ts.length
        · rw [if_pos e, if_neg (by omega)]
          obtain ⟨u, hu⟩ := hneg
          obtain ⟨s, hs⟩ := emod_dvd p (rf j + zat ts (j - pl) * ((0 - q) % (p : Int)))
          refine ⟨s + zat ts (j - pl) * u, ?_⟩
          have e3 : (0 - q) % (p : Int) = p * u + (0 - q) := by omega
          have e4 : (rf j + zat ts (j - pl) * ((0 - q) % (p : Int))) % (p : Int) = p * s + (rf j + zat ts (j - pl) * ((0 - q) % (p : Int))) := by omega
          rw [e4, e3, show cf ts (j - pl) = zat ts (j - pl) from rfl]
          grind
        · rw [if_neg e]
          by_cases e3 : j < pl
          · rw [if_pos e3]; simp
          · rw [if_neg e3, cf_ge (by omega)]; simp
      · rw [if_neg e2, if_neg e2, if_neg (by omega), cf_ge (by omega)]; simp
    rw [hq']
    refine h.eq.trans (Eqp.symm (((Eqp.refl p _).add hr').trans (Eqp.of_eq ?_)))
    rw [add_mul, sh_mul, sc_mul, one_mul]
    funext j
    simp only [add, sub]
    omega
  · unfold Go.Proofs.YtdpdmgmeieijaaaGreatDoor.up
    by_cases e : m - 1 = pl
    · rw [if_pos e]
      intro e0
      have i0 : i = 0 := by omega
      have hf := h.first i0 (n - 1) (by omega)
      rw [show pl + top = n - 1 from by omega, hf, hnl] at hx
      have hl := (trim_can (p := p) (by omega) az).last_nd (by omega)
      rw [e0, show (0 : Int) * zat ts top = 0 from by simp, Int.sub_zero, hx] at hc
      exact hl hc
    · rw [if_neg e]
      exact h.last (by omega)

theorem PD.done {p : Nat} (h3 : 3 ≤ p) {az ts : List Int} {m n top : Nat} {qf rf : Nat → Int} (htop : ts.length = top + 1) (h : PD p az ts m n top m qf rf) : IsD p az ts (ls qf m) (Pol.mk p rf n) := by
  have hb : ∀ j, n ≤ j → lo n rf j % (p : Int) = 0 := fun j hj => by simp only [lo]; rw [if_neg (by omega)]; simp
  have hcong : Pol.mk p rf n = Pol.mk p (lo n rf) n := by
    have ht : tp p rf n = tp p (lo n rf) n := tp_congr p _ _ n (fun j hj => by simp only [lo]; rw [if_pos hj])
    unfold Pol.mk
    rw [ht]
    refine List.map_congr_left (fun j hj => ?_)
    have := tp_le p (lo n rf) n
    have hj2 : j < tp p (lo n rf) n := List.mem_range.1 hj
    simp only [lo]
    rw [if_pos (by omega)]
  refine ⟨⟨fun j hj => ?_, fun hj => ?_⟩, mk_can (by omega) _ _, ?_, ?_⟩
  · rw [ls_len] at hj
    have := ls_at qf m j hj
    rw [show (ls qf m).getD j 0 = zat (ls qf m) j from rfl, this]
    exact h.qb j hj
  · rw [ls_len] at hj ⊢
    rw [show (ls qf m).getD (m - 1) 0 = zat (ls qf m) (m - 1) from rfl, ls_at _ _ _ (by omega)]
    exact h.last hj
  · rw [mk_length]
    have : tp p rf n ≤ top := by
      rcases Nat.lt_or_ge top (tp p rf n) with g | g
      · have h1 := tp_last p rf n (by omega)
        have h2 := tp_le p rf n
        rw [h.r0 _ (by omega) (by omega)] at h1
        simp at h1
      · exact g
    omega
  · refine h.eq.trans (Eqp.add (Eqp.mul_left _ (Eqp.of_eq ?_)) ?_)
    · funext j; simp only [lo]
      by_cases e : j < m
      · rw [if_pos e]; exact (ls_at qf m j e).symm
      · rw [if_neg e, cf_ge (by rw [ls_len]; omega)]
    · rw [hcong]; exact (mk_eqp hb).symm

end Go.Proofs.YtdpdmgmeieijaaaGreatDoor
