/- Package code: Distance; the reference's. Plain facts on folding words, of no program. attestref2: Point. attestref2: Pair, Fold. -/
import Derived.Test.YtlhjifpomchnfaaGreatDoorCodA
import Derived.Deep.QuietTactic
import Derived.Test.YtlhjifpomchnfaaGreatDoorPlain
import Derived.Test.YtlhjifpomchnfaaGreatDoorDoms
import Derived.Test.YtlhjifpomchnfaaGreatDoorRefs
import Derived.Test.YtlhjifpomchnfaaGreatDoorTres
import Derived.Deep.RegionHeld3
namespace Go.Proofs.YtlhjifpomchnfaaGreatDoor
open Go.RowKit

/-- do two lists differ at a place? -/
def dq (p : Nat) (xs ys : List Int) (j : Nat) : Bool := !(decide (j < xs.length) && decide (j < ys.length) && (zat xs j % (p : Int) == zat ys j % (p : Int)))
/-- at how many places two lists differ -/
def dist (p : Nat) (xs ys : List Int) : Nat := Cod.cnt (dq p xs ys) (max xs.length ys.length)

end Go.Proofs.YtlhjifpomchnfaaGreatDoor

namespace Go.Proofs.YtlhjifpomchnfaaGreatDoor.Fol
open Pol Dom

theorem dvdm {p : Nat} {a b c d : Int} (h : (p : Int) ∣ a - b) (k : (p : Int) ∣ c - d) : (p : Int) ∣ a * c - b * d := by
  have h1 := Int.dvd_mul_of_dvd_left (c := c) h
  have h2 := Int.dvd_mul_of_dvd_right (b := b) k
  have := Int.dvd_add h1 h2
  rwa [show (a - b) * c + b * (c - d) = a * c - b * d from by grind] at this
theorem dvda {p : Nat} {a b c d : Int} (h : (p : Int) ∣ a - b) (k : (p : Int) ∣ c - d) : (p : Int) ∣ (a + c) - (b + d) := by
  have := Int.dvd_add h k
  rwa [show (a - b) + (c - d) = (a + c) - (b + d) from by omega] at this
theorem dvds {p : Nat} {a b c d : Int} (h : (p : Int) ∣ a - b) (k : (p : Int) ∣ c - d) : (p : Int) ∣ (a - c) - (b - d) := by
  have := Int.dvd_sub h k
  rwa [show (a - b) - (c - d) = (a - c) - (b - d) from by omega] at this
theorem dvdt {p : Nat} {a b c : Int} (h : (p : Int) ∣ a - b) (k : (p : Int) ∣ b - c) : (p : Int) ∣ a - c := by
  have := Int.dvd_add h k
  rwa [show (a - b) + (b - c) = a - c from by omega] at this
theorem dvdn {p : Nat} {a b : Int} (h : (p : Int) ∣ a - b) : (p : Int) ∣ b - a := by
  have := Int.dvd_neg.2 h
  rwa [Int.neg_sub] at this
theorem dvd0 (p : Nat) (a : Int) : (p : Int) ∣ a - a := by rw [Int.sub_self]; exact Int.dvd_zero _
theorem two_nd {p : Nat} (h3 : 3 ≤ p) : ¬ (p : Int) ∣ 2 := fun h => by
  have := Int.le_of_dvd (by omega) h
  omega

/-- what a pair becomes -/
def pairz (p : Nat) (x a b c : Int) : Int := ((a + b) * (invn p 2 : Int) + (a - b) * (invn p (x * 2 % (p : Int)) : Int) * c) % (p : Int)
/-- its two parts -/
theorem parts {p : Nat} (hp : Num.Prime p) (h3 : 3 ≤ p) {x : Int} (hx : ¬ (p : Int) ∣ x) (a b : Int) : ∃ A B : Int, (∀ c, (p : Int) ∣ pairz p x a b c - (A + c * B)) ∧ (p : Int) ∣ A + x * B - a ∧ (p : Int) ∣ A - x * B - b ∧ (∀ E O : Int, (p : Int) ∣ a - (E + x * O) → (p : Int) ∣ b - (E - x * O) → (p : Int) ∣ A - E ∧ (p : Int) ∣ B - O) := by
  have h2 := two_nd h3
  have hx2 : ¬ (p : Int) ∣ x * 2 % (p : Int) := fun h => by
    have : (p : Int) ∣ x * 2 := by
      have := Int.dvd_sub h (emod_dvd p (x * 2))
      rwa [show x * 2 % (p : Int) - (x * 2 % (p : Int) - x * 2) = x * 2 from by omega] at this
    exact (prime_mul hp this).elim hx h2
  have i2 := invn_dvd hp h3 h2
  have ix := invn_dvd hp h3 hx2
  obtain ⟨I, hI⟩ : ∃ I : Int, I = (invn p 2 : Int) := ⟨_, rfl⟩
  obtain ⟨J, hJ⟩ : ∃ J : Int, J = (invn p (x * 2 % (p : Int)) : Int) := ⟨_, rfl⟩
  rw [← hI] at i2
  rw [← hJ] at ix
  have ix2 : (p : Int) ∣ J * (x * 2) - 1 := dvdt (dvdm (dvd0 p J) (dvdn (emod_dvd p (x * 2)))) ix
  -- twice and x times
  have c2 : ∀ {y z : Int}, (p : Int) ∣ y * 2 - z * 2 → (p : Int) ∣ y - z := fun {y z} h => by
    rw [show y * 2 - z * 2 = (y - z) * 2 from by omega] at h
    exact (prime_mul hp h).resolve_right h2
  have hA : (p : Int) ∣ (a + b) * I * 2 - (a + b) := by
    have := dvdm (dvd0 p (a + b)) i2
    rwa [show (a + b) * (I * 2) - (a + b) * 1 = (a + b) * I * 2 - (a + b) from by grind] at this
  have hB : (p : Int) ∣ (a - b) * J * (x * 2) - (a - b) := by
    have := dvdm (dvd0 p (a - b)) ix2
    rwa [show (a - b) * (J * (x * 2)) - (a - b) * 1 = (a - b) * J * (x * 2) - (a - b) from by grind] at this
  refine ⟨(a + b) * I, (a - b) * J, fun c => ?_, ?_, ?_, fun E O ha hb => ⟨?_, ?_⟩⟩
  · unfold pairz
    rw [← hI, ← hJ]
    have := emod_dvd p ((a + b) * I + (a - b) * J * c)
    rwa [show (a - b) * J * c = c * ((a - b) * J) from by grind] at this ⊢
  · refine c2 ?_
    have := dvda hA hB
    rwa [show (a + b) * I * 2 + (a - b) * J * (x * 2) - (a + b + (a - b)) = ((a + b) * I + x * ((a - b) * J)) * 2 - a * 2 from by grind] at this
  · refine c2 ?_
    have := dvds hA hB
    rwa [show (a + b) * I * 2 - (a - b) * J * (x * 2) - (a + b - (a - b)) = ((a + b) * I - x * ((a - b) * J)) * 2 - b * 2 from by grind] at this
  · refine c2 (dvdt hA ?_)
    have := dvda ha hb
    rwa [show a + b - (E + x * O + (E - x * O)) = a + b - E * 2 from by omega] at this
  · have h4 := dvdt hB (dvds ha hb)
    rw [show (a - b) * J * (x * 2) - (E + x * O - (E - x * O)) = ((a - b) * J - O) * (x * 2) from by grind] at h4
    exact (prime_mul hp h4).resolve_right (fun h => (prime_mul hp h).elim hx h2)
/-- two unlike elements tell the pair -/
theorem pair_back {p : Nat} (hp : Num.Prime p) (h3 : 3 ≤ p) {x a b E O r s : Int} (hx : ¬ (p : Int) ∣ x) (hrs : ¬ (p : Int) ∣ s - r) (h1 : (p : Int) ∣ pairz p x a b r - (E + r * O)) (h2 : (p : Int) ∣ pairz p x a b s - (E + s * O)) : (p : Int) ∣ a - (E + x * O) ∧ (p : Int) ∣ b - (E - x * O) := by
  obtain ⟨A, B, k1, k2, k3, _⟩ := parts hp h3 hx a b
  have e1 := dvdt (dvdn (k1 r)) h1
  have e2 := dvdt (dvdn (k1 s)) h2
  have e3 := dvds e2 e1
  rw [show A + s * B - (A + r * B) - (E + s * O - (E + r * O)) = (s - r) * (B - O) from by grind] at e3
  have hB := (prime_mul hp e3).resolve_left hrs
  have hA : (p : Int) ∣ A - E := by
    have := dvds e1 (dvdm (dvd0 p r) hB)
    rwa [show A + r * B - r * B - (E + r * O - r * O) = A - E from by omega] at this
  exact ⟨dvdt (dvdn k2) (dvda hA (dvdm (dvd0 p x) hB)), dvdt (dvdn k3) (dvds hA (dvdm (dvd0 p x) hB))⟩

/-- a circle of n points -/
structure Cir (p n : Nat) (r s : Int) : Prop where
  pr : Num.Prime p
  h3 : 3 ≤ p
  ord : Ord p r n
  sd : ¬ (p : Int) ∣ s
theorem Cir.pt_nd {p n : Nat} {r s : Int} (C : Cir p n r s) (i : Nat) : ¬ (p : Int) ∣ pt p s r i := fun h => by
  have : (p : Int) ∣ s * r ^ i := by
    have := Int.dvd_sub h (emod_dvd p (s * r ^ i))
    unfold pt at this
    rwa [show s * r ^ i % (p : Int) - (s * r ^ i % (p : Int) - s * r ^ i) = s * r ^ i from by omega] at this
  exact (prime_mul C.pr this).elim C.sd (pow_nd C.pr (C.ord.nd C.pr) i)
theorem Cir.neg {p m : Nat} {r s : Int} (C : Cir p (2 * m) r s) (i : Nat) : (p : Int) ∣ pt p s r (i + m) + pt p s r i := by
  have h := C.ord.half C.pr
  have e : (p : Int) ∣ s * r ^ (i + m) + s * r ^ i := by
    have := Int.dvd_mul_of_dvd_right (b := s * r ^ i) h
    rwa [show s * r ^ i * (r ^ m + 1) = s * r ^ (i + m) + s * r ^ i from by rw [Int.pow_add]; grind] at this
  have e1 := emod_dvd p (s * r ^ (i + m))
  have e2 := emod_dvd p (s * r ^ i)
  have := Int.dvd_add (Int.dvd_add e1 e2) e
  unfold pt
  rwa [show s * r ^ (i + m) % (p : Int) - s * r ^ (i + m) + (s * r ^ i % (p : Int) - s * r ^ i) + (s * r ^ (i + m) + s * r ^ i) = s * r ^ (i + m) % (p : Int) + s * r ^ i % (p : Int) from by omega] at this
/-- half of it -/
theorem Cir.half {p m : Nat} {r s : Int} (C : Cir p (2 * m) r s) : Cir p m (r * r % (p : Int)) (s * s % (p : Int)) := by
  refine ⟨C.pr, C.h3, C.ord.sqm, fun h => ?_⟩
  have : (p : Int) ∣ s * s := by
    have := Int.dvd_sub h (emod_dvd p (s * s))
    rwa [show s * s % (p : Int) - (s * s % (p : Int) - s * s) = s * s from by omega] at this
  exact (prime_mul C.pr this).elim C.sd C.sd
theorem pow_mod {p : Nat} {a b : Int} (h : (p : Int) ∣ a - b) : ∀ i : Nat, (p : Int) ∣ a ^ i - b ^ i
  | 0 => by simp
  | i + 1 => by rw [Int.pow_succ, Int.pow_succ]; exact dvdm (pow_mod h i) h
theorem pt_sq (p : Nat) (r s : Int) (i : Nat) : (p : Int) ∣ pt p (s * s % (p : Int)) (r * r % (p : Int)) i - pt p s r i * pt p s r i := by
  unfold pt
  have e1 : (p : Int) ∣ s * s % (p : Int) * (r * r % (p : Int)) ^ i - s * s * (r * r) ^ i := dvdm (emod_dvd p _) (pow_mod (emod_dvd p _) i)
  have e2 : (p : Int) ∣ s * r ^ i % (p : Int) * (s * r ^ i % (p : Int)) - s * r ^ i * (s * r ^ i) := dvdm (emod_dvd p _) (emod_dvd p _)
  have e3 : s * s * (r * r) ^ i = s * r ^ i * (s * r ^ i) := by rw [Int.mul_pow]; grind
  rw [e3] at e1
  exact dvdt (dvdt (emod_dvd p _) e1) (dvdn e2)

/-- a word folded -/
def foldz (p m : Nat) (r s : Int) (word : List Int) (c : Int) : List Int := ls (fun i => pairz p (pt p s r i) (zat word i) (zat word (i + m)) c) m
theorem foldz_len (p m : Nat) (r s : Int) (word : List Int) (c : Int) : (foldz p m r s word c).length = m := ls_len _ _
theorem foldz_at {p m : Nat} {r s : Int} {word : List Int} {c : Int} {i : Nat} (h : i < m) : zat (foldz p m r s word c) i = pairz p (pt p s r i) (zat word i) (zat word (i + m)) c := ls_at _ _ _ h
/-- the even places and c times the odd ones -/
def evod (f : Nat → Int) (c : Int) : Nat → Int := fun j => f (2 * j) + c * f (2 * j + 1)
/-- and the other way, where two unlike elements say so -/
theorem Cir.fold_back {p m : Nat} {r s : Int} (C : Cir p (2 * m) r s) (g h : Nat → Int) (M : Nat) (word : List Int) {c d : Int} (hcd : ¬ (p : Int) ∣ d - c) {i : Nat} (hi : i < m)
    (h1 : (p : Int) ∣ zat (foldz p m r s word c) i - ps (fun j => g j + c * h j) (pt p (s * s % (p : Int)) (r * r % (p : Int)) i) M)
    (h2 : (p : Int) ∣ zat (foldz p m r s word d) i - ps (fun j => g j + d * h j) (pt p (s * s % (p : Int)) (r * r % (p : Int)) i) M) :
    (p : Int) ∣ zat word i - (ps g (pt p s r i * pt p s r i) M + pt p s r i * ps h (pt p s r i * pt p s r i) M) ∧ (p : Int) ∣ zat word (i + m) - (ps g (pt p s r i * pt p s r i) M - pt p s r i * ps h (pt p s r i * pt p s r i) M) := by
  rw [foldz_at hi] at h1 h2
  have e : ∀ (c x : Int), ps (fun j => g j + c * h j) x M = ps g x M + c * ps h x M := fun c x => by
    rw [show (fun j => g j + c * h j) = Pol.add g (Pol.sc c h) from rfl, ps_add, ps_sc]
  refine pair_back C.pr C.h3 (C.pt_nd i) hcd (dvdt h1 ?_) (dvdt h2 ?_)
  · rw [← e]; exact ps_point _ (pt_sq p r s i) M
  · rw [← e]; exact ps_point _ (pt_sq p r s i) M

end Go.Proofs.YtlhjifpomchnfaaGreatDoor.Fol

namespace Go.Proofs.YtlhjifpomchnfaaGreatDoor
open Go.RowKit

theorem four0 {W : World} {g : Nat} {a b c d : Value} {t : TypeId} (h : W.heap[g]? = some (.cells #[a, b, c, d] t (0, 0))) : W.cell? ⟨g, 0, none⟩ = some a := by simp [World.cell?, h]
theorem four1 {W : World} {g : Nat} {a b c d : Value} {t : TypeId} (h : W.heap[g]? = some (.cells #[a, b, c, d] t (0, 0))) : W.cell? ⟨g, 1, none⟩ = some b := by simp [World.cell?, h]
theorem four2 {W : World} {g : Nat} {a b c d : Value} {t : TypeId} (h : W.heap[g]? = some (.cells #[a, b, c, d] t (0, 0))) : W.cell? ⟨g, 2, none⟩ = some c := by simp [World.cell?, h]
theorem four3 {W : World} {g : Nat} {a b c d : Value} {t : TypeId} (h : W.heap[g]? = some (.cells #[a, b, c, d] t (0, 0))) : W.cell? ⟨g, 3, none⟩ = some d := by simp [World.cell?, h]

end Go.Proofs.YtlhjifpomchnfaaGreatDoor

namespace Go.Proofs.YtlhjifpomchnfaaGreatDoor
open Go.RowKit Pol

end Go.Proofs.YtlhjifpomchnfaaGreatDoor
