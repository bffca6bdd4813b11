/- What the field's method Invs answers: a new list, what makes 1 of each number of the given list; nothing that was there has turned. -/
import Derived.Test.YtecaifjbmfianafDoorBack
import Derived.Test.YtecaifjbmfianafDoorFld
import Derived.Deep.OwnRows
import Derived.Shelf.RegionOpen
import Derived.RegionIn
namespace Go.Proofs.YtecaifjbmfianafDoor
open Go.RowKit Go.Shelf

attribute [local go_sem] Oper.semAt_some

/-- the product of all of a list that are not 0, as elements -/
def prz (p : Nat) (l : List Int) : Nat := l.foldl (fun acc z => if z % (p : Int) = 0 then acc else acc * el p z % p) 1

theorem prz_snoc (p : Nat) (l : List Int) (z : Int) : prz p (l ++ [z]) = if z % (p : Int) = 0 then prz p l else prz p l * el p z % p := by simp [prz]

theorem el_pos {p : Nat} {z : Int} (h3 : 3 ≤ p) (h : z % (p : Int) ≠ 0) : 0 < el p z := by
  have := (emod_bounds z p h3).1; unfold el; omega

theorem prz_ok (p : Nat) (hp : Num.Prime p) (h3 : 3 ≤ p) (l : List Int) : prz p l < p ∧ ¬ p ∣ prz p l := by
  have key : ∀ (l : List Int) (acc : Nat), acc < p → ¬ p ∣ acc → (l.foldl (fun acc z => if z % (p : Int) = 0 then acc else acc * el p z % p) acc) < p ∧ ¬ p ∣ (l.foldl (fun acc z => if z % (p : Int) = 0 then acc else acc * el p z % p) acc) := by
    intro l
    induction l with
    | nil => intro acc h1 h2; exact ⟨h1, h2⟩
    | cons z l ih =>
      intro acc h1 h2
      rw [List.foldl_cons]
      by_cases hz : z % (p : Int) = 0
      · rw [if_pos hz]; exact ih acc h1 h2
      · rw [if_neg hz]
        refine ih _ (Nat.mod_lt _ (by omega)) (fun hd => ?_)
        have hd2 : p ∣ acc * el p z := (Nat.dvd_mod_iff (Nat.dvd_refl p)).1 hd
        rcases Num.euclid hp hd2 with g | g
        · exact h2 g
        · exact Num.not_dvd_lt (el_pos h3 hz) (el_lt p z h3) g
  exact key l 1 (by omega) (fun h => by have := Nat.le_of_dvd (by omega) h; omega)

/-- the product of those ahead of a place -/
def pk (p : Nat) (zs : List Int) (k : Nat) : Nat := prz p (zs.take k)

theorem pk_zero (p : Nat) (zs : List Int) : pk p zs 0 = 1 := rfl
theorem pk_succ (p : Nat) (zs : List Int) (k : Nat) (h : k < zs.length) : pk p zs (k + 1) = if zat zs k % (p : Int) = 0 then pk p zs k else pk p zs k * el p (zat zs k) % p := by
  unfold pk
  rw [List.take_succ_eq_append_getElem h, prz_snoc]; simp [h, zat]

theorem pk_lt (p : Nat) (hp : Num.Prime p) (h3 : 3 ≤ p) (zs : List Int) (k : Nat) : pk p zs k < p := (prz_ok p hp h3 _).1
theorem pk_nd (p : Nat) (hp : Num.Prime p) (h3 : 3 ≤ p) (zs : List Int) (k : Nat) : ¬ p ∣ pk p zs k := (prz_ok p hp h3 _).2

theorem inv_one {p : Nat} (hp : Num.Prime p) (h3 : 3 ≤ p) {z : Int} (h : z % (p : Int) ≠ 0) : invn p z * el p z % p = 1 := by
  have h1 := el_pos h3 h
  have h2 := el_lt p z h3
  unfold invn
  have : el p z = Num.pwm p (el p z) 1 := (Num.pwm_one p _ h2).symm
  rw [show Num.pwm p (el p z) (p - 2) * el p z = Num.pwm p (el p z) (p - 2) * Num.pwm p (el p z) 1 from by rw [← this], Num.pwm_add, show p - 2 + 1 = p - 1 from by omega]
  exact Num.pwm_fermat hp h1 h2

theorem inv_zero {p : Nat} (h3 : 3 ≤ p) {z : Int} (h : z % (p : Int) = 0) : invn p z = 0 := by
  have he : el p z = 0 := by unfold el; rw [h]; rfl
  unfold invn; rw [he, pwm_zero_left p _ (by omega)]

/-- what makes 1 of an element is one alone -/
theorem inv_unique {p x y e : Nat} (hp : Num.Prime p) (hx : x < p) (hy : y < p) (he : ¬ p ∣ e) (h1 : x * e % p = 1) (h2 : y * e % p = 1) : x = y := by
  have : e * x % p = e * y % p := by rw [Nat.mul_comm, h1, Nat.mul_comm, h2]
  have := Num.cancel hp he this
  rwa [Nat.mod_eq_of_lt hx, Nat.mod_eq_of_lt hy] at this

/-- what is known of the new list and of the inverse while the last n - i are done -/
structure IG (p : Nat) (zs : List Int) (i : Nat) (o : Nat → Nat) (v : Nat) : Prop where
  ahead : ∀ j, j < i → o j = pk p zs j
  behind : ∀ j, i ≤ j → j < zs.length → o j = invn p (zat zs j)
  one : v * pk p zs i % p = 1

/-- one place turned -/
def upd (o : Nat → Nat) (i x : Nat) : Nat → Nat := fun j => if j = i then x else o j

theorem IG.skip {p : Nat} {zs : List Int} {i : Nat} {o : Nat → Nat} {v : Nat} (h3 : 3 ≤ p) (h : IG p zs (i + 1) o v) (hi : i < zs.length) (hz : zat zs i % (p : Int) = 0) : IG p zs i (upd o i 0) v := by
  have e := pk_succ p zs i hi
  rw [if_pos hz] at e
  refine ⟨fun j hj => ?_, fun j h1 h2 => ?_, by rw [← e]; exact h.one⟩
  · unfold upd; rw [if_neg (by omega)]; exact h.ahead j (by omega)
  · unfold upd
    by_cases hji : j = i
    · rw [if_pos hji, hji]; exact (inv_zero h3 hz).symm
    · rw [if_neg hji]; exact h.behind j (by omega) h2

theorem IG.take {p : Nat} {zs : List Int} {i : Nat} {o : Nat → Nat} {v : Nat} (hp : Num.Prime p) (h3 : 3 ≤ p) (h : IG p zs (i + 1) o v) (hi : i < zs.length) (hz : zat zs i % (p : Int) ≠ 0) :
    IG p zs i (upd o i (o i * v % p)) (v * el p (zat zs i) % p) := by
  have e := pk_succ p zs i hi
  rw [if_neg hz] at e
  have hone := h.one
  rw [e] at hone
  have hoi := h.ahead i (by omega)
  refine ⟨fun j hj => ?_, fun j h1 h2 => ?_, ?_⟩
  · unfold upd; rw [if_neg (by omega)]; exact h.ahead j (by omega)
  · unfold upd
    by_cases hji : j = i
    · rw [if_pos hji, hji]
      refine inv_unique hp (Nat.mod_lt _ (by omega)) (invn_lt p _ h3) (Num.not_dvd_lt (el_pos h3 hz) (el_lt p _ h3)) ?_ (inv_one hp h3 hz)
      rw [hoi, Nat.mod_mul_mod, show pk p zs i * v * el p (zat zs i) = v * (pk p zs i * el p (zat zs i)) from by grind, ← Nat.mul_mod_mod]
      exact hone
    · rw [if_neg hji]; exact h.behind j (by omega) h2
  · rw [Nat.mod_mul_mod, show v * el p (zat zs i) * pk p zs i = v * (pk p zs i * el p (zat zs i)) from by grind, ← Nat.mul_mod_mod]
    exact hone

end Go.Proofs.YtecaifjbmfianafDoor
