
import Derived.Test.YtjlngcmkgkiplaaGreatDoorPlain
import Derived.Test.YtjlngcmkgkiplaaGreatDoorPls
import Derived.Test.YtjlngcmkgkiplaaGreatDoorDoms
import Derived.Deep.QuietTactic
import Derived.StillTailTactics
import Derived.Laws.AppendOwnNone
set_option maxRecDepth 1000000
set_option maxHeartbeats 8000000
namespace Go.Proofs.YtjlngcmkgkiplaaGreatDoor
open Go.RowKit
def cst (q : Nat) (r i : Int) : Int := if r < 0 ∨ 7 < r ∨ i < 0 ∨ 7 < i then 0 else ((8 * r + i + 1) ^ 5 + 3) % (q : Int)
theorem pwm_int (q : Nat) (a : Int) (n : Nat) (h3 : 3 <= q) : ((Num.pwm q (el q a) n : Nat) : Int) = a ^ n % (q : Int) := by
 rw [Num.pwm_cast, el_cast q a h3, Pol.emod_eq_iff (by omega)]
 exact Dom.pow_congr (Pol.emod_dvd q a) n
def mxs (q : Nat) (f : Nat -> Int) (i k : Nat) : Int := Dom.sm (fun j => f j * (invn q ((i + j + 8 : Nat) : Int) : Int) % (q : Int)) k % (q : Int)
def mx (q : Nat) (f : Nat -> Int) (i : Nat) : Int := mxs q f i 8
def stir (q n : Nat) (f : Nat -> Int) : Nat -> Nat -> Int
 | 0, j => f j % (q : Int)
 | k + 1, j => mx q (fun i => (stir q n f k i + cst q k i) ^ n % (q : Int)) j
def soak (q : Nat) (s P : Nat -> Int) (t : Nat) (j : Nat) : Int := if j < 4 then (s j + P (4 * t + j)) % (q : Int) else s j
def hst (q n : Nat) (P : Nat -> Int) : Nat -> Nat -> Int
 | 0, _ => 0
 | t + 1, j => stir q n (soak q (hst q n P t) P t) 8 j
theorem bezout : ∀ (b a : Nat), ∃ x y : Int, (a : Int) * x + (b : Int) * y = (Nat.gcd a b : Nat) := by
 intro b
 induction b using Nat.strongRecOn with
 | _ b ih =>
  intro a
  by_cases h : b = 0
  ·subst h; exact ⟨1, 0, by simp⟩
  ·obtain ⟨x, y, hxy⟩ := ih (a % b) (Nat.mod_lt _ (by omega)) b
   refine ⟨y, x - (a / b : Nat) * y, ?_⟩
   have h1 : Nat.gcd b (a % b) = Nat.gcd a b := by rw [Nat.gcd_comm b (a % b), <- Nat.gcd_rec, Nat.gcd_comm]
   rw [<- h1, <- hxy]
   have h2 : (a : Int) = (b : Int) * ((a / b : Nat) : Int) + ((a % b : Nat) : Int) := by
    have := Nat.div_add_mod a b
    exact_mod_cast this.symm
   generalize ((a / b : Nat) : Int) = d at *
   generalize ((a % b : Nat) : Int) = m at *
   rw [h2]
   grind
theorem inv_some {n m : Nat} (hm : 2 <= m) (h : Nat.gcd n m = 1) : ∃ d : Nat, n * d % m = 1 := by
 obtain ⟨x, y, hxy⟩ := bezout m n
 rw [h] at hxy
 have h0 : 0 <= x % (m : Int) := Int.emod_nonneg _ (by omega)
 refine ⟨(x % (m : Int)).toNat, ?_⟩
 have h1 : ((n * (x % (m : Int)).toNat % m : Nat) : Int) = 1 := by
  push_cast
  rw [Int.toNat_of_nonneg h0, Int.mul_emod, Int.emod_emod_of_dvd _ (Int.dvd_refl _), <- Int.mul_emod]
  have e : (n : Int) * x = 1 + (m : Int) * (-y) := by rw [Int.mul_neg]; push_cast at hxy; omega
  rw [e, Int.add_mul_emod_self_left]
  exact Int.emod_eq_of_lt (by omega) (by omega)
 exact_mod_cast h1
theorem fits_cons {x : Int} {zs : List Int} (hx : -9223372036854775808 <= x /\ x <= 9223372036854775807) (h : Fits zs) : Fits (x :: zs) := fun j hj => by
 cases j with
 | zero => simpa [zat] using hx
 | succ j => simpa [zat] using h j (by simpa using hj)
theorem fits_append {xs ys : List Int} (h1 : Fits xs) (h2 : Fits ys) : Fits (xs ++ ys) := fun j hj => by
 by_cases g : j < xs.length
 ·have := h1 j g; simpa [zat, List.getElem?_append, g] using this
 ·have := h2 (j - xs.length) (by rw [List.length_append] at hj; omega); simpa [zat, List.getElem?_append, g] using this
def lftA : Nat -> Nat -> Nat -> Nat
 | 0, m, _ => m
 | k + 1, m, n => if m * 2 < n then lftA k (m * 2) n else m
def lft (n : Nat) : Nat := lftA n 1 n
def rat (rows : List (List Int)) (k : Nat) : List Int := rows.getD k []
structure LstR (n0 : Nat) (w : World) (a : Option Addr) (cap : Nat) (rows : List (List Int)) : Prop where
 row : ∀ k, k < rows.length -> ∃ b o ak ck, a = some ⟨b, o, none⟩ /\ b < n0 /\ w.cell? ⟨b, o + k, none⟩ = some (.slice ak (rat rows k).length ck) /\ Lst n0 w ak ck (rat rows k)
 room : rows.length <= cap
 nil : a = none -> cap = 0
theorem LstR.below {n0 : Nat} {A B : World} {a : Option Addr} {cap : Nat} {rows : List (List Int)} (h : Below n0 A B) (r : LstR n0 A a cap rows) : LstR n0 B a cap rows :=
 ⟨fun k hk => by
  obtain ⟨b, o, ak, ck, h1, h2, h3, h4⟩ := r.row k hk
  exact ⟨b, o, ak, ck, h1, h2, (h.cell (p := ⟨b, o + k, none⟩) h2).trans h3, h4.below h⟩, r.room, r.nil⟩
theorem LstR.mono {n0 n1 : Nat} {A : World} {a : Option Addr} {cap : Nat} {rows : List (List Int)} (h : n0 <= n1) (r : LstR n0 A a cap rows) : LstR n1 A a cap rows :=
 ⟨fun k hk => by
  obtain ⟨b, o, ak, ck, h1, h2, h3, h4⟩ := r.row k hk
  exact ⟨b, o, ak, ck, h1, by omega, h3, h4.mono h⟩, r.room, r.nil⟩
def FitsR (rows : List (List Int)) : Prop := ∀ k, k < rows.length -> Fits (rat rows k) /\ (rat rows k).length <= 17592186044000
def smb (ps : List Int) (a b : Int) : Bool := ps.any (fun x => decide (a <= x /\ x < b))
end Go.Proofs.YtjlngcmkgkiplaaGreatDoor
