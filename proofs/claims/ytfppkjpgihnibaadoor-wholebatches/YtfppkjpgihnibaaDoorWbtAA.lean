/- attestref6: the cells that are told, and the machine's own words. attestref6: shown, look, tell, must. attestref6: look, tell, must. attestref6: tell, reckoned. attestref6.Do: what stands. -/
import Derived.Test.YtfppkjpgihnibaaDoorFld
import Derived.StillTailTactics
namespace Go.Proofs.YtfppkjpgihnibaaDoor
open Go.RowKit

/-- cells, as they lie in memory -/
def celv : List (Int × Int) → List Value
  | [] => []
  | c :: r => .int .i64 c.1 :: .int .i64 c.2 :: celv r
def cat (cs : List (Int × Int)) (j : Nat) : Int × Int := cs.getD j (0, 0)
theorem celv_len : ∀ cs, (celv cs).length = cs.length * 2
  | [] => rfl
  | c :: r => by simp [celv, celv_len r]; omega
theorem celv_at : ∀ (cs : List (Int × Int)) (j : Nat), j < cs.length → (celv cs)[j * 2]? = some (.int .i64 (cat cs j).1) ∧ (celv cs)[j * 2 + 1]? = some (.int .i64 (cat cs j).2)
  | [], _, h => absurd h (Nat.not_lt_zero _)
  | c :: r, 0, _ => ⟨rfl, rfl⟩
  | c :: r, j + 1, h => by
    have ih := celv_at r j (by simpa using h)
    have e1 : (j + 1) * 2 = j * 2 + 2 := by omega
    rw [e1]
    exact ih
/-- the place of a cell; -1: there is none -/
def finz (cs : List (Int × Int)) (x : Int) : Int := match cs.findIdx? (fun c => c.1 == x) with
  | some i => i
  | none => -1
/-- the reference's machine -/
structure RM where
  cs : List (Int × Int)
  pc : Int
  fp : Int
  ap : Int
  rv : Int
  at' : Nat → Int
  is' : Nat → Int
  slot : Nat
  err : Int
end Go.Proofs.YtfppkjpgihnibaaDoor

namespace Go.Proofs.YtfppkjpgihnibaaDoor
open Go.RowKit

def updM (f : Nat → Int) (i : Nat) (x : Int) : Nat → Int := fun j => if j = i then x else f j
def RM.shown (s : RM) (x y : Int) : RM := { s with at' := updM s.at' s.slot x, is' := updM s.is' s.slot y, slot := s.slot + 1 }
end Go.Proofs.YtfppkjpgihnibaaDoor

namespace Go.Proofs.YtfppkjpgihnibaaDoor
open Go.RowKit

def RM.look (s : RM) (x : Int) : RM × Int := if s.err ≠ 0 then (s, 0) else if finz s.cs x < 0 then ({ s with err := 10 }, 0) else (s.shown x (cat s.cs (finz s.cs x).toNat).2, (cat s.cs (finz s.cs x).toNat).2)
def RM.must (s : RM) (b : Bool) : RM := if s.err = 0 ∧ b = false then { s with err := 7 } else s
def RM.tell (p : Nat) (s : RM) (x y : Int) : RM := if s.err ≠ 0 then s else if 0 ≤ finz s.cs x ∧ (cat s.cs (finz s.cs x).toNat).2 ≠ y % p then { s with err := 7 } else
  if finz s.cs x < 0 then ({ s with cs := s.cs ++ [(x, y % p)] } : RM).shown x (y % p) else s.shown x (y % p)
end Go.Proofs.YtfppkjpgihnibaaDoor

namespace Go.Proofs.YtfppkjpgihnibaaDoor
open Go.RowKit

/-- what comes of two by an operation, and what becomes of the machine -/
def rkn (p : Nat) (op x y : Int) : Int := if op = 1 then (x + y) % p else if op = 2 then (x - y) % p else if op = 3 then x * y % p else if op = 4 then x * (invn p y : Int) % p else if x = y then 1 else 0
def RM.rck (s : RM) (op y : Int) : RM := if op = 4 then s.must (y != 0) else s

end Go.Proofs.YtfppkjpgihnibaaDoor

namespace Go.Proofs.YtfppkjpgihnibaaDoor
open Go.RowKit

structure Rg where
  pc : Int
  fp : Int
  ap : Int
  rv : Int
theorem ten {i : Nat} (h : i < 10) : i = 0 ∨ i = 1 ∨ i = 2 ∨ i = 3 ∨ i = 4 ∨ i = 5 ∨ i = 6 ∨ i = 7 ∨ i = 8 ∨ i = 9 := by omega
end Go.Proofs.YtfppkjpgihnibaaDoor
