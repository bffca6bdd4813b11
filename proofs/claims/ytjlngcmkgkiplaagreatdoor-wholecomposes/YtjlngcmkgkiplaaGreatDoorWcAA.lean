
import Derived.Shelf.SlLaysF0
import Derived.Test.YtjlngcmkgkiplaaGreatDoorProg
import Derived.Test.YtjlngcmkgkiplaaGreatDoorFld
import Derived.StillTailTactics
set_option maxRecDepth 1000000
set_option maxHeartbeats 8000000
namespace Go.Proofs
open Go.Shelf
end Go.Proofs
namespace Go.Proofs.YtjlngcmkgkiplaaGreatDoor
open Go.RowKit
def celv : List (Int × Int) -> List Value
 | [] => []
 | c :: r => .int .i64 c.1 :: .int .i64 c.2 :: celv r
def cat (cs : List (Int × Int)) (j : Nat) : Int × Int := cs.getD j (0, 0)
theorem celv_app : ∀ cs ds, celv (cs ++ ds) = celv cs ++ celv ds
 | [], ds => rfl
 | c :: r, ds => by simp [celv, celv_app r ds]
theorem celv_at : ∀ (cs : List (Int × Int)) (j : Nat), j < cs.length -> (celv cs)[j * 2]? = some (.int .i64 (cat cs j).1) /\ (celv cs)[j * 2 + 1]? = some (.int .i64 (cat cs j).2)
 | [], _, h => absurd h (Nat.not_lt_zero _)
 | c :: r, 0, _ => ⟨rfl, rfl⟩
 | c :: r, j + 1, h => by
  have ih := celv_at r j (by simpa using h)
  have e1 : (j + 1) * 2 = j * 2 + 2 := by omega
  rw [e1]
  exact ih
def CelR (base : Nat) (w : World) (v : Value) (cs : List (Int × Int)) : Prop := w.ownsRow base 161 2 v cs.length (celv cs)
structure Rg where
 pc : Int
 fp : Int
 ap : Int
 rv : Int
end Go.Proofs.YtjlngcmkgkiplaaGreatDoor
