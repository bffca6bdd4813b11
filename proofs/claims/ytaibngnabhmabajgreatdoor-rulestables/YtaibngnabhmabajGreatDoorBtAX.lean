/- Package tree: a walk's root, where it is not found: both its parts' roots. Package tree: a walk's root. Package tree: checked, where it is not taken. Two digests compared. -/
import Derived.Test.YtaibngnabhmabajGreatDoorBtAW
import Derived.Test.YtaibngnabhmabajGreatDoorBtAV
namespace Go.Proofs.YtaibngnabhmabajGreatDoor
open Go.RowKit

def fs : Code → Code
  | .seq a _ => a
  | c => c
end Go.Proofs.YtaibngnabhmabajGreatDoor

namespace Go.Proofs.YtaibngnabhmabajGreatDoor
open Go.RowKit

end Go.Proofs.YtaibngnabhmabajGreatDoor

namespace Go.Proofs.YtaibngnabhmabajGreatDoor
open Go.RowKit

theorem opn_c0 {W : World} {O : Nat} {a b c : Value} {t : TypeId} (h : W.heap[O]? = some (.cells #[a, b, c] t (0, 0))) : W.cell? ⟨O, 0, none⟩ = some a := by simp [World.cell?, h]
theorem opn_c1 {W : World} {O : Nat} {a b c : Value} {t : TypeId} (h : W.heap[O]? = some (.cells #[a, b, c] t (0, 0))) : W.cell? ⟨O, 1, none⟩ = some b := by simp [World.cell?, h]
theorem opn_c2 {W : World} {O : Nat} {a b c : Value} {t : TypeId} (h : W.heap[O]? = some (.cells #[a, b, c] t (0, 0))) : W.cell? ⟨O, 2, none⟩ = some c := by simp [World.cell?, h]
/-- is it right by its form? -/
def okb (N : Int) (root ps : List Int) (rows nodes : List (List Int)) : Prop := 1 ≤ N ∧ N ≤ 65536 ∧ root.length = 4 ∧ shwn N.toNat ps rows nodes

end Go.Proofs.YtaibngnabhmabajGreatDoor

namespace Go.Proofs.YtaibngnabhmabajGreatDoor
open Go.RowKit

theorem eqI_run (n : Nat) (a b : Int) (w : World) : (Op.equalIn (n + 1) 3 (.int .i64 a) (.int .i64 b)).run Tryz.prog w = .ok (a == b) w := by
  simp [Op.equalIn, run_underlying Tryz.underlying3, Result.andThen]
theorem part_run (cs : Array Value) (i : Nat) (v : Value) (h : cs[i]? = some v) (w : World) : (part 3 cs i).run Tryz.prog w = .ok v w := by
  simp [part, Tryz.isAgg3, h, Result.andThen]
theorem eq4_dec {x y : List Int} (hx : x.length = 4) (hy : y.length = 4) : (zat x 0 == zat y 0 && (zat x 1 == zat y 1 && (zat x 2 == zat y 2 && zat x 3 == zat y 3))) = decide (x = y) := by
  obtain ⟨a0, a1, a2, a3, rfl⟩ : ∃ a0 a1 a2 a3, x = [a0, a1, a2, a3] := by
    match x, hx with
    | [a0, a1, a2, a3], _ => exact ⟨a0, a1, a2, a3, rfl⟩
  obtain ⟨b0, b1, b2, b3, rfl⟩ : ∃ b0 b1 b2 b3, y = [b0, b1, b2, b3] := by
    match y, hy with
    | [b0, b1, b2, b3], _ => exact ⟨b0, b1, b2, b3, rfl⟩
  rw [Bool.eq_iff_iff]
  simp [zat]
end Go.Proofs.YtaibngnabhmabajGreatDoor
