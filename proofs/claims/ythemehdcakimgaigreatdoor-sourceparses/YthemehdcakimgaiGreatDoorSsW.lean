/- Package source: main. -/
import Derived.Test.YthemehdcakimgaiGreatDoorBgAW
namespace Go.Proofs.YthemehdcakimgaiGreatDoor
open Go.RowKit

/-- the first names of main, and what they stand for -/
def mnS (p : Nat) (more : List (List UInt8 × Nat)) (args : List Int) : Nat → List (List UInt8 × Int)
  | 0 => []
  | j + 1 => match more[j]? with
    | some m => (m.1, zat args j % (p : Int)) :: mnS p more args j
    | none => mnS p more args j
theorem mnS_bd (p : Nat) (more : List (List UInt8 × Nat)) (args : List Int) (h3 : 3 ≤ p) : ∀ j, ScB p (mnS p more args j)
  | 0 => by intro y hy; cases hy
  | j + 1 => by
    rw [mnS]
    split
    · intro y hy
      rcases List.mem_cons.1 hy with rfl | hy
      · exact ⟨Int.emod_nonneg _ (by omega), Int.emod_lt_of_pos _ (by omega)⟩
      · exact mnS_bd p more args h3 j y hy
    · exact mnS_bd p more args h3 j
/-- how main ends -/
def MnR (V : Nat) (w : World) (r : ER Int) (e : Ending) (w' : World) : Prop := Fr V w w' ∧ match r with
  | .val x k => e = .returned (.tuple #[.agg #[.int .i64 x, .int .i64 (k : Int)], .nilIface])
  | .stop er => e = .returned (.tuple #[.agg #[.int .i64 0, .int .i64 0], .iface 44 (.int .i64 (er : Int))])
  | .out => False
end Go.Proofs.YthemehdcakimgaiGreatDoor
