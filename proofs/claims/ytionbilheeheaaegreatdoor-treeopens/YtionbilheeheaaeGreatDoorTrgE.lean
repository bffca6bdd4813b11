/- Two digests compared. -/
import Derived.Test.YtionbilheeheaaeGreatDoorTrgS
namespace Go.Proofs.YtionbilheeheaaeGreatDoor
open Go.RowKit

theorem eqI_run (n : Nat) (a b : Int) (w : World) : (Op.equalIn (n + 1) 3 (.int .i64 a) (.int .i64 b)).run Tryz.prog w = .ok (a == b) w := by
  simp [Op.equalIn, run_underlying Tryz.underlying3, Result.andThen]
theorem part_run (cs : Array Value) (i : Nat) (v : Value) (h : cs[i]? = some v) (w : World) : (part 3 cs i).run Tryz.prog w = .ok v w := by
  simp [part, Tryz.isAgg3, h, Result.andThen]
theorem eq4_run (a0 a1 a2 a3 b0 b1 b2 b3 : Int) (w : World) : (Op.equalIn 10000 70 (.agg #[.int .i64 a0, .int .i64 a1, .int .i64 a2, .int .i64 a3]) (.agg #[.int .i64 b0, .int .i64 b1, .int .i64 b2, .int .i64 b3])).run Tryz.prog w = .ok (a0 == b0 && (a1 == b1 && (a2 == b2 && a3 == b3))) w := by
  have e : ∀ (x y : Int), (Op.equalIn 9999 3 (.int .i64 x) (.int .i64 y)).run Tryz.prog w = .ok (x == y) w := fun x y => eqI_run 9998 x y w
  rw [show (10000 : Nat) = 9999 + 1 from rfl]
  unfold Op.equalIn
  simp only [Sem.run_bind, run_underlying Tryz.underlying70, Result.andThen_ok, Tryz.sizeOf3]
  have p0 : ∀ (x0 x1 x2 x3 : Value), (part 3 #[x0, x1, x2, x3] (0 * 1)).run Tryz.prog w = .ok x0 w := fun x0 x1 x2 x3 => part_run _ _ _ rfl w
  have p1 : ∀ (x0 x1 x2 x3 : Value), (part 3 #[x0, x1, x2, x3] (1 * 1)).run Tryz.prog w = .ok x1 w := fun x0 x1 x2 x3 => part_run _ _ _ rfl w
  have p2 : ∀ (x0 x1 x2 x3 : Value), (part 3 #[x0, x1, x2, x3] (2 * 1)).run Tryz.prog w = .ok x2 w := fun x0 x1 x2 x3 => part_run _ _ _ rfl w
  have p3 : ∀ (x0 x1 x2 x3 : Value), (part 3 #[x0, x1, x2, x3] (3 * 1)).run Tryz.prog w = .ok x3 w := fun x0 x1 x2 x3 => part_run _ _ _ rfl w
  rw [Std.Legacy.Range.forIn_eq_forIn_range']
  show ((Sem.run Tryz.prog (forIn [0, 1, 2, 3] _ _) w).andThen _) = _
  simp only [List.forIn_cons, List.forIn_nil, Sem.run_bind, p0, e, Result.andThen_ok]
  cases h0 : (a0 == b0) <;> cases h1 : (a1 == b1) <;> cases h2 : (a2 == b2) <;> cases h3 : (a3 == b3) <;> simp [h1, h2, h3, p1, p2, p3, e, Result.andThen]
theorem eq4_dec {x y : List Int} (hx : x.length = 4) (hy : y.length = 4) : (zat x 0 == zat y 0 && (zat x 1 == zat y 1 && (zat x 2 == zat y 2 && zat x 3 == zat y 3))) = decide (x = y) := by
  obtain ⟨a0, a1, a2, a3, rfl⟩ : ∃ a0 a1 a2 a3, x = [a0, a1, a2, a3] := by
    match x, hx with
    | [a0, a1, a2, a3], _ => exact ⟨a0, a1, a2, a3, rfl⟩
  obtain ⟨b0, b1, b2, b3, rfl⟩ : ∃ b0 b1 b2 b3, y = [b0, b1, b2, b3] := by
    match y, hy with
    | [b0, b1, b2, b3], _ => exact ⟨b0, b1, b2, b3, rfl⟩
  rw [Bool.eq_iff_iff]
  simp [zat]
theorem eqd_run {x y : List Int} (hx : x.length = 4) (hy : y.length = 4) (w : World) : (Op.equalIn 10000 70 (.agg #[.int .i64 (zat x 0), .int .i64 (zat x 1), .int .i64 (zat x 2), .int .i64 (zat x 3)]) (.agg #[.int .i64 (zat y 0), .int .i64 (zat y 1), .int .i64 (zat y 2), .int .i64 (zat y 3)])).run Tryz.prog w = .ok (decide (x = y)) w := by
  rw [eq4_run, eq4_dec hx hy]
end Go.Proofs.YtionbilheeheaaeGreatDoor
