/- attestref6: tell, reckoned. attestref6.Do: what stands. -/
import Derived.Test.YtaibngnabhmabakDoorBaAA
namespace Go.Proofs.YtaibngnabhmabakDoor
open Go.RowKit

theorem Tryd.infoCel : (Tryd.prog.info? 39).map (fun i => (i.zero, i.size, i.bytes)) = some (some (.agg #[.int .i64 0, .int .i64 0]), 2, 16) := by kernel_rfl

/-- what comes of two by an operation, and what becomes of the machine -/
def rkn (p : Nat) (op x y : Int) : Int := if op = 1 then (x + y) % p else if op = 2 then (x - y) % p else if op = 3 then x * y % p else if op = 4 then x * (invn p y : Int) % p else if x = y then 1 else 0
def RM.rck (s : RM) (op y : Int) : RM := if op = 4 then s.must (y != 0) else s

end Go.Proofs.YtaibngnabhmabakDoor

namespace Go.Proofs.YtaibngnabhmabakDoor
open Go.RowKit

structure Rg where
  pc : Int
  fp : Int
  ap : Int
  rv : Int
def stv (n : Rg) (s : RM) : Nat → Value
  | 0 => .int .i64 n.pc
  | 1 => .int .i64 n.fp
  | 2 => .int .i64 n.ap
  | 3 => .int .i64 n.rv
  | 4 => .int .i64 (s.at' 0)
  | 5 => .int .i64 (s.at' 1)
  | 6 => .int .i64 (s.at' 2)
  | 7 => .int .i64 (s.is' 0)
  | 8 => .int .i64 (s.is' 1)
  | _ => .int .i64 (s.is' 2)
theorem ten {i : Nat} (h : i < 10) : i = 0 ∨ i = 1 ∨ i = 2 ∨ i = 3 ∨ i = 4 ∨ i = 5 ∨ i = 6 ∨ i = 7 ∨ i = 8 ∨ i = 9 := by omega
theorem stv_pc (n : Rg) (s : RM) (x : Int) : ∀ i, i < 10 → (if i = 0 then Value.int .i64 x else stv n s i) = stv { n with pc := x } s i := fun i hi => by
  rcases ten hi with rfl | rfl | rfl | rfl | rfl | rfl | rfl | rfl | rfl | rfl <;> simp [stv]
theorem stv_fp (n : Rg) (s : RM) (x : Int) : ∀ i, i < 10 → (if i = 1 then Value.int .i64 x else stv n s i) = stv { n with fp := x } s i := fun i hi => by
  rcases ten hi with rfl | rfl | rfl | rfl | rfl | rfl | rfl | rfl | rfl | rfl <;> simp [stv]
theorem stv_ap (n : Rg) (s : RM) (x : Int) : ∀ i, i < 10 → (if i = 2 then Value.int .i64 x else stv n s i) = stv { n with ap := x } s i := fun i hi => by
  rcases ten hi with rfl | rfl | rfl | rfl | rfl | rfl | rfl | rfl | rfl | rfl <;> simp [stv]
theorem stv_rv (n : Rg) (s : RM) (x : Int) : ∀ i, i < 10 → (if i = 3 then Value.int .i64 x else stv n s i) = stv { n with rv := x } s i := fun i hi => by
  rcases ten hi with rfl | rfl | rfl | rfl | rfl | rfl | rfl | rfl | rfl | rfl <;> simp [stv]

end Go.Proofs.YtaibngnabhmabakDoor
