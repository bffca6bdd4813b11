/- Package machine: move. -/
import Derived.Test.YtaibngnabhmabakDoorMahD
namespace Go.Proofs.YtaibngnabhmabakDoor
open Go.RowKit Go.Maps

/-- the registers behind an instruction -/
def mvg (p : Nat) (op ia ib : Int) (n : Rg) (s0 s1 s2 : Int) : Rg :=
  if op = 8 then ⟨ia % (p : Int), n.fp, n.ap, n.rv⟩
  else if op = 9 then (if s0 = 0 then ⟨ib % (p : Int), n.fp, n.ap, n.rv⟩ else ⟨(n.pc + 1) % (p : Int), n.fp, n.ap, n.rv⟩)
  else if op = 10 then ⟨ia % (p : Int), (n.ap + 2) % (p : Int), ((n.ap + 2) % (p : Int) + ib) % (p : Int), n.rv⟩
  else if op = 11 then ⟨s1, s0, n.ap, s2⟩
  else ⟨(n.pc + 1) % (p : Int), n.fp, n.ap, n.rv⟩
theorem seven {i : Nat} (h : i < 7) : i = 0 ∨ i = 1 ∨ i = 2 ∨ i = 3 ∨ i = 4 ∨ i = 5 ∨ i = 6 := by omega
end Go.Proofs.YtaibngnabhmabakDoor
