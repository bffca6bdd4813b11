/- attestref6.Do. -/
import Derived.Test.YtjibpfdhaejfdaaDoorMacE
namespace Go.Proofs.YtjibpfdhaejfdaaDoor
open Go.RowKit

/-- what a step makes of the machine -/
def RM.three (p : Nat) (s : RM) (op A B C : Int) : RM :=
  let l1 := s.look A
  let l2 := l1.1.look B
  (l2.1.rck op l2.2).tell p C (rkn p op l1.2 l2.2)
def RM.step (p : Nat) (s : RM) (op a b c : Int) : RM × Rg :=
  let A := (s.fp + a) % (p : Int)
  let B := (s.fp + b) % (p : Int)
  let C := (s.fp + c) % (p : Int)
  let n : Rg := ⟨(s.pc + 1) % (p : Int), s.fp, s.ap, s.rv⟩
  if op = 1 ∨ op = 2 ∨ op = 3 ∨ op = 4 ∨ op = 6 then (s.three p op A B C, n)
  else if op = 5 then (s.tell p A b, n)
  else if op = 7 then (((s.look A).1.look B).1.must ((s.look A).2 == ((s.look A).1.look B).2), n)
  else if op = 8 then (s, { n with pc := a % (p : Int) })
  else if op = 9 then ((s.look A).1, if (s.look A).2 = 0 then { n with pc := b % (p : Int) } else n)
  else if op = 10 then ((s.tell p s.ap s.fp).tell p ((s.ap + 1) % (p : Int)) (s.pc + 1), ⟨a % (p : Int), (s.ap + 2) % (p : Int), ((s.ap + 2) % (p : Int) + b) % (p : Int), s.rv⟩)
  else if op = 11 then
    let l1 := s.look ((s.fp - 2) % (p : Int))
    let l2 := l1.1.look ((s.fp - 1) % (p : Int))
    let l3 := l2.1.look A
    (l3.1, ⟨l2.2, l1.2, s.ap, l3.2⟩)
  else if op = 12 then (s.tell p A s.rv, n)
  else if op = 13 then ((s.look A).1.tell p (((s.ap + 2) % (p : Int) + b) % (p : Int)) (s.look A).2, n)
  else if op = 0 then ((s.look A).1, n)
  else ({ s with err := 7 }, n)
/-- what is known of a machine on the way -/
def SOk (p n k : Nat) (s : RM) : Prop := (∀ j, j < s.cs.length → 0 ≤ (cat s.cs j).2 ∧ (cat s.cs j).2 < p) ∧ s.cs.length ≤ n ∧ (s.err = 0 → s.slot ≤ k)
end Go.Proofs.YtjibpfdhaejfdaaDoor
