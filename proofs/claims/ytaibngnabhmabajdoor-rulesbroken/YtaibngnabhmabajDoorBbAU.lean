/- attestref6.Walk: the walk. Package machine: step. Package machine: step, the walk. -/
import Derived.Test.YtaibngnabhmabajDoorBbAF
import Derived.Deep.RegionHeld3
import Derived.Test.YtaibngnabhmabajDoorBbAT
namespace Go.Proofs.YtaibngnabhmabajDoor
open Go.RowKit

def stvs (l : List (List Int)) : List Value := l.flatMap (fun x => x.map (Value.int .i64))
def lenW : Value → Nat
  | .slice _ n _ => n
  | _ => 0
section
variable {P : Program} {ops : Array Oper} {Q : Exit → Act → World → Prop} {md : Region.Mode} {S : World → Prop}
theorem drop_atM {i : Nat} {oi : Oper} {rest : List Oper} (hl : ops.toList.drop i = oi :: rest) : ops[i]? = some oi := by
  have := congrArg (fun l => l[0]?) hl
  simpa [List.getElem?_drop] using this
theorem wpAnyH_takeM {i : Nat} {oi : Oper} {rest : List Oper} {v : Value} {fuel : Nat} {listed : Array Bool} {a : Act} {w : World} (hl : ops.toList.drop i = oi :: rest)
    (hs : Region.noSelect ops = true) (hf : Region.free md ops listed i = true) (hr : (Region.ready md ops listed).contains i = true)
    (hQ : ∀ c a w, Q (.panic c) (a.put oi.dst v) w → Q (.panic c) a w) (hw : Region.wanted oi (yielded ops a.tmps) = true) (hy : ∀ w, S w → (execOp a.eval oi).run P w = .ok (.value v) w) (hS : S w)
    (h : wpAnyH P md ops Q S fuel (listed.setIfInBounds i true) (a.put oi.dst v) w) : wpAnyH P md ops Q S (fuel + 1) listed a w :=
  wpAnyH_take (drop_atM hl) hs hf hr hQ (Or.inl ⟨hw, hy⟩) hS h
theorem AllReadyH.consM {fuel : Nat} {listed : Array Bool} {a : Act} {w : World} {i : Nat} {o : Oper} {rest : List Oper} {rs : List Nat} (hl : ops.toList.drop i = o :: rest)
    (h : ∀ K' : Act → World → Prop, Shut (∀ a w, S w → (S w → wpAnyH P md ops Q S fuel (listed.setIfInBounds i true) a w) → K' a w) → if Region.wanted o (yielded ops a.tmps) = true then Oper.wp P o a w K' Q else K' (a.put o.dst undef) w)
    (hs : AllReadyH P md ops Q S fuel listed a w rs) : AllReadyH P md ops Q S fuel listed a w (i :: rs) := AllReadyH.cons (drop_atM hl) h hs
end
/-- the registers anew, nothing shown -/
def putNow (W : World) (M : Nat) (a b c d : Int) : World := (((((((((W.setCell ⟨M, 2, none⟩ (.int .i64 a)).setCell ⟨M, 3, none⟩ (.int .i64 b)).setCell ⟨M, 4, none⟩ (.int .i64 c)).setCell ⟨M, 5, none⟩ (.int .i64 d)).setCell ⟨M, 6, none⟩ (.int .i64 0)).setCell ⟨M, 7, none⟩ (.int .i64 0)).setCell ⟨M, 8, none⟩ (.int .i64 0)).setCell ⟨M, 9, none⟩ (.int .i64 0)).setCell ⟨M, 10, none⟩ (.int .i64 0)).setCell ⟨M, 11, none⟩ (.int .i64 0)
theorem putNow_oth (W : World) (M : Nat) (a b c d : Int) (k : Nat) (h : k ≠ M) : (putNow W M a b c d).heap[k]? = W.heap[k]? := by
  unfold putNow
  rw [Below.heap_setCell _ _ _ _ h, Below.heap_setCell _ _ _ _ h, Below.heap_setCell _ _ _ _ h, Below.heap_setCell _ _ _ _ h, Below.heap_setCell _ _ _ _ h, Below.heap_setCell _ _ _ _ h, Below.heap_setCell _ _ _ _ h, Below.heap_setCell _ _ _ _ h, Below.heap_setCell _ _ _ _ h, Below.heap_setCell _ _ _ _ h]
theorem putNow_gb (W : World) (M : Nat) (a b c d : Int) : W.grownBy (putNow W M a b c d) (some M) := by
  unfold putNow
  exact gbM (gbM (gbM (gbM (gbM (gbM (gbM (gbM (gbM (gbM (gb_same W M))))))))))
theorem stvs_app (l : List (List Int)) (x : List Int) : stvs (l ++ [x]) = stvs l ++ x.map (Value.int .i64) := by simp [stvs]
/-- what is known at the loop's head -/
structure WkI (p limit : Nat) (L : List InsZ) (X : WR) (s : RM) (l : List (List Int)) (f : Nat) : Prop where
  is : X = mgo p L limit f { s with slot := 0 } l
  fuel : l.length + f = limit + 1
  pos : 1 ≤ f
  cs : ∀ j, j < s.cs.length → 0 ≤ (cat s.cs j).2 ∧ (cat s.cs j).2 < p
  len : s.cs.length ≤ 1 + 2 * l.length
  rg : RgB p ⟨s.pc, s.fp, s.ap, s.rv⟩
  err : s.err = 0
theorem gb_noneM {W W' : World} (e : Below W.heap.size W W') : W.grownBy W' none := ⟨e.os, e.tape, e.output, e.size, fun k hk _ => e.block k hk⟩
theorem gb_toM {g n : Nat} {A B : World} (h : A.grownBy B (some g)) (hn : n ≤ g) (hs : n ≤ A.heap.size) : Below n A B := ⟨h.os, h.tape, h.output, h.size, fun k hk => h.block k (by omega) (by intro e; injection e with e; omega)⟩

end Go.Proofs.YtaibngnabhmabajDoor

namespace Go.Proofs.YtaibngnabhmabajDoor
open Go.RowKit Go.Maps

/-- of the blocks that were there two alone have turned -/
structure Gr2 (B R : Nat) (w W : World) : Prop where
  os : W.os = w.os
  tape : W.tape = w.tape
  output : W.output = w.output
  size : w.heap.size ≤ W.heap.size
  block : ∀ k, k < w.heap.size → k ≠ B → k ≠ R → W.heap[k]? = w.heap[k]?
theorem Gr2.of1 {B R : Nat} {w W : World} (h : w.grownBy W (some B)) : Gr2 B R w W := ⟨h.os, h.tape, h.output, h.size, fun k hk h1 _ => h.block k hk (by intro e; injection e with e; exact h1 e)⟩
theorem Gr2.of2 {B R : Nat} {w W : World} (h : w.grownBy W (some R)) : Gr2 B R w W := ⟨h.os, h.tape, h.output, h.size, fun k hk _ h1 => h.block k hk (by intro e; injection e with e; exact h1 e)⟩
theorem Gr2.ofB {B R : Nat} {w W : World} (h : Below w.heap.size w W) : Gr2 B R w W := ⟨h.os, h.tape, h.output, h.size, fun k hk _ _ => h.block k hk⟩
theorem Gr2.trans {B R : Nat} {a b c : World} (h : Gr2 B R a b) (k : Gr2 B R b c) : Gr2 B R a c := ⟨k.os.trans h.os, k.tape.trans h.tape, k.output.trans h.output, Nat.le_trans h.size k.size, fun j hj h1 h2 => (k.block j (Nat.lt_of_lt_of_le hj h.size) h1 h2).trans (h.block j hj h1 h2)⟩
theorem Gr2.to {B R N : Nat} {w W : World} (h : Gr2 B R w W) (hB : N ≤ B) (hR : N ≤ R) (hs : N ≤ w.heap.size) : Below N w W := ⟨h.os, h.tape, h.output, h.size, fun k hk => h.block k (by omega) (by omega) (by omega)⟩

/-- a step's cells -/
def st10 (n : Rg) (x y : Nat → Int) : Nat → Value
  | 0 => .int .i64 n.pc
  | 1 => .int .i64 n.fp
  | 2 => .int .i64 n.ap
  | 3 => .int .i64 n.rv
  | 4 => .int .i64 (x 0)
  | 5 => .int .i64 (x 1)
  | 6 => .int .i64 (x 2)
  | 7 => .int .i64 (y 0)
  | 8 => .int .i64 (y 1)
  | _ => .int .i64 (y 2)
/-- two ways that meet again -/
theorem share {Good F : Nat → World → Prop} {goal : Prop} (h2 : (∀ G W, Good G W → F G W) → goal) (h1 : ∀ G W, Good G W → F G W) : goal := h2 h1
theorem put10_gb (W : World) (G : Nat) (f : Nat → Value) : W.grownBy (put10 W G f) (some G) := by
  unfold put10
  exact gbM (gbM (gbM (gbM (gbM (gbM (gbM (gbM (gbM (gbM (gb_same W G))))))))))
theorem put10_below {W0 W : World} {G : Nat} (e : Below W0.heap.size W0 W) (hG : W0.heap.size ≤ G) (f : Nat → Value) : Below W0.heap.size W0 (put10 W G f) :=
  e.trans (gb_toM (put10_gb W G f) hG e.size)
/-- what is shown so far -/
def fil (cs : List (Int × Int)) (x : Nat → Int) (j : Nat) : Nat → Int := fun i => if i < j then cvl cs (x i) else 0
theorem ix3_0 (x y z : Int) (w : World) : (Instr.index 102 (.agg #[.int .i64 x, .int .i64 y, .int .i64 z]) (.int .i64 0)).run Tryd.prog w = .ok (.int .i64 x) w := by kernel_rfl
theorem ix3_1 (x y z : Int) (w : World) : (Instr.index 102 (.agg #[.int .i64 x, .int .i64 y, .int .i64 z]) (.int .i64 1)).run Tryd.prog w = .ok (.int .i64 y) w := by kernel_rfl
theorem ix3_2 (x y z : Int) (w : World) : (Instr.index 102 (.agg #[.int .i64 x, .int .i64 y, .int .i64 z]) (.int .i64 2)).run Tryd.prog w = .ok (.int .i64 z) w := by kernel_rfl

end Go.Proofs.YtaibngnabhmabajDoor

namespace Go.Proofs.YtaibngnabhmabajDoor
open Go.RowKit Go.Maps

theorem cel3_fit {p : Nat} (h3 : 3 ≤ p) (h4 : p ≤ 2147483647) (op a b c fp ap : Int) (i : Nat) : I64 (cel3 p op a b c fp ap i) := by
  have e : ∀ x : Int, I64 (x % (p : Int)) := fun x => by have := emod_bounds x p h3; exact ⟨by omega, by omega⟩
  have z : I64 0 := ⟨by decide, by decide⟩
  unfold cel3
  repeat' split
  all_goals first | exact e _ | exact z

end Go.Proofs.YtaibngnabhmabajDoor
