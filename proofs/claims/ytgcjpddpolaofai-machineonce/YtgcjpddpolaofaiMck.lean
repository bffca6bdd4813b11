/- attestref6.Walk: the walk. attestref6.Walk: the walk. -/
import Derived.Test.YtgcjpddpolaofaiMacJ
import Derived.Deep.RegionHeld3
namespace Go.Proofs.Ytgcjpddpolaofai
open Go.RowKit

def stvs (l : List (List Int)) : List Value := l.flatMap (fun x => x.map (Value.int .i64))
/-- steps of the call's own -/
def StR (base : Nat) (w : World) (v : Value) (l : List (List Int)) : Prop := w.ownsRow base 40 10 v l.length (stvs l)
theorem Try.infoStep : (Try.prog.info? 40).map (fun i => (i.zero, i.size, i.bytes)) = some (some (.agg #[.int .i64 0, .int .i64 0, .int .i64 0, .int .i64 0, .int .i64 0, .int .i64 0, .int .i64 0, .int .i64 0, .int .i64 0, .int .i64 0]), 10, 80) := by kernel_rfl
def lenW : Value → Nat
  | .slice _ n _ => n
  | _ => 0
section
variable {P : Program} {ops : Array Oper} {Q : Exit → Act → World → Prop} {md : Region.Mode} {S : World → Prop}
theorem drop_atM {i : Nat} {oi : Oper} {rest : List Oper} (hl : ops.toList.drop i = oi :: rest) : ops[i]? = some oi := by
  have := congrArg (fun l => l[0]?) hl
  simpa [List.getElem?_drop] using this
theorem wpAnyH_takeM {i : Nat} {oi : Oper} {rest : List Oper} {v : Value} {fuel : Nat} {listed : Array Bool} {a : Act} {w : World} (hl : ops.toList.drop i = oi :: rest)
    (hs : Region.noSelect ops = true) (hf : Region.free md ops listed i = true) (hr : (Region.ready md ops listed).contains i = true)
    (hQ : ∀ c a w, Q (.panic c) (a.put oi.dst v) w → Q (.panic c) a w) (hw : Region.wanted oi (yielded ops a.tmps) = true) (hy : ∀ w, S w → (execOp a.eval oi).run P w = .ok (.value v) w) (hS : S w)
    (h : wpAnyH P md ops Q S fuel (listed.setIfInBounds i true) (a.put oi.dst v) w) : wpAnyH P md ops Q S (fuel + 1) listed a w :=
  wpAnyH_take (drop_atM hl) hs hf hr hQ (Or.inl ⟨hw, hy⟩) hS h
theorem AllReadyH.consM {fuel : Nat} {listed : Array Bool} {a : Act} {w : World} {i : Nat} {o : Oper} {rest : List Oper} {rs : List Nat} (hl : ops.toList.drop i = o :: rest)
    (h : ∀ K' : Act → World → Prop, Shut (∀ a w, S w → (S w → wpAnyH P md ops Q S fuel (listed.setIfInBounds i true) a w) → K' a w) → if Region.wanted o (yielded ops a.tmps) = true then Oper.wp P o a w K' Q else K' (a.put o.dst undef) w)
    (hs : AllReadyH P md ops Q S fuel listed a w rs) : AllReadyH P md ops Q S fuel listed a w (i :: rs) := AllReadyH.cons (drop_atM hl) h hs
end
/-- the registers anew, nothing shown -/
def putNow (W : World) (M : Nat) (a b c d : Int) : World := (((((((((W.setCell ⟨M, 2, none⟩ (.int .i64 a)).setCell ⟨M, 3, none⟩ (.int .i64 b)).setCell ⟨M, 4, none⟩ (.int .i64 c)).setCell ⟨M, 5, none⟩ (.int .i64 d)).setCell ⟨M, 6, none⟩ (.int .i64 0)).setCell ⟨M, 7, none⟩ (.int .i64 0)).setCell ⟨M, 8, none⟩ (.int .i64 0)).setCell ⟨M, 9, none⟩ (.int .i64 0)).setCell ⟨M, 10, none⟩ (.int .i64 0)).setCell ⟨M, 11, none⟩ (.int .i64 0)
theorem putNow_oth (W : World) (M : Nat) (a b c d : Int) (k : Nat) (h : k ≠ M) : (putNow W M a b c d).heap[k]? = W.heap[k]? := by
  unfold putNow
  rw [Below.heap_setCell _ _ _ _ h, Below.heap_setCell _ _ _ _ h, Below.heap_setCell _ _ _ _ h, Below.heap_setCell _ _ _ _ h, Below.heap_setCell _ _ _ _ h, Below.heap_setCell _ _ _ _ h, Below.heap_setCell _ _ _ _ h, Below.heap_setCell _ _ _ _ h, Below.heap_setCell _ _ _ _ h, Below.heap_setCell _ _ _ _ h]
theorem putNow_gb (W : World) (M : Nat) (a b c d : Int) : W.grownBy (putNow W M a b c d) (some M) := by
  unfold putNow
  exact gbM (gbM (gbM (gbM (gbM (gbM (gbM (gbM (gbM (gbM (gb_same W M))))))))))
theorem stvs_app (l : List (List Int)) (x : List Int) : stvs (l ++ [x]) = stvs l ++ x.map (Value.int .i64) := by simp [stvs]
/-- what is known at the loop's head -/
structure WkI (p limit : Nat) (L : List InsZ) (X : WR) (s : RM) (l : List (List Int)) (f : Nat) : Prop where
  is : X = mgo p L limit f { s with slot := 0 } l
  fuel : l.length + f = limit + 1
  pos : 1 ≤ f
  cs : ∀ j, j < s.cs.length → 0 ≤ (cat s.cs j).2 ∧ (cat s.cs j).2 < p
  len : s.cs.length ≤ 1 + 2 * l.length
  rg : RgB p ⟨s.pc, s.fp, s.ap, s.rv⟩
  err : s.err = 0
/-- what Walk answers -/
def WkR (base : Nat) (X : WR) (w : World) (e : Ending) (w' : World) : Prop := Below w.heap.size w w' ∧ match X with
  | .bad z => e = .returned (.tuple #[.slice none 0 0, .slice none 0 0, .int .i64 z])
  | .good l cs => ∃ v1 v2, e = .returned (.tuple #[v1, v2, .int .i64 0]) ∧ StR base w' v1 l ∧ CelR base w' v2 cs
/-- append(l, s): a step more -/
theorem wpList_stp {ops : Array Oper} {rest : List Oper} {o : Oper} {act : Act} {Q : Exit → Act → World → Prop} (W : World) (hgd : o.guard = none) (s x : Operand)
    (ho : o.op = .call { callee := .builtin .append, args := #[s, x], argTypes := #[35, 35] }) (v : Value) (base : Nat) (l : List (List Int)) (z0 z1 z2 z3 z4 z5 z6 z7 z8 z9 : Int)
    (hown : StR base W v l) (hs : act.eval s = v) (hx : act.eval x = .slice (some ⟨W.heap.size, 0, none⟩) 1 1) (hlen : l.length ≤ 20000) (hbase : base ≤ W.heap.size)
    (h : ∀ v' w2, StR base w2 v' (l ++ [[z0, z1, z2, z3, z4, z5, z6, z7, z8, z9]]) → Below base W w2 → W.grownBy w2 v.ownBlock → wpList Try.prog ops Q rest (act.put o.dst v') w2) :
    wpList Try.prog ops Q (o :: rest) act (W.alloc (.cells #[.int .i64 z0, .int .i64 z1, .int .i64 z2, .int .i64 z3, .int .i64 z4, .int .i64 z5, .int .i64 z6, .int .i64 z7, .int .i64 z8, .int .i64 z9] 40)) := by
  obtain ⟨cs, hcs⟩ : ∃ cs, cs = #[Value.int .i64 z0, .int .i64 z1, .int .i64 z2, .int .i64 z3, .int .i64 z4, .int .i64 z5, .int .i64 z6, .int .i64 z7, .int .i64 z8, .int .i64 z9] := ⟨_, rfl⟩
  rw [← hcs]
  have hbw : Below W.heap.size W (W.alloc (.cells cs 40)) := (Below.refl _ _).alloc (Nat.le_refl _) _
  obtain ⟨i0, hi, hz0, hz1, hz2⟩ := info_parts Try.infoStep
  have h1 : (W.alloc (.cells cs 40)).ownsRow base 40 10 v l.length (stvs l) := hown.alloc _
  refine wpList_append_own _ hgd s x 35 ho base 40 i0 _ 10 80 Try.underlying35 hi hz0 hz1 hz2 rfl (by decide) _ _ _ hs h1 ⟨W.heap.size, 0, none⟩ 1 1 cs.toList hx (by rw [hcs]; rfl) ?_ ?_ (by unfold maxLen; omega) (by omega) (by simp; omega) ?_
  · intro j t hj
    have hc : (W.alloc (.cells cs 40)).heap[W.heap.size]? = some (.cells cs 40 (0, 0)) := heap_alloc_new W _
    have hadd : (⟨W.heap.size, 0, none⟩ : Addr).add j = ⟨W.heap.size, j, none⟩ := by unfold Addr.add; split <;> simp_all
    rw [hadd]
    simp only [World.cell?, hc]
    simpa using hj
  · intro t ht
    rw [hcs] at ht
    have ht2 : t = .int .i64 z0 ∨ t = .int .i64 z1 ∨ t = .int .i64 z2 ∨ t = .int .i64 z3 ∨ t = .int .i64 z4 ∨ t = .int .i64 z5 ∨ t = .int .i64 z6 ∨ t = .int .i64 z7 ∨ t = .int .i64 z8 ∨ t = .int .i64 z9 := by simpa using ht
    rcases ht2 with rfl | rfl | rfl | rfl | rfl | rfl | rfl | rfl | rfl | rfl <;> rfl
  · intro v' w2 hown2 hgrow _
    have hB0 : Below base (W.alloc (.cells cs 40)) w2 := (Below.refl base _).grown hgrow (by simp; omega) (fun k hk => (h1.lt k hk).1)
    refine h v' w2 ?_ ((hbw.mono hbase).trans hB0) ⟨hgrow.os, hgrow.tape, hgrow.output, by have := hgrow.size; simp at this; omega, fun k hk hne => (hgrow.block k (by simp; omega) hne).trans (hbw.block k hk)⟩
    unfold StR
    rw [stvs_app, List.length_append]
    rw [hcs] at hown2
    simpa using hown2

theorem gb_noneM {W W' : World} (e : Below W.heap.size W W') : W.grownBy W' none := ⟨e.os, e.tape, e.output, e.size, fun k hk _ => e.block k hk⟩
theorem gb_toM {g n : Nat} {A B : World} (h : A.grownBy B (some g)) (hn : n ≤ g) (hs : n ≤ A.heap.size) : Below n A B := ⟨h.os, h.tape, h.output, h.size, fun k hk => h.block k (by omega) (by intro e; injection e with e; omega)⟩

end Go.Proofs.Ytgcjpddpolaofai

namespace Go.Proofs.Ytgcjpddpolaofai
open Go.RowKit

end Go.Proofs.Ytgcjpddpolaofai
