/- attestref6.Walk: the walk. Package machine: step. Package machine: step, the walk. -/
import Derived.Test.YtdpdmgmeieijaaaGreatDoorSndAF
import Derived.Deep.RegionHeld3
import Derived.Test.YtdpdmgmeieijaaaGreatDoorSndAI
namespace Go.Proofs.YtdpdmgmeieijaaaGreatDoor
open Go.RowKit

def stvs (l : List (List Int)) : List Value := l.flatMap (fun x => x.map (Value.int .i64))
/-- steps of the call's own -/
def StR (base : Nat) (w : World) (v : Value) (l : List (List Int)) : Prop := w.ownsRow base 66 10 v l.length (stvs l)
theorem Tryz.infoStep : (Tryz.prog.info? 66).map (fun i => (i.zero, i.size, i.bytes)) = some (some (.agg #[.int .i64 0, .int .i64 0, .int .i64 0, .int .i64 0, .int .i64 0, .int .i64 0, .int .i64 0, .int .i64 0, .int .i64 0, .int .i64 0]), 10, 80) := by kernel_rfl
def lenW : Value → Nat
  | .slice _ n _ => n
  | _ => 0
section
variable {P : Program} {ops : Array Oper} {Q : Exit → Act → World → Prop} {md : Region.Mode} {S : World → Prop}
end
theorem stvs_app (l : List (List Int)) (x : List Int) : stvs (l ++ [x]) = stvs l ++ x.map (Value.int .i64) := by simp [stvs]
/-- what is known at the loop's head -/
structure WkI (p limit : Nat) (L : List InsZ) (X : WR) (s : RM) (l : List (List Int)) (f : Nat) : Prop where
  is : X = mgo p L limit f { s with slot := 0 } l
  fuel : l.length + f = limit + 1
  pos : 1 ≤ f
  cs : ∀ j, j < s.cs.length → 0 ≤ (cat s.cs j).2 ∧ (cat s.cs j).2 < p
  len : s.cs.length ≤ 1 + 2 * l.length
  rg : RgB p ⟨s.pc, s.fp, s.ap, s.rv⟩
  err : s.err = 0
/-- append(l, s): a step more -/
theorem wpList_stp {ops : Array Oper} {rest : List Oper} {o : Oper} {act : Act} {Q : Exit → Act → World → Prop} (W : World) (hgd : o.guard = none) (s x : Operand)
    (ho : o.op = .call { callee := .builtin .append, args := #[s, x], argTypes := #[60, 60] }) (v : Value) (base : Nat) (l : List (List Int)) (z0 z1 z2 z3 z4 z5 z6 z7 z8 z9 : Int)
    (hown : StR base W v l) (hs : act.eval s = v) (hx : act.eval x = .slice (some ⟨W.heap.size, 0, none⟩) 1 1) (hlen : l.length ≤ 20000) (hbase : base ≤ W.heap.size)
    (h : ∀ v' w2, StR base w2 v' (l ++ [[z0, z1, z2, z3, z4, z5, z6, z7, z8, z9]]) → Below base W w2 → W.grownBy w2 v.ownBlock → wpList Tryz.prog ops Q rest (act.put o.dst v') w2) :
    wpList Tryz.prog ops Q (o :: rest) act (W.alloc (.cells #[.int .i64 z0, .int .i64 z1, .int .i64 z2, .int .i64 z3, .int .i64 z4, .int .i64 z5, .int .i64 z6, .int .i64 z7, .int .i64 z8, .int .i64 z9] 66)) := by
  obtain ⟨cs, hcs⟩ : ∃ cs, cs = #[Value.int .i64 z0, .int .i64 z1, .int .i64 z2, .int .i64 z3, .int .i64 z4, .int .i64 z5, .int .i64 z6, .int .i64 z7, .int .i64 z8, .int .i64 z9] := ⟨_, rfl⟩
  rw [← hcs]
  have hbw : Below W.heap.size W (W.alloc (.cells cs 66)) := (Below.refl _ _).alloc (Nat.le_refl _) _
  obtain ⟨i0, hi, hz0, hz1, hz2⟩ := info_parts Tryz.infoStep
  have h1 : (W.alloc (.cells cs 66)).ownsRow base 66 10 v l.length (stvs l) := hown.alloc _
  refine wpList_append_own _ hgd s x 60 ho base 66 i0 _ 10 80 Tryz.underlying60 hi hz0 hz1 hz2 rfl (by decide) _ _ _ hs h1 ⟨W.heap.size, 0, none⟩ 1 1 cs.toList hx (by rw [hcs]; rfl) ?_ ?_ (by unfold maxLen; omega) (by omega) (by simp; omega) ?_
  · intro j t hj
    have hc : (W.alloc (.cells cs 66)).heap[W.heap.size]? = some (.cells cs 66 (0, 0)) := heap_alloc_new W _
    have hadd : (⟨W.heap.size, 0, none⟩ : Addr).add j = ⟨W.heap.size, j, none⟩ := by unfold Addr.add; split <;> simp_all
    rw [hadd]
    simp only [World.cell?, hc]
    simpa using hj
  · intro t ht
    rw [hcs] at ht
    have ht2 : t = .int .i64 z0 ∨ t = .int .i64 z1 ∨ t = .int .i64 z2 ∨ t = .int .i64 z3 ∨ t = .int .i64 z4 ∨ t = .int .i64 z5 ∨ t = .int .i64 z6 ∨ t = .int .i64 z7 ∨ t = .int .i64 z8 ∨ t = .int .i64 z9 := by simpa using ht
    rcases ht2 with rfl | rfl | rfl | rfl | rfl | rfl | rfl | rfl | rfl | rfl <;> rfl
  · intro v' w2 hown2 hgrow _
    have hB0 : Below base (W.alloc (.cells cs 66)) w2 := (Below.refl base _).grown hgrow (by simp; omega) (fun k hk => (h1.lt k hk).1)
    refine h v' w2 ?_ ((hbw.mono hbase).trans hB0) ⟨hgrow.os, hgrow.tape, hgrow.output, by have := hgrow.size; simp at this; omega, fun k hk hne => (hgrow.block k (by simp; omega) hne).trans (hbw.block k hk)⟩
    unfold StR
    rw [stvs_app, List.length_append]
    rw [hcs] at hown2
    simpa using hown2

theorem gb_noneM {W W' : World} (e : Below W.heap.size W W') : W.grownBy W' none := ⟨e.os, e.tape, e.output, e.size, fun k hk _ => e.block k hk⟩
theorem gb_toM {g n : Nat} {A B : World} (h : A.grownBy B (some g)) (hn : n ≤ g) (hs : n ≤ A.heap.size) : Below n A B := ⟨h.os, h.tape, h.output, h.size, fun k hk => h.block k (by omega) (by intro e; injection e with e; omega)⟩

end Go.Proofs.YtdpdmgmeieijaaaGreatDoor

namespace Go.Proofs.YtdpdmgmeieijaaaGreatDoor
open Go.RowKit Go.Maps

/-- of the blocks that were there two alone have turned -/
structure Gr2 (B R : Nat) (w W : World) : Prop where
  os : W.os = w.os
  tape : W.tape = w.tape
  output : W.output = w.output
  size : w.heap.size ≤ W.heap.size
  block : ∀ k, k < w.heap.size → k ≠ B → k ≠ R → W.heap[k]? = w.heap[k]?
theorem Gr2.of1 {B R : Nat} {w W : World} (h : w.grownBy W (some B)) : Gr2 B R w W := ⟨h.os, h.tape, h.output, h.size, fun k hk h1 _ => h.block k hk (by intro e; injection e with e; exact h1 e)⟩
theorem Gr2.of2 {B R : Nat} {w W : World} (h : w.grownBy W (some R)) : Gr2 B R w W := ⟨h.os, h.tape, h.output, h.size, fun k hk _ h1 => h.block k hk (by intro e; injection e with e; exact h1 e)⟩
theorem Gr2.ofB {B R : Nat} {w W : World} (h : Below w.heap.size w W) : Gr2 B R w W := ⟨h.os, h.tape, h.output, h.size, fun k hk _ _ => h.block k hk⟩
theorem Gr2.trans {B R : Nat} {a b c : World} (h : Gr2 B R a b) (k : Gr2 B R b c) : Gr2 B R a c := ⟨k.os.trans h.os, k.tape.trans h.tape, k.output.trans h.output, Nat.le_trans h.size k.size, fun j hj h1 h2 => (k.block j (Nat.lt_of_lt_of_le hj h.size) h1 h2).trans (h.block j hj h1 h2)⟩
theorem Gr2.to {B R N : Nat} {w W : World} (h : Gr2 B R w W) (hB : N ≤ B) (hR : N ≤ R) (hs : N ≤ w.heap.size) : Below N w W := ⟨h.os, h.tape, h.output, h.size, fun k hk => h.block k (by omega) (by omega) (by omega)⟩

/-- a step's cells -/
def st10 (n : Rg) (x y : Nat → Int) : Nat → Value
  | 0 => .int .i64 n.pc
  | 1 => .int .i64 n.fp
  | 2 => .int .i64 n.ap
  | 3 => .int .i64 n.rv
  | 4 => .int .i64 (x 0)
  | 5 => .int .i64 (x 1)
  | 6 => .int .i64 (x 2)
  | 7 => .int .i64 (y 0)
  | 8 => .int .i64 (y 1)
  | _ => .int .i64 (y 2)
/-- what stands in step -/
structure SpP (p R b B nB C G : Nat) (aL : Option Addr) (nL cL : Nat) (op ia ib ic : Int) (n : Rg) (cs : List (Int × Int)) (n0 : Rg) (x y : Nat → Int) (w W : World) : Prop where
  rn : RnAt W R b B aL nL cL n
  mp : MapAt W B nB cs
  hp : W.cell? ⟨b, 0, none⟩ = some (.int .i64 p)
  i : W.heap[C]? = some (.cells #[.int .i64 op, .int .i64 ia, .int .i64 ib, .int .i64 ic] 45 (0, 0))
  z : W.rowIs (C + 1) 66 10 (fun _ => .int .i64 0)
  s : W.rowIs G 66 10 (st10 n0 x y)
  gr : Gr2 B R w W
  cN : w.heap.size ≤ C
  cG : C + 1 < G

/-- two ways that meet again -/
theorem share {Good F : Nat → World → Prop} {goal : Prop} (h2 : (∀ G W, Good G W → F G W) → goal) (h1 : ∀ G W, Good G W → F G W) : goal := h2 h1
/-- a step's block that is new -/
theorem new10 (W : World) : (W.alloc (.cells #[.int .i64 0, .int .i64 0, .int .i64 0, .int .i64 0, .int .i64 0, .int .i64 0, .int .i64 0, .int .i64 0, .int .i64 0, .int .i64 0] 66)).rowIs W.heap.size 66 10 (fun _ => .int .i64 0) :=
  row_newM W _ _ 10 _ rfl (fun i hi => by rcases ten hi with rfl | rfl | rfl | rfl | rfl | rfl | rfl | rfl | rfl | rfl <;> rfl)

theorem put10_gb (W : World) (G : Nat) (f : Nat → Value) : W.grownBy (put10 W G f) (some G) := by
  unfold put10
  exact gbM (gbM (gbM (gbM (gbM (gbM (gbM (gbM (gbM (gbM (gb_same W G))))))))))
theorem put10_below {W0 W : World} {G : Nat} (e : Below W0.heap.size W0 W) (hG : W0.heap.size ≤ G) (f : Nat → Value) : Below W0.heap.size W0 (put10 W G f) :=
  e.trans (gb_toM (put10_gb W G f) hG e.size)
theorem SpP.of {p R b B nB C G : Nat} {aL : Option Addr} {nL cL : Nat} {op ia ib ic : Int} {n : Rg} {cs : List (Int × Int)} {x y : Nat → Int} {w W0 W : World} (hR : RnAt W0 R b B aL nL cL n) (hM : MapAt W0 B nB cs) (hp : W0.cell? ⟨b, 0, none⟩ = some (.int .i64 p)) (hi : W0.heap[C]? = some (.cells #[.int .i64 op, .int .i64 ia, .int .i64 ib, .int .i64 ic] 45 (0, 0))) (hz : W0.rowIs (C + 1) 66 10 (fun _ => .int .i64 0)) (hb : Below w.heap.size w W0) (e : Below W0.heap.size W0 W) (hs : W.rowIs G 66 10 (st10 n x y)) (hC : w.heap.size ≤ C) (hG : W0.heap.size ≤ G) : SpP p R b B nB C G aL nL cL op ia ib ic n cs n x y w W :=
  ⟨hR.of_block (e.block _ hR.lt), hM.kept (gb_noneM e) (by simp), (e.cell (p := ⟨b, 0, none⟩) (World.block_lt_of_cell? _ _ hp)).trans hp, (e.block _ (Array.getElem?_eq_some_iff.1 hi).1).trans hi, hz.of_block (e.block _ hz.lt), hs, (Gr2.ofB hb).trans (Gr2.ofB e), hC, Nat.lt_of_lt_of_le hz.lt hG⟩
section
variable {p R b B nB m C G : Nat} {aL : Option Addr} {nL cL : Nat} {op ia ib ic : Int} {n n' n0 : Rg} {cs cs' : List (Int × Int)} {x y : Nat → Int} {w W W' : World}
/-- the map turns -/
theorem SpP.told (h : SpP p R b B nB C G aL nL cL op ia ib ic n cs n0 x y w W) (g : W.grownBy W' (some B)) (hm : MapAt W' B m cs') : SpP p R b B m C G aL nL cL op ia ib ic n cs' n0 x y w W' :=
  ⟨h.rn.told h.mp g, hm, cell_told h.mp g h.hp, map_blk h.mp g h.i, by obtain ⟨c, h1, h2⟩ := h.z; exact ⟨c, map_blk h.mp g h1, h2⟩, by obtain ⟨c, h1, h2⟩ := h.s; exact ⟨c, map_blk h.mp g h1, h2⟩, h.gr.trans (Gr2.of1 g), h.cN, h.cG⟩
/-- nothing turns -/
theorem SpP.step (h : SpP p R b B nB C G aL nL cL op ia ib ic n cs n0 x y w W) (e : Below W.heap.size W W') : SpP p R b B nB C G aL nL cL op ia ib ic n cs n0 x y w W' :=
  ⟨h.rn.of_block (e.block _ h.rn.lt), h.mp.kept (gb_noneM e) (by simp), (e.cell (p := ⟨b, 0, none⟩) (World.block_lt_of_cell? _ _ h.hp)).trans h.hp, (e.block _ (Array.getElem?_eq_some_iff.1 h.i).1).trans h.i, h.z.of_block (e.block _ h.z.lt), h.s.of_block (e.block _ h.s.lt), h.gr.trans (Gr2.ofB e), h.cN, h.cG⟩
end

/-- what is shown so far -/
def fil (cs : List (Int × Int)) (x : Nat → Int) (j : Nat) : Nat → Int := fun i => if i < j then cvl cs (x i) else 0
section
variable {p R b B nB C G : Nat} {aL : Option Addr} {nL cL : Nat} {op ia ib ic : Int} {n n0 : Rg} {cs : List (Int × Int)} {x y y' : Nat → Int} {w W : World}
/-- a cell of the step's own is written -/
theorem SpP.put (h : SpP p R b B nB C G aL nL cL op ia ib ic n cs n0 x y w W) (k : Nat) (v : Int) (hb : b < w.heap.size) (hy : ∀ i, i < 10 → (if i = k then Value.int .i64 v else st10 n0 x y i) = st10 n0 x y' i) : SpP p R b B nB C G aL nL cL op ia ib ic n cs n0 x y' w (W.setCell ⟨G, k, none⟩ (.int .i64 v)) := by
  have hoth : ∀ j, j ≠ G → (W.setCell ⟨G, k, none⟩ (.int .i64 v)).heap[j]? = W.heap[j]? := fun j hj => Below.heap_setCell _ _ _ _ hj
  have hg : W.grownBy (W.setCell ⟨G, k, none⟩ (.int .i64 v)) (some G) := gbM (gb_same W G)
  have hs' := h.s
  have hr' := h.rn
  obtain ⟨c, hc, _⟩ := hs'
  obtain ⟨d, hd, _⟩ := hr'
  have hGR : R ≠ G := by
    rintro rfl
    rw [hc] at hd
    injection hd with hd
    injection hd with _ h2 _
    exact absurd h2 (by decide)
  have h1 := h.cN
  have h2 := h.cG
  exact ⟨h.rn.of_block (hoth _ hGR), h.mp.kept hg (by intro e; injection e with e; exact map_ne h.mp hc e.symm), (World.cell?_of_block (w := W) (a := ⟨b, 0, none⟩) (hoth b (by omega))).trans h.hp, (hoth _ (by omega)).trans h.i, h.z.of_block (hoth _ (by omega)), (h.s.set k (.int .i64 v)).congr (fun i hi => hy i hi), ⟨hg.os.trans h.gr.os, hg.tape.trans h.gr.tape, hg.output.trans h.gr.output, Nat.le_trans h.gr.size hg.size, fun j hj e1 e2 => (hoth j (by omega)).trans (h.gr.block j hj e1 e2)⟩, h.cN, h.cG⟩
end

theorem ix3_0 (x y z : Int) (w : World) : (Instr.index 64 (.agg #[.int .i64 x, .int .i64 y, .int .i64 z]) (.int .i64 0)).run Tryz.prog w = .ok (.int .i64 x) w := by kernel_rfl
theorem ix3_1 (x y z : Int) (w : World) : (Instr.index 64 (.agg #[.int .i64 x, .int .i64 y, .int .i64 z]) (.int .i64 1)).run Tryz.prog w = .ok (.int .i64 y) w := by kernel_rfl
theorem ix3_2 (x y z : Int) (w : World) : (Instr.index 64 (.agg #[.int .i64 x, .int .i64 y, .int .i64 z]) (.int .i64 2)).run Tryz.prog w = .ok (.int .i64 z) w := by kernel_rfl

end Go.Proofs.YtdpdmgmeieijaaaGreatDoor

namespace Go.Proofs.YtdpdmgmeieijaaaGreatDoor
open Go.RowKit Go.Maps

/-- how a step ends -/
def SpR (p R b B nB : Nat) (aL : Option Addr) (nL cL : Nat) (op ia ib ic : Int) (n : Rg) (cs : List (Int × Int)) (w : World) (e : Ending) (w' : World) : Prop :=
  let x := cel3 p op ia ib ic n.fp n.ap
  let r := wrk p op ib (x 0) (x 1) (x 2) n cs
  Gr2 B R w w' ∧ ((r.1 = 0 ∧ e = .returned (.agg #[.int .i64 n.pc, .int .i64 n.fp, .int .i64 n.ap, .int .i64 n.rv, .int .i64 (x 0), .int .i64 (x 1), .int .i64 (x 2), .int .i64 (cvl r.2 (x 0)), .int .i64 (cvl r.2 (x 1)), .int .i64 (cvl r.2 (x 2))]) ∧ RnAt w' R b B aL nL cL (mvg p op ia ib n (cvl r.2 (x 0)) (cvl r.2 (x 1)) (cvl r.2 (x 2))) ∧ MapAt w' B nB r.2) ∨ (r.1 = 7 ∧ e = pnc 88) ∨ (r.1 = 10 ∧ e = pnc 87))
theorem cel3_fit {p : Nat} (h3 : 3 ≤ p) (h4 : p ≤ 2147483647) (op a b c fp ap : Int) (i : Nat) : I64 (cel3 p op a b c fp ap i) := by
  have e : ∀ x : Int, I64 (x % (p : Int)) := fun x => by have := emod_bounds x p h3; exact ⟨by omega, by omega⟩
  have z : I64 0 := ⟨by decide, by decide⟩
  unfold cel3
  repeat' split
  all_goals first | exact e _ | exact z

set_option maxRecDepth 100000 in
set_option maxHeartbeats 4000000 in
theorem pstep_any (p R b B nB : Nat) (aL : Option Addr) (nL cL : Nat) (op ia ib ic : Int) (n : Rg) (cs : List (Int × Int)) (w : World) (h3 : 3 ≤ p) (h4 : p ≤ 2147483647) (hpr : Num.Prime p) (hR : RnAt w R b B aL nL cL n) (hM : MapAt w B nB cs) (hp : w.cell? ⟨b, 0, none⟩ = some (.int .i64 p)) (hnB : nB + 2 < maxLen) (hcs : ∀ x, 0 ≤ cvl cs x ∧ cvl cs x < p) (hi : I64 ia ∧ I64 ib ∧ I64 ic) (hn : I64 n.pc ∧ I64 n.fp ∧ I64 n.ap ∧ I64 n.rv) (hne : b ≠ R) :
    Calls Tryz.prog 54 #[.pointer (some ⟨R, 0, none⟩), .agg #[.int .i64 op, .int .i64 ia, .int .i64 ib, .int .i64 ic]] w (SpR p R b B (nB + 2) aL nL cL op ia ib ic n cs w) := by
  obtain ⟨W0, hW0⟩ : ∃ W0, W0 = (w.alloc (.cells #[.int .i64 op, .int .i64 ia, .int .i64 ib, .int .i64 ic] 45)).alloc (.cells #[.int .i64 0, .int .i64 0, .int .i64 0, .int .i64 0, .int .i64 0, .int .i64 0, .int .i64 0, .int .i64 0, .int .i64 0, .int .i64 0] 66) := ⟨_, rfl⟩
  obtain ⟨V, hV⟩ : ∃ V, V = w.alloc (.cells #[.int .i64 op, .int .i64 ia, .int .i64 ib, .int .i64 ic] 45) := ⟨_, rfl⟩
  have b1 : Below w.heap.size w V := by rw [hV]; exact (Below.refl _ _).alloc (Nat.le_refl _) _
  have hs : V.heap.size = w.heap.size + 1 := by rw [hV]; simp
  have hiv : V.heap[w.heap.size]? = some (.cells #[.int .i64 op, .int .i64 ia, .int .i64 ib, .int .i64 ic] 45 (0, 0)) := by rw [hV]; exact heap_alloc_new w _
  have b2 : Below V.heap.size V W0 := by rw [hW0, ← hV]; exact (Below.refl _ _).alloc (Nat.le_refl _) _
  have hb0 := b1.trans (b2.mono b1.size)
  have hi0 := (b2.block w.heap.size (by omega)).trans hiv
  have hz0 : W0.rowIs (w.heap.size + 1) 66 10 (fun _ => .int .i64 0) := by
    rw [hW0, ← hV, ← hs]
    exact row_newM V _ _ 10 _ rfl (fun i hi => by rcases ten hi with rfl | rfl | rfl | rfl | rfl | rfl | rfl | rfl | rfl | rfl <;> rfl)
  obtain ⟨C, hC⟩ : ∃ C, C = w.heap.size := ⟨_, rfl⟩
  rw [← hC] at hi0 hz0
  have hR0 : RnAt W0 R b B aL nL cL n := hR.of_block (hb0.block _ hR.lt)
  have hM0 : MapAt W0 B nB cs := hM.kept (gb_noneM hb0) (by simp)
  have hp0 := (hb0.cell (p := ⟨b, 0, none⟩) (World.block_lt_of_cell? _ _ hp)).trans hp
  have HB0 := hid hb0
  have HI0 := hid hi0
  have HZ0 := hid hz0
  have HR0 := hid hR0
  have HM0 := hid hM0
  have HP0 := hid hp0
  have HCN := hid hC
  have HNE := hid hne
  have HBL := hid (World.block_lt_of_cell? _ _ hp)
  have HNB := hid hnB
  have HCS := hid hcs
  have HII := hid hi
  have HNN := hid hn
  have HPR := hid hpr
  have c0 : W0.cell? ⟨R, 0, none⟩ = some (.pointer (some ⟨b, 0, none⟩)) := hR0.cell (i := 0) (by decide)
  have c3 : W0.cell? ⟨R, 3, none⟩ = some (.int .i64 n.pc) := hR0.cell (i := 3) (by decide)
  have c4 : W0.cell? ⟨R, 4, none⟩ = some (.int .i64 n.fp) := hR0.cell (i := 4) (by decide)
  have c5 : W0.cell? ⟨R, 5, none⟩ = some (.int .i64 n.ap) := hR0.cell (i := 5) (by decide)
  have c6 : W0.cell? ⟨R, 6, none⟩ = some (.int .i64 n.rv) := hR0.cell (i := 6) (by decide)
  have j0 := fourM0 hi0
  have j1 := fourM1 hi0
  have j2 := fourM2 hi0
  have j3 := fourM3 hi0
  have HKP : Hid (∀ W, Below W0.heap.size W0 W → (fun W => W.cell? ⟨R, 0, none⟩ = some (.pointer (some ⟨b, 0, none⟩)) ∧ W.cell? ⟨R, 3, none⟩ = some (.int .i64 n.pc) ∧ W.cell? ⟨R, 4, none⟩ = some (.int .i64 n.fp) ∧ W.cell? ⟨R, 5, none⟩ = some (.int .i64 n.ap) ∧ W.cell? ⟨R, 6, none⟩ = some (.int .i64 n.rv) ∧ W.cell? ⟨C, 0, none⟩ = some (.int .i64 op) ∧ W.cell? ⟨C, 1, none⟩ = some (.int .i64 ia) ∧ W.cell? ⟨C, 2, none⟩ = some (.int .i64 ib) ∧ W.cell? ⟨C, 3, none⟩ = some (.int .i64 ic)) W) := fun W hb => ⟨(hb.cell (p := ⟨R, 0, none⟩) (World.block_lt_of_cell? _ _ c0)).trans c0, (hb.cell (p := ⟨R, 3, none⟩) (World.block_lt_of_cell? _ _ c3)).trans c3, (hb.cell (p := ⟨R, 4, none⟩) (World.block_lt_of_cell? _ _ c4)).trans c4, (hb.cell (p := ⟨R, 5, none⟩) (World.block_lt_of_cell? _ _ c5)).trans c5, (hb.cell (p := ⟨R, 6, none⟩) (World.block_lt_of_cell? _ _ c6)).trans c6, (hb.cell (p := ⟨C, 0, none⟩) (World.block_lt_of_cell? _ _ j0)).trans j0, (hb.cell (p := ⟨C, 1, none⟩) (World.block_lt_of_cell? _ _ j1)).trans j1, (hb.cell (p := ⟨C, 2, none⟩) (World.block_lt_of_cell? _ _ j2)).trans j2, (hb.cell (p := ⟨C, 3, none⟩) (World.block_lt_of_cell? _ _ j3)).trans j3⟩
  obtain ⟨x, hx⟩ : ∃ x, x = cel3 p op ia ib ic n.fp n.ap := ⟨_, rfl⟩
  have HX := hid hx
  have HCE : Hid (∀ W, Below W0.heap.size W0 W → Calls Tryz.prog 78 #[.pointer (some ⟨b, 0, none⟩), .agg #[.int .i64 op, .int .i64 ia, .int .i64 ib, .int .i64 ic], .int .i64 n.fp, .int .i64 n.ap] W fun e w' => e = .returned (.agg #[.int .i64 (x 0), .int .i64 (x 1), .int .i64 (x 2)]) ∧ Below W.heap.size W w') := fun W hb => by
    rw [hx]
    exact pcells_any p b op ia ib ic n.fp n.ap W h3 h4 ((hb.cell (p := ⟨b, 0, none⟩) (World.block_lt_of_cell? _ _ hp0)).trans hp0) ⟨hi.1, hi.2.1, hi.2.2, hn.2.1, hn.2.2.1⟩
  clear hV b1 hs hiv b2 hb0 hi0 hz0 hR0 hM0 hp0 hR hM hp hnB hcs hi hn hne hpr hx
  have hix0 := ix3_0
  have hix1 := ix3_1
  have hix2 := ix3_2
  go_enter Tryz.func54, Tryz.ntmps54
  go_wp2_with fail
  rw [← hW0, ← hC]
  clear hW0 hC
  refine wp_region_held_drew (S := (fun W => W.cell? ⟨R, 0, none⟩ = some (.pointer (some ⟨b, 0, none⟩)) ∧ W.cell? ⟨R, 3, none⟩ = some (.int .i64 n.pc) ∧ W.cell? ⟨R, 4, none⟩ = some (.int .i64 n.fp) ∧ W.cell? ⟨R, 5, none⟩ = some (.int .i64 n.ap) ∧ W.cell? ⟨R, 6, none⟩ = some (.int .i64 n.rv) ∧ W.cell? ⟨C, 0, none⟩ = some (.int .i64 op) ∧ W.cell? ⟨C, 1, none⟩ = some (.int .i64 ia) ∧ W.cell? ⟨C, 2, none⟩ = some (.int .i64 ib) ∧ W.cell? ⟨C, 3, none⟩ = some (.int .i64 ic))) (by kernel_rfl) ⟨c0, c3, c4, c5, c6, j0, j1, j2, j3⟩ (fun hHeld => ?_)
  refine wpAnyH_takeW (i := 0) (v := .pointer (some ⟨R, 0, none⟩)) rfl (by kernel_rfl) (by kernel_rfl) (by kernel_rfl) (fun _ _ _ h => h) (by rfl) (fun W hC => by (obtain ⟨y0, y3, y4, y5, y6, z0, z1, z2, z3⟩ := hC); go_simp) hHeld ?_
  simp only [Act.put, List.setIfInBounds_toArray, List.set_cons_zero, List.set_cons_succ]
  refine wpAnyH_takeW (i := 1) (v := .pointer (some ⟨R, 0, none⟩)) rfl (by kernel_rfl) (by kernel_rfl) (by kernel_rfl) (fun _ _ _ h => h) (by rfl) (fun W hC => by (obtain ⟨y0, y3, y4, y5, y6, z0, z1, z2, z3⟩ := hC); go_simp) hHeld ?_
  simp only [Act.put, List.setIfInBounds_toArray, List.set_cons_zero, List.set_cons_succ]
  refine wpAnyH_takeW (i := 2) (v := .pointer (some ⟨R, 3, none⟩)) rfl (by kernel_rfl) (by kernel_rfl) (by kernel_rfl) (fun _ _ _ h => h) (by rfl) (fun W hC => by (obtain ⟨y0, y3, y4, y5, y6, z0, z1, z2, z3⟩ := hC); go_simp) hHeld ?_
  simp only [Act.put, List.setIfInBounds_toArray, List.set_cons_zero, List.set_cons_succ]
  refine wpAnyH_takeW (i := 3) (v := .int .i64 n.pc) rfl (by kernel_rfl) (by kernel_rfl) (by kernel_rfl) (fun _ _ _ h => h) (by rfl) (fun W hC => by (obtain ⟨y0, y3, y4, y5, y6, z0, z1, z2, z3⟩ := hC); go_simp) hHeld ?_
  simp only [Act.put, List.setIfInBounds_toArray, List.set_cons_zero, List.set_cons_succ]
  refine wpAnyH_takeW (i := 4) (v := .pointer (some ⟨R, 0, none⟩)) rfl (by kernel_rfl) (by kernel_rfl) (by kernel_rfl) (fun _ _ _ h => h) (by rfl) (fun W hC => by (obtain ⟨y0, y3, y4, y5, y6, z0, z1, z2, z3⟩ := hC); go_simp) hHeld ?_
  simp only [Act.put, List.setIfInBounds_toArray, List.set_cons_zero, List.set_cons_succ]
  refine wpAnyH_takeW (i := 5) (v := .pointer (some ⟨R, 0, none⟩)) rfl (by kernel_rfl) (by kernel_rfl) (by kernel_rfl) (fun _ _ _ h => h) (by rfl) (fun W hC => by (obtain ⟨y0, y3, y4, y5, y6, z0, z1, z2, z3⟩ := hC); go_simp) hHeld ?_
  simp only [Act.put, List.setIfInBounds_toArray, List.set_cons_zero, List.set_cons_succ]
  refine wpAnyH_takeW (i := 6) (v := .pointer (some ⟨R, 4, none⟩)) rfl (by kernel_rfl) (by kernel_rfl) (by kernel_rfl) (fun _ _ _ h => h) (by rfl) (fun W hC => by (obtain ⟨y0, y3, y4, y5, y6, z0, z1, z2, z3⟩ := hC); go_simp) hHeld ?_
  simp only [Act.put, List.setIfInBounds_toArray, List.set_cons_zero, List.set_cons_succ]
  refine wpAnyH_takeW (i := 7) (v := .int .i64 n.fp) rfl (by kernel_rfl) (by kernel_rfl) (by kernel_rfl) (fun _ _ _ h => h) (by rfl) (fun W hC => by (obtain ⟨y0, y3, y4, y5, y6, z0, z1, z2, z3⟩ := hC); go_simp) hHeld ?_
  simp only [Act.put, List.setIfInBounds_toArray, List.set_cons_zero, List.set_cons_succ]
  refine wpAnyH_takeW (i := 8) (v := .pointer (some ⟨R, 0, none⟩)) rfl (by kernel_rfl) (by kernel_rfl) (by kernel_rfl) (fun _ _ _ h => h) (by rfl) (fun W hC => by (obtain ⟨y0, y3, y4, y5, y6, z0, z1, z2, z3⟩ := hC); go_simp) hHeld ?_
  simp only [Act.put, List.setIfInBounds_toArray, List.set_cons_zero, List.set_cons_succ]
  refine wpAnyH_takeW (i := 9) (v := .pointer (some ⟨R, 0, none⟩)) rfl (by kernel_rfl) (by kernel_rfl) (by kernel_rfl) (fun _ _ _ h => h) (by rfl) (fun W hC => by (obtain ⟨y0, y3, y4, y5, y6, z0, z1, z2, z3⟩ := hC); go_simp) hHeld ?_
  simp only [Act.put, List.setIfInBounds_toArray, List.set_cons_zero, List.set_cons_succ]
  refine wpAnyH_takeW (i := 10) (v := .pointer (some ⟨R, 5, none⟩)) rfl (by kernel_rfl) (by kernel_rfl) (by kernel_rfl) (fun _ _ _ h => h) (by rfl) (fun W hC => by (obtain ⟨y0, y3, y4, y5, y6, z0, z1, z2, z3⟩ := hC); go_simp) hHeld ?_
  simp only [Act.put, List.setIfInBounds_toArray, List.set_cons_zero, List.set_cons_succ]
  refine wpAnyH_takeW (i := 11) (v := .int .i64 n.ap) rfl (by kernel_rfl) (by kernel_rfl) (by kernel_rfl) (fun _ _ _ h => h) (by rfl) (fun W hC => by (obtain ⟨y0, y3, y4, y5, y6, z0, z1, z2, z3⟩ := hC); go_simp) hHeld ?_
  simp only [Act.put, List.setIfInBounds_toArray, List.set_cons_zero, List.set_cons_succ]
  refine wpAnyH_takeW (i := 12) (v := .pointer (some ⟨R, 0, none⟩)) rfl (by kernel_rfl) (by kernel_rfl) (by kernel_rfl) (fun _ _ _ h => h) (by rfl) (fun W hC => by (obtain ⟨y0, y3, y4, y5, y6, z0, z1, z2, z3⟩ := hC); go_simp) hHeld ?_
  simp only [Act.put, List.setIfInBounds_toArray, List.set_cons_zero, List.set_cons_succ]
  refine wpAnyH_takeW (i := 13) (v := .pointer (some ⟨R, 0, none⟩)) rfl (by kernel_rfl) (by kernel_rfl) (by kernel_rfl) (fun _ _ _ h => h) (by rfl) (fun W hC => by (obtain ⟨y0, y3, y4, y5, y6, z0, z1, z2, z3⟩ := hC); go_simp) hHeld ?_
  simp only [Act.put, List.setIfInBounds_toArray, List.set_cons_zero, List.set_cons_succ]
  refine wpAnyH_takeW (i := 14) (v := .pointer (some ⟨R, 6, none⟩)) rfl (by kernel_rfl) (by kernel_rfl) (by kernel_rfl) (fun _ _ _ h => h) (by rfl) (fun W hC => by (obtain ⟨y0, y3, y4, y5, y6, z0, z1, z2, z3⟩ := hC); go_simp) hHeld ?_
  simp only [Act.put, List.setIfInBounds_toArray, List.set_cons_zero, List.set_cons_succ]
  refine wpAnyH_takeW (i := 15) (v := .int .i64 n.rv) rfl (by kernel_rfl) (by kernel_rfl) (by kernel_rfl) (fun _ _ _ h => h) (by rfl) (fun W hC => by (obtain ⟨y0, y3, y4, y5, y6, z0, z1, z2, z3⟩ := hC); go_simp) hHeld ?_
  simp only [Act.put, List.setIfInBounds_toArray, List.set_cons_zero, List.set_cons_succ]
  refine wpAnyH_takeW (i := 16) (v := .pointer (some ⟨R, 0, none⟩)) rfl (by kernel_rfl) (by kernel_rfl) (by kernel_rfl) (fun _ _ _ h => h) (by rfl) (fun W hC => by (obtain ⟨y0, y3, y4, y5, y6, z0, z1, z2, z3⟩ := hC); go_simp) hHeld ?_
  simp only [Act.put, List.setIfInBounds_toArray, List.set_cons_zero, List.set_cons_succ]
  refine wpAnyH_takeW (i := 17) (v := .pointer (some ⟨R, 0, none⟩)) rfl (by kernel_rfl) (by kernel_rfl) (by kernel_rfl) (fun _ _ _ h => h) (by rfl) (fun W hC => by (obtain ⟨y0, y3, y4, y5, y6, z0, z1, z2, z3⟩ := hC); go_simp) hHeld ?_
  simp only [Act.put, List.setIfInBounds_toArray, List.set_cons_zero, List.set_cons_succ]
  refine wpAnyH_takeW (i := 18) (v := .pointer (some ⟨R, 0, none⟩)) rfl (by kernel_rfl) (by kernel_rfl) (by kernel_rfl) (fun _ _ _ h => h) (by rfl) (fun W hC => by (obtain ⟨y0, y3, y4, y5, y6, z0, z1, z2, z3⟩ := hC); go_simp) hHeld ?_
  simp only [Act.put, List.setIfInBounds_toArray, List.set_cons_zero, List.set_cons_succ]
  refine wpAnyH_takeW (i := 19) (v := .pointer (some ⟨b, 0, none⟩)) rfl (by kernel_rfl) (by kernel_rfl) (by kernel_rfl) (fun _ _ _ h => h) (by rfl) (fun W hC => by (obtain ⟨y0, y3, y4, y5, y6, z0, z1, z2, z3⟩ := hC); go_simp) hHeld ?_
  simp only [Act.put, List.setIfInBounds_toArray, List.set_cons_zero, List.set_cons_succ]
  refine wpAnyH_takeW (i := 20) (v := .agg #[.int .i64 op, .int .i64 ia, .int .i64 ib, .int .i64 ic]) rfl (by kernel_rfl) (by kernel_rfl) (by kernel_rfl) (fun _ _ _ h => h) (by rfl) (fun W hC => by (obtain ⟨y0, y3, y4, y5, y6, z0, z1, z2, z3⟩ := hC); go_simp) hHeld ?_
  simp only [Act.put, List.setIfInBounds_toArray, List.set_cons_zero, List.set_cons_succ]
  refine wpAnyH_takeW (i := 21) (v := .pointer (some ⟨R, 0, none⟩)) rfl (by kernel_rfl) (by kernel_rfl) (by kernel_rfl) (fun _ _ _ h => h) (by rfl) (fun W hC => by (obtain ⟨y0, y3, y4, y5, y6, z0, z1, z2, z3⟩ := hC); go_simp) hHeld ?_
  simp only [Act.put, List.setIfInBounds_toArray, List.set_cons_zero, List.set_cons_succ]
  refine wpAnyH_takeW (i := 22) (v := .pointer (some ⟨R, 0, none⟩)) rfl (by kernel_rfl) (by kernel_rfl) (by kernel_rfl) (fun _ _ _ h => h) (by rfl) (fun W hC => by (obtain ⟨y0, y3, y4, y5, y6, z0, z1, z2, z3⟩ := hC); go_simp) hHeld ?_
  simp only [Act.put, List.setIfInBounds_toArray, List.set_cons_zero, List.set_cons_succ]
  refine wpAnyH_takeW (i := 23) (v := .pointer (some ⟨R, 4, none⟩)) rfl (by kernel_rfl) (by kernel_rfl) (by kernel_rfl) (fun _ _ _ h => h) (by rfl) (fun W hC => by (obtain ⟨y0, y3, y4, y5, y6, z0, z1, z2, z3⟩ := hC); go_simp) hHeld ?_
  simp only [Act.put, List.setIfInBounds_toArray, List.set_cons_zero, List.set_cons_succ]
  refine wpAnyH_takeW (i := 24) (v := .int .i64 n.fp) rfl (by kernel_rfl) (by kernel_rfl) (by kernel_rfl) (fun _ _ _ h => h) (by rfl) (fun W hC => by (obtain ⟨y0, y3, y4, y5, y6, z0, z1, z2, z3⟩ := hC); go_simp) hHeld ?_
  simp only [Act.put, List.setIfInBounds_toArray, List.set_cons_zero, List.set_cons_succ]
  refine wpAnyH_takeW (i := 25) (v := .pointer (some ⟨R, 0, none⟩)) rfl (by kernel_rfl) (by kernel_rfl) (by kernel_rfl) (fun _ _ _ h => h) (by rfl) (fun W hC => by (obtain ⟨y0, y3, y4, y5, y6, z0, z1, z2, z3⟩ := hC); go_simp) hHeld ?_
  simp only [Act.put, List.setIfInBounds_toArray, List.set_cons_zero, List.set_cons_succ]
  refine wpAnyH_takeW (i := 26) (v := .pointer (some ⟨R, 0, none⟩)) rfl (by kernel_rfl) (by kernel_rfl) (by kernel_rfl) (fun _ _ _ h => h) (by rfl) (fun W hC => by (obtain ⟨y0, y3, y4, y5, y6, z0, z1, z2, z3⟩ := hC); go_simp) hHeld ?_
  simp only [Act.put, List.setIfInBounds_toArray, List.set_cons_zero, List.set_cons_succ]
  refine wpAnyH_takeW (i := 27) (v := .pointer (some ⟨R, 5, none⟩)) rfl (by kernel_rfl) (by kernel_rfl) (by kernel_rfl) (fun _ _ _ h => h) (by rfl) (fun W hC => by (obtain ⟨y0, y3, y4, y5, y6, z0, z1, z2, z3⟩ := hC); go_simp) hHeld ?_
  simp only [Act.put, List.setIfInBounds_toArray, List.set_cons_zero, List.set_cons_succ]
  refine wpAnyH_takeW (i := 28) (v := .int .i64 n.ap) rfl (by kernel_rfl) (by kernel_rfl) (by kernel_rfl) (fun _ _ _ h => h) (by rfl) (fun W hC => by (obtain ⟨y0, y3, y4, y5, y6, z0, z1, z2, z3⟩ := hC); go_simp) hHeld ?_
  simp only [Act.put, List.setIfInBounds_toArray, List.set_cons_zero, List.set_cons_succ]
  have hbd : Below W0.heap.size W0 W0.drew := ⟨rfl, rfl, rfl, Nat.le_refl _, fun _ _ => rfl⟩
  refine share (F := ?F) (Good := fun G W => Below W0.heap.size W0 W ∧ W.rowIs G 66 10 (fun _ => .int .i64 0) ∧ W0.heap.size ≤ G) (fun REST => ?b1) ?b2
  case b1 =>
    refine wpAnyH_ready (rs := [29, 31]) (by kernel_rfl) (by simp) ?_
    refine AllReadyH.consW rfl (fun K hK => ?_) (AllReadyH.consW rfl (fun K hK => ?_) AllReadyH.nil)
    · go_simp
      refine (HCE.out _ hbd).mono ?_
      rintro e w1 ⟨rfl, hb1⟩
      have hb01 : Below W0.heap.size W0 w1 := ⟨hb1.os, hb1.tape, hb1.output, hb1.size, hb1.block⟩
      refine hK.out _ _ (HKP.out w1 hb01) (fun hHeld => ?_)
      clear hK K
      refine wpAnyH_takeW (i := 30) (v := .agg #[.int .i64 n.pc, .int .i64 n.fp, .int .i64 n.ap, .int .i64 n.rv, .int .i64 (x 0), .int .i64 (x 1), .int .i64 (x 2), .int .i64 0, .int .i64 0, .int .i64 0]) rfl (by kernel_rfl) (by kernel_rfl) (by kernel_rfl) (fun _ _ _ h => h) (by rfl) (fun W hC => by (obtain ⟨y0, y3, y4, y5, y6, z0, z1, z2, z3⟩ := hC); go_simp) hHeld ?_
      simp only [Act.put, List.setIfInBounds_toArray, List.set_cons_zero, List.set_cons_succ]
      refine wpAnyH_ready (rs := [31]) (by kernel_rfl) (by simp) ?_
      refine AllReadyH.consW rfl (fun K hK => ?_) AllReadyH.nil
      go_simp
      have hb02 := hb01.trans (((Below.refl w1.heap.size w1).alloc (Nat.le_refl _) (.cells #[.int .i64 0, .int .i64 0, .int .i64 0, .int .i64 0, .int .i64 0, .int .i64 0, .int .i64 0, .int .i64 0, .int .i64 0, .int .i64 0] 66)).mono hb01.size)
      have hn10 := new10 w1
      have hsz := hb01.size
      refine hK.out _ _ (HKP.out _ hb02) (fun hHeld => ?_)
      clear hK K hb1 hb01 hHeld
      generalize w1.alloc (.cells #[.int .i64 0, .int .i64 0, .int .i64 0, .int .i64 0, .int .i64 0, .int .i64 0, .int .i64 0, .int .i64 0, .int .i64 0, .int .i64 0] 66) = W at *
      generalize w1.heap.size = G at *
      exact REST G W ⟨hb02, hn10, hsz⟩
    · go_simp
      have hn10 := new10 W0.drew
      have hbV : Below W0.heap.size W0 (W0.drew.alloc (.cells #[.int .i64 0, .int .i64 0, .int .i64 0, .int .i64 0, .int .i64 0, .int .i64 0, .int .i64 0, .int .i64 0, .int .i64 0, .int .i64 0] 66)) := hbd.alloc (Nat.le_refl _) _
      refine hK.out _ _ (HKP.out _ hbV) (fun hHeld => ?_)
      clear hK K
      refine wpAnyH_ready (rs := [29]) (by kernel_rfl) (by simp) ?_
      refine AllReadyH.consW rfl (fun K hK => ?_) AllReadyH.nil
      go_simp
      refine (HCE.out _ hbV).mono ?_
      rintro e w1 ⟨rfl, hb1⟩
      have hb01 := hbV.trans (hb1.mono hbV.size)
      refine hK.out _ _ (HKP.out w1 hb01) (fun hHeld => ?_)
      clear hK K
      refine wpAnyH_takeW (i := 30) (v := .agg #[.int .i64 n.pc, .int .i64 n.fp, .int .i64 n.ap, .int .i64 n.rv, .int .i64 (x 0), .int .i64 (x 1), .int .i64 (x 2), .int .i64 0, .int .i64 0, .int .i64 0]) rfl (by kernel_rfl) (by kernel_rfl) (by kernel_rfl) (fun _ _ _ h => h) (by rfl) (fun W hC => by (obtain ⟨y0, y3, y4, y5, y6, z0, z1, z2, z3⟩ := hC); go_simp) hHeld ?_
      simp only [Act.put, List.setIfInBounds_toArray, List.set_cons_zero, List.set_cons_succ]
      exact REST _ w1 ⟨hb01, hn10.of_block (hb1.block _ hn10.lt), Nat.le_refl _⟩
  case b2 =>
    rintro G W ⟨hbW, hrG, hGs⟩
    have hfz := hrG.frozen
    have HRG := hid hrG
    have HBW := hid hbW
    have HGS := hid hGs
    have g0 := hrG.cell (i := 0) (by decide)
    have g1 := hrG.cell (i := 1) (by decide)
    have g2 := hrG.cell (i := 2) (by decide)
    have g3 := hrG.cell (i := 3) (by decide)
    have g4 := hrG.cell (i := 4) (by decide)
    have g5 := hrG.cell (i := 5) (by decide)
    have g6 := hrG.cell (i := 6) (by decide)
    have g7 := hrG.cell (i := 7) (by decide)
    have g8 := hrG.cell (i := 8) (by decide)
    have g9 := hrG.cell (i := 9) (by decide)
    clear hrG hbW hGs
    refine wpAnyH_ready (rs := [32]) (by kernel_rfl) (by simp) ?_
    refine AllReadyH.consW rfl (fun K hK => ?_) AllReadyH.nil
    go_simp
    have hbP := put10_below HBW.out HGS.out (st10 n x (fun _ => 0))
    have HSP := hid (SpP.of (C := C) (G := G) HR0.out HM0.out HP0.out HI0.out HZ0.out HB0.out hbP (put10_row HRG.out (st10 n x (fun _ => 0))) (Nat.le_of_eq HCN.out.symm) HGS.out)
    refine hK.out _ (put10 W G (st10 n x (fun _ => 0))) (HKP.out _ hbP) (fun hHeld => ?_)
    clear hK K hHeld
    refine wpAnyH_done (by kernel_rfl) ?_ _
    clear hbP hbd HBW HRG HGS hfz g0 g1 g2 g3 g4 g5 g6 g7 g8 g9 HCE HKP c0 c3 c4 c5 c6 j0 j1 j2 j3 HR0 HM0 HP0 HI0 HZ0 HB0
    generalize put10 W G (st10 n x (fun _ => 0)) = W2 at *
    have k4 := HSP.out.s.cell (i := 4) (by decide)
    have k5 := HSP.out.s.cell (i := 5) (by decide)
    have k6 := HSP.out.s.cell (i := 6) (by decide)
    simp only [st10] at k4 k5 k6
    have j0 := fourM0 HSP.out.i
    have j1 := fourM1 HSP.out.i
    have j2 := fourM2 HSP.out.i
    have j3 := fourM3 HSP.out.i
    have HWK := hid (pwork_any p R b B nB aL nL cL op ia ib ic (x 0) (x 1) (x 2) n cs W2 h3 h4 HPR.out HSP.out.rn HSP.out.mp HSP.out.hp HNB.out ⟨by rw [HX.out]; exact cel3_fit h3 h4 _ _ _ _ _ _ _, by rw [HX.out]; exact cel3_fit h3 h4 _ _ _ _ _ _ _, by rw [HX.out]; exact cel3_fit h3 h4 _ _ _ _ _ _ _⟩ HCS.out HII.out.2.1 ⟨HNN.out.1, HNN.out.2.1, HNN.out.2.2.2⟩)
    go_wp2_with fail
    refine HWK.out.mono ?_
    rintro e w3 ⟨hg3, hw3⟩
    obtain ⟨r, hr⟩ : ∃ r, r = wrk p op ib (x 0) (x 1) (x 2) n cs := ⟨_, rfl⟩
    rw [← hr] at hw3
    have HSR : Hid (∀ e w', (Gr2 B R w w' ∧ ((r.1 = 0 ∧ e = .returned (.agg #[.int .i64 n.pc, .int .i64 n.fp, .int .i64 n.ap, .int .i64 n.rv, .int .i64 (x 0), .int .i64 (x 1), .int .i64 (x 2), .int .i64 (cvl r.2 (x 0)), .int .i64 (cvl r.2 (x 1)), .int .i64 (cvl r.2 (x 2))]) ∧ RnAt w' R b B aL nL cL (mvg p op ia ib n (cvl r.2 (x 0)) (cvl r.2 (x 1)) (cvl r.2 (x 2))) ∧ MapAt w' B (nB + 2) r.2) ∨ (r.1 = 7 ∧ e = pnc 88) ∨ (r.1 = 10 ∧ e = pnc 87))) → SpR p R b B (nB + 2) aL nL cL op ia ib ic n cs w e w') := fun e w' h => by
      unfold SpR
      rw [← HX.out]
      simp only [← hr]
      exact h
    have HXF : Hid (I64 (x 0) ∧ I64 (x 1) ∧ I64 (x 2)) := ⟨by rw [HX.out]; exact cel3_fit h3 h4 _ _ _ _ _ _ _, by rw [HX.out]; exact cel3_fit h3 h4 _ _ _ _ _ _ _, by rw [HX.out]; exact cel3_fit h3 h4 _ _ _ _ _ _ _⟩
    rcases hw3 with ⟨h0, rfl, hm3⟩ | ⟨h7, rfl⟩ | ⟨h10, rfl⟩
    · have HS3 := hid (HSP.out.told hg3 hm3)
      have HH0 := hid h0
      obtain ⟨e7, cs2⟩ := r
      clear hg3 hm3 h0 hr HSP HWK k4 k5 k6 j0 j1 j2 j3
      have k4 := HS3.out.s.cell (i := 4) (by decide)
      have k5 := HS3.out.s.cell (i := 5) (by decide)
      have k6 := HS3.out.s.cell (i := 6) (by decide)
      simp only [st10] at k4 k5 k6
      go_wp2_with fail
      go_loopw [46] (fun u wr => ∃ j : Nat, j ≤ 3 ∧ u = .int .i64 (j : Int) ∧ Hid (SpP p R b B (nB + 2) C G aL nL cL op ia ib ic n cs2 n x (fil cs2 x j) w wr)) (fun u _ => (3 - intOf u).toNat)
      case atStart => exact ⟨0, by decide, rfl, HS3.out⟩
      case round =>
        obtain ⟨j, hj, rfl, HSJ⟩ := hrel
        obtain ⟨D, hD, hC⟩ := HSJ.out.mp
        have c2 : wr.cell? ⟨R, 2, none⟩ = some (.map (some B)) := HSJ.out.rn.cell (i := 2) (by decide)
        have hfz := HSJ.out.s.frozen
        have hj4 : j = 0 ∨ j = 1 ∨ j = 2 ∨ j = 3 := by omega
        rcases hj4 with rfl | rfl | rfl | rfl
        · have hlt : ((0 : Nat) : Int) < 3 := by decide
          have q0 : wr.cell? ⟨G, 7, none⟩ = some (.int .i64 (fil cs2 x 0 0)) := HSJ.out.s.cell (i := 7) (by decide)
          have HN := hid (HSJ.out.put 7 (cvl cs2 (x 0)) HBL.out (y' := fil cs2 x 1) (fun i hi => by rcases ten hi with rfl | rfl | rfl | rfl | rfl | rfl | rfl | rfl | rfl | rfl <;> simp [st10, fil]))
          go_wp2_with (at_lookup; refine wpList_lookup_own_int _ rfl _ _ 61 rfl 3 3 .i64 keyI Tryz.underlying61 Tryz.underlying3 (zeroI _) B (nB + 2) _ rfl hD _ _ rfl (key64 HXF.out.1) ?_; intro c hat hwc; obtain rfl : c = cvl cs2 (x 0) := by (rw [(hC (x 0) HXF.out.1).2] at hat; injection hat with hat; injection hat with _ hat; exact hat.symm))
          go_roundw
          case rel => exact ⟨1, by decide, rfl, HN.out⟩
          case measure => simp [intOf]
        · have hlt : ((1 : Nat) : Int) < 3 := by decide
          have q1 : wr.cell? ⟨G, 8, none⟩ = some (.int .i64 (fil cs2 x 1 1)) := HSJ.out.s.cell (i := 8) (by decide)
          have HN := hid (HSJ.out.put 8 (cvl cs2 (x 1)) HBL.out (y' := fil cs2 x 2) (fun i hi => by rcases ten hi with rfl | rfl | rfl | rfl | rfl | rfl | rfl | rfl | rfl | rfl <;> simp [st10, fil]))
          go_wp2_with (at_lookup; refine wpList_lookup_own_int _ rfl _ _ 61 rfl 3 3 .i64 keyI Tryz.underlying61 Tryz.underlying3 (zeroI _) B (nB + 2) _ rfl hD _ _ rfl (key64 HXF.out.2.1) ?_; intro c hat hwc; obtain rfl : c = cvl cs2 (x 1) := by (rw [(hC (x 1) HXF.out.2.1).2] at hat; injection hat with hat; injection hat with _ hat; exact hat.symm))
          go_roundw
          case rel => exact ⟨2, by decide, rfl, HN.out⟩
          case measure => simp [intOf]
        · have hlt : ((2 : Nat) : Int) < 3 := by decide
          have q2 : wr.cell? ⟨G, 9, none⟩ = some (.int .i64 (fil cs2 x 2 2)) := HSJ.out.s.cell (i := 9) (by decide)
          have HN := hid (HSJ.out.put 9 (cvl cs2 (x 2)) HBL.out (y' := fil cs2 x 3) (fun i hi => by rcases ten hi with rfl | rfl | rfl | rfl | rfl | rfl | rfl | rfl | rfl | rfl <;> simp [st10, fil]))
          go_wp2_with (at_lookup; refine wpList_lookup_own_int _ rfl _ _ 61 rfl 3 3 .i64 keyI Tryz.underlying61 Tryz.underlying3 (zeroI _) B (nB + 2) _ rfl hD _ _ rfl (key64 HXF.out.2.2) ?_; intro c hat hwc; obtain rfl : c = cvl cs2 (x 2) := by (rw [(hC (x 2) HXF.out.2.2).2] at hat; injection hat with hat; injection hat with _ hat; exact hat.symm))
          go_roundw
          case rel => exact ⟨3, by decide, rfl, HN.out⟩
          case measure => simp [intOf]
        · have hlt : ¬ ((3 : Nat) : Int) < 3 := by decide
          have i0 := fourM0 HSJ.out.i
          have i1 := fourM1 HSJ.out.i
          have i2 := fourM2 HSJ.out.i
          have i3 := fourM3 HSJ.out.i
          have s7 : wr.cell? ⟨G, 7, none⟩ = some (.int .i64 (cvl cs2 (x 0))) := HSJ.out.s.cell (i := 7) (by decide)
          have s8 : wr.cell? ⟨G, 8, none⟩ = some (.int .i64 (cvl cs2 (x 1))) := HSJ.out.s.cell (i := 8) (by decide)
          have s9 : wr.cell? ⟨G, 9, none⟩ = some (.int .i64 (cvl cs2 (x 2))) := HSJ.out.s.cell (i := 9) (by decide)
          have HMV := hid (pmove_any p R b B aL nL cL op ia ib ic (cvl cs2 (x 0)) (cvl cs2 (x 1)) (cvl cs2 (x 2)) n wr h3 h4 HSJ.out.rn HSJ.out.hp HNE.out ⟨HNN.out.1, HNN.out.2.2.1⟩ ⟨HII.out.1, HII.out.2.1⟩)
          have HMM := hid HSJ.out.mp
          clear hC hD hfz c2 hlt
          go_wp2_with fail
          refine HMV.out.mono ?_
          rintro e w4 ⟨rfl, hr4, hg4⟩
          have hKp : ∀ {k : Nat} {c' : Array Value} {t' : TypeId} {f' : Nat × Nat}, wr.heap[k]? = some (.cells c' t' f') → t' ≠ 94 → w4.heap[k]? = some (.cells c' t' f') := fun {k c' t' f'} hk ht => by
            refine (hg4.block k (Array.getElem?_eq_some_iff.1 hk).1 ?_).trans hk
            intro e
            injection e with e
            subst e
            obtain ⟨c, hc, _⟩ := HSJ.out.rn
            rw [hc] at hk
            injection hk with hk
            injection hk with _ h2 _
            exact ht h2.symm
          have hs4 : w4.rowIs G 66 10 (st10 n x (fil cs2 x 3)) := by obtain ⟨c, h1, h2⟩ := HSJ.out.s; exact ⟨c, hKp h1 (by decide), h2⟩
          have hz4 : w4.rowIs (C + 1) 66 10 (fun _ => .int .i64 0) := by obtain ⟨c, h1, h2⟩ := HSJ.out.z; exact ⟨c, hKp h1 (by decide), h2⟩
          have hm4 : MapAt w4 B (nB + 2) cs2 := HMM.out.kept hg4 (by
            intro e
            injection e with e
            subst e
            obtain ⟨c, hc, _⟩ := HSJ.out.rn
            exact map_ne HMM.out hc rfl)
          have hgp := put10_gb w4 (C + 1) (st10 n x (fil cs2 x 3))
          have HEND : Hid (SpR p R b B (nB + 2) aL nL cL op ia ib ic n cs w (.returned (.agg #[.int .i64 n.pc, .int .i64 n.fp, .int .i64 n.ap, .int .i64 n.rv, .int .i64 (x 0), .int .i64 (x 1), .int .i64 (x 2), .int .i64 (cvl cs2 (x 0)), .int .i64 (cvl cs2 (x 1)), .int .i64 (cvl cs2 (x 2))])) (put10 w4 (C + 1) (st10 n x (fil cs2 x 3)))) := by
            obtain ⟨c, hc, hcs⟩ := hz4
            obtain ⟨d, hd, hds⟩ := hr4
            have hCR : R ≠ C + 1 := by
              rintro rfl
              rw [hc] at hd
              injection hd with hd
              injection hd with _ h2 _
              exact absurd h2 (by decide)
            have hcN := HSJ.out.cN
            have g3 := HSJ.out.gr.trans (Gr2.of2 hg4)
            exact HSR.out _ _ ⟨⟨hgp.os.trans g3.os, hgp.tape.trans g3.tape, hgp.output.trans g3.output, Nat.le_trans g3.size hgp.size, fun k hk e1 e2 => (put10_oth _ _ _ k (by omega)).trans (g3.block k hk e1 e2)⟩, .inl ⟨HH0.out, rfl, World.rowIs.of_block ⟨d, hd, hds⟩ (put10_oth _ _ _ _ hCR), hm4.kept hgp (by intro e; injection e with e; exact map_ne hm4 hc e.symm)⟩⟩
          have HRS := hid (row10_arr (put10_row hz4 (st10 n x (fil cs2 x 3))))
          have y0 := hs4.cell (i := 0) (by decide)
          have y1 := hs4.cell (i := 1) (by decide)
          have y2 := hs4.cell (i := 2) (by decide)
          have y3 := hs4.cell (i := 3) (by decide)
          have y4 := hs4.cell (i := 4) (by decide)
          have y5 := hs4.cell (i := 5) (by decide)
          have y6 := hs4.cell (i := 6) (by decide)
          have y7 := hs4.cell (i := 7) (by decide)
          have y8 := hs4.cell (i := 8) (by decide)
          have y9 := hs4.cell (i := 9) (by decide)
          simp only [st10, fil] at y0 y1 y2 y3 y4 y5 y6 y7 y8 y9
          have z0 := hz4.cell (i := 0) (by decide)
          have z1 := hz4.cell (i := 1) (by decide)
          have z2 := hz4.cell (i := 2) (by decide)
          have z3 := hz4.cell (i := 3) (by decide)
          have z4 := hz4.cell (i := 4) (by decide)
          have z5 := hz4.cell (i := 5) (by decide)
          have z6 := hz4.cell (i := 6) (by decide)
          have z7 := hz4.cell (i := 7) (by decide)
          have z8 := hz4.cell (i := 8) (by decide)
          have z9 := hz4.cell (i := 9) (by decide)
          have hfz := hz4.frozen
          clear hr4 hg4 hs4 hz4 hm4 hgp i0 i1 i2 i3 s7 s8 s9 HMV HMM
          go_wp2_with fail
          (try simp only [Exit.inBlock, Exit.then])
          refine bodyPost_ret (results_cell_row rfl _ _ (C + 1) 66 #[.int .i64 n.pc, .int .i64 n.fp, .int .i64 n.ap, .int .i64 n.rv, .int .i64 (x 0), .int .i64 (x 1), .int .i64 (x 2), .int .i64 (cvl cs2 (x 0)), .int .i64 (cvl cs2 (x 1)), .int .i64 (cvl cs2 (x 2))] (0, 0) _ rfl HRS.out Tryz.underlying66 rfl (by kernel_rfl)) rfl ?_
          exact HEND.out
    · exact ⟨rfl, HSR.out _ _ ⟨HSP.out.gr.trans (Gr2.of1 hg3), .inr (.inl ⟨h7, rfl⟩)⟩⟩
    · exact ⟨rfl, HSR.out _ _ ⟨HSP.out.gr.trans (Gr2.of1 hg3), .inr (.inr ⟨h10, rfl⟩)⟩⟩

end Go.Proofs.YtdpdmgmeieijaaaGreatDoor
