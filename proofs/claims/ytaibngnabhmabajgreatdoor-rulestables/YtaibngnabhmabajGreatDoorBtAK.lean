/- Package machine: cells, work and move for any instruction. attestref6.Walk: the walk. Package machine: step. -/
import Derived.Test.YtaibngnabhmabajGreatDoorMahG
import Derived.Test.YtaibngnabhmabajGreatDoorMahEa
import Derived.Test.YtaibngnabhmabajGreatDoorBtAI
import Derived.Test.YtaibngnabhmabajGreatDoorBtAJ
import Derived.Test.YtaibngnabhmabajGreatDoorBtAH
import Derived.Deep.RegionHeld3
namespace Go.Proofs.YtaibngnabhmabajGreatDoor
open Go.RowKit Go.Maps

theorem pcells_any (p b : Nat) (op ia ib ic fp ap : Int) (w : World) (h3 : 3 ≤ p) (h4 : p ≤ 2147483647) (hp : w.cell? ⟨b, 0, none⟩ = some (.int .i64 p)) (hb : I64 ia ∧ I64 ib ∧ I64 ic ∧ I64 fp ∧ I64 ap) :
    Calls Tryz.prog 169 #[.pointer (some ⟨b, 0, none⟩), .agg #[.int .i64 op, .int .i64 ia, .int .i64 ib, .int .i64 ic], .int .i64 fp, .int .i64 ap] w (CeR p op ia ib ic fp ap w) := by
  by_cases h0 : op = 0; · subst h0; exact pcells_0 p b ia ib ic fp ap w h3 h4 hp hb
  by_cases h1 : op = 1; · subst h1; exact pcells_1 p b ia ib ic fp ap w h3 h4 hp hb
  by_cases h2 : op = 2; · subst h2; exact pcells_2 p b ia ib ic fp ap w h3 h4 hp hb
  by_cases h3' : op = 3; · subst h3'; exact pcells_3 p b ia ib ic fp ap w h3 h4 hp hb
  by_cases h4' : op = 4; · subst h4'; exact pcells_4 p b ia ib ic fp ap w h3 h4 hp hb
  by_cases h5 : op = 5; · subst h5; exact pcells_5 p b ia ib ic fp ap w h3 h4 hp hb
  by_cases h6 : op = 6; · subst h6; exact pcells_6 p b ia ib ic fp ap w h3 h4 hp hb
  by_cases h7 : op = 7; · subst h7; exact pcells_7 p b ia ib ic fp ap w h3 h4 hp hb
  by_cases h8 : op = 8; · subst h8; exact pcells_8 p b ia ib ic fp ap w hp
  by_cases h9 : op = 9; · subst h9; exact pcells_9 p b ia ib ic fp ap w h3 h4 hp hb
  by_cases h10 : op = 10; · subst h10; exact pcells_10 p b ia ib ic fp ap w h3 h4 hp hb
  by_cases h11 : op = 11; · subst h11; exact pcells_11 p b ia ib ic fp ap w h3 h4 hp hb
  by_cases h12 : op = 12; · subst h12; exact pcells_12 p b ia ib ic fp ap w h3 h4 hp hb
  by_cases h13 : op = 13; · subst h13; exact pcells_13 p b ia ib ic fp ap w h3 h4 hp hb
  exact pcells_x p b op ia ib ic fp ap w hp ⟨h0, h1, h2, h3', h4', h5, h6, h7, h9, h10, h11, h12, h13⟩

theorem pwork_any (p R b B nB : Nat) (aL : Option Addr) (nL cL : Nat) (op ia ib ic x0 x1 x2 : Int) (n : Rg) (cs : List (Int × Int)) (w : World) (h3 : 3 ≤ p) (h4 : p ≤ 2147483647) (hpr : Num.Prime p) (hR : RnAt w R b B aL nL cL n) (hM : MapAt w B nB cs) (hp : w.cell? ⟨b, 0, none⟩ = some (.int .i64 p)) (hnB : nB + 2 < maxLen) (hx : I64 x0 ∧ I64 x1 ∧ I64 x2) (hcs : ∀ x, 0 ≤ cvl cs x ∧ cvl cs x < p) (hib : I64 ib) (hn : I64 n.pc ∧ I64 n.fp ∧ I64 n.rv) :
    Calls Tryz.prog 170 #[.pointer (some ⟨R, 0, none⟩), .agg #[.int .i64 op, .int .i64 ia, .int .i64 ib, .int .i64 ic], .agg #[.int .i64 x0, .int .i64 x1, .int .i64 x2]] w (WpR B (nB + 2) (wrk p op ib x0 x1 x2 n cs) w) := by
  by_cases h0 : op = 0; · subst h0; exact pwork_0 p R b B nB aL nL cL ia ib ic x0 x1 x2 n cs w hR hM hp hnB hx
  by_cases h1 : op = 1; · subst h1; exact pwork_1 p R b B nB aL nL cL ia ib ic x0 x1 x2 n cs w h3 h4 hR hM hp hnB hx hcs
  by_cases h2 : op = 2; · subst h2; exact pwork_2 p R b B nB aL nL cL ia ib ic x0 x1 x2 n cs w h3 h4 hR hM hp hnB hx hcs
  by_cases h3' : op = 3; · subst h3'; exact pwork_3 p R b B nB aL nL cL ia ib ic x0 x1 x2 n cs w h3 h4 hR hM hp hnB hx hcs
  by_cases h4' : op = 4; · subst h4'; exact pwork_4 p R b B nB aL nL cL ia ib ic x0 x1 x2 n cs w h3 h4 hpr hR hM hp hnB hx hcs
  by_cases h5 : op = 5; · subst h5; exact pwork_5 p R b B nB aL nL cL ia ib ic x0 x1 x2 n cs w h3 h4 hR hM hp hnB hx hib
  by_cases h6 : op = 6; · subst h6; exact pwork_6 p R b B nB aL nL cL ia ib ic x0 x1 x2 n cs w h3 h4 hR hM hp hnB hx
  by_cases h7 : op = 7; · subst h7; exact pwork_7 p R b B nB aL nL cL ia ib ic x0 x1 x2 n cs w hR hM hp hnB hx
  by_cases h8 : op = 8; · subst h8; exact pwork_8 p R b B nB aL nL cL ia ib ic x0 x1 x2 n cs w hR hM hp hnB
  by_cases h9 : op = 9; · subst h9; exact pwork_9 p R b B nB aL nL cL ia ib ic x0 x1 x2 n cs w hR hM hp hnB hx
  by_cases h10 : op = 10; · subst h10; exact pwork_10 p R b B nB aL nL cL ia ib ic x0 x1 x2 n cs w h3 h4 hR hM hp hnB hx ⟨hn.1, hn.2.1⟩
  by_cases h11 : op = 11; · subst h11; exact pwork_11 p R b B nB aL nL cL ia ib ic x0 x1 x2 n cs w hR hM hp hnB hx
  by_cases h12 : op = 12; · subst h12; exact pwork_12 p R b B nB aL nL cL ia ib ic x0 x1 x2 n cs w hR hM hp hnB hx hn.2.2
  by_cases h13 : op = 13; · subst h13; exact pwork_13 p R b B nB aL nL cL ia ib ic x0 x1 x2 n cs w hR hM hp hnB hx hcs h4
  exact pwork_x p R b B nB aL nL cL op ia ib ic x0 x1 x2 n cs w hR hM hp hnB ⟨h0, h1, h2, h3', h4', h5, h6, h7, h8, h9, h10, h11, h12, h13⟩

theorem pmove_any (p R b B : Nat) (aL : Option Addr) (nL cL : Nat) (op ia ib ic s0 s1 s2 : Int) (n : Rg) (w : World) (h3 : 3 ≤ p) (h4 : p ≤ 2147483647) (hR : RnAt w R b B aL nL cL n) (hp : w.cell? ⟨b, 0, none⟩ = some (.int .i64 p)) (hne : b ≠ R) (hn : I64 n.pc ∧ I64 n.ap) (hi : I64 ia ∧ I64 ib) :
    Calls Tryz.prog 171 #[.pointer (some ⟨R, 0, none⟩), .agg #[.int .i64 op, .int .i64 ia, .int .i64 ib, .int .i64 ic], .agg #[.int .i64 s0, .int .i64 s1, .int .i64 s2]] w (MvR R b B aL nL cL (mvg p op ia ib n s0 s1 s2) w) := by
  by_cases h8 : op = 8; · subst h8; exact pmove_8 p R b B aL nL cL ia ib ic s0 s1 s2 n w h3 h4 hR hp hne hn hi
  by_cases h9 : op = 9
  · subst h9
    by_cases hs : s0 = 0
    · exact pmove_9y p R b B aL nL cL ia ib ic s0 s1 s2 n w h3 h4 hR hp hne hn hi hs
    · exact pmove_9n p R b B aL nL cL ia ib ic s0 s1 s2 n w h3 h4 hR hp hne hn hi hs
  by_cases h10 : op = 10; · subst h10; exact pmove_10 p R b B aL nL cL ia ib ic s0 s1 s2 n w h3 h4 hR hp hne hn hi
  by_cases h11 : op = 11; · subst h11; exact pmove_11 p R b B aL nL cL ia ib ic s0 s1 s2 n w h3 h4 hR hp hne hn hi
  exact pmove_x p R b B aL nL cL op ia ib ic s0 s1 s2 n w h3 h4 hR hp hne hn hi ⟨h8, h9, h10, h11⟩

end Go.Proofs.YtaibngnabhmabajGreatDoor

namespace Go.Proofs.YtaibngnabhmabajGreatDoor
open Go.RowKit

def stvs (l : List (List Int)) : List Value := l.flatMap (fun x => x.map (Value.int .i64))
/-- steps of the call's own -/
def StR (base : Nat) (w : World) (v : Value) (l : List (List Int)) : Prop := w.ownsRow base 135 10 v l.length (stvs l)
theorem Tryz.infoStep : (Tryz.prog.info? 135).map (fun i => (i.zero, i.size, i.bytes)) = some (some (.agg #[.int .i64 0, .int .i64 0, .int .i64 0, .int .i64 0, .int .i64 0, .int .i64 0, .int .i64 0, .int .i64 0, .int .i64 0, .int .i64 0]), 10, 80) := by kernel_rfl
def lenW : Value → Nat
  | .slice _ n _ => n
  | _ => 0
section
variable {P : Program} {ops : Array Oper} {Q : Exit → Act → World → Prop} {md : Region.Mode} {S : World → Prop}
theorem drop_atM {i : Nat} {oi : Oper} {rest : List Oper} (hl : ops.toList.drop i = oi :: rest) : ops[i]? = some oi := by
  have := congrArg (fun l => l[0]?) hl
  simpa [List.getElem?_drop] using this
theorem wpAnyH_takeM {i : Nat} {oi : Oper} {rest : List Oper} {v : Value} {fuel : Nat} {listed : Array Bool} {a : Act} {w : World} (hl : ops.toList.drop i = oi :: rest)
    (hs : Region.noSelect ops = true) (hf : Region.free md ops listed i = true) (hr : (Region.ready md ops listed).contains i = true)
    (hQ : ∀ c a w, Q (.panic c) (a.put oi.dst v) w → Q (.panic c) a w) (hw : Region.wanted oi (yielded ops a.tmps) = true) (hy : ∀ w, S w → (execOp a.eval oi).run P w = .ok (.value v) w) (hS : S w)
    (h : wpAnyH P md ops Q S fuel (listed.setIfInBounds i true) (a.put oi.dst v) w) : wpAnyH P md ops Q S (fuel + 1) listed a w :=
  wpAnyH_take (drop_atM hl) hs hf hr hQ (Or.inl ⟨hw, hy⟩) hS h
theorem AllReadyH.consM {fuel : Nat} {listed : Array Bool} {a : Act} {w : World} {i : Nat} {o : Oper} {rest : List Oper} {rs : List Nat} (hl : ops.toList.drop i = o :: rest)
    (h : ∀ K' : Act → World → Prop, Shut (∀ a w, S w → (S w → wpAnyH P md ops Q S fuel (listed.setIfInBounds i true) a w) → K' a w) → if Region.wanted o (yielded ops a.tmps) = true then Oper.wp P o a w K' Q else K' (a.put o.dst undef) w)
    (hs : AllReadyH P md ops Q S fuel listed a w rs) : AllReadyH P md ops Q S fuel listed a w (i :: rs) := AllReadyH.cons (drop_atM hl) h hs
end
/-- the registers anew, nothing shown -/
def putNow (W : World) (M : Nat) (a b c d : Int) : World := (((((((((W.setCell ⟨M, 2, none⟩ (.int .i64 a)).setCell ⟨M, 3, none⟩ (.int .i64 b)).setCell ⟨M, 4, none⟩ (.int .i64 c)).setCell ⟨M, 5, none⟩ (.int .i64 d)).setCell ⟨M, 6, none⟩ (.int .i64 0)).setCell ⟨M, 7, none⟩ (.int .i64 0)).setCell ⟨M, 8, none⟩ (.int .i64 0)).setCell ⟨M, 9, none⟩ (.int .i64 0)).setCell ⟨M, 10, none⟩ (.int .i64 0)).setCell ⟨M, 11, none⟩ (.int .i64 0)
theorem putNow_oth (W : World) (M : Nat) (a b c d : Int) (k : Nat) (h : k ≠ M) : (putNow W M a b c d).heap[k]? = W.heap[k]? := by
  unfold putNow
  rw [Below.heap_setCell _ _ _ _ h, Below.heap_setCell _ _ _ _ h, Below.heap_setCell _ _ _ _ h, Below.heap_setCell _ _ _ _ h, Below.heap_setCell _ _ _ _ h, Below.heap_setCell _ _ _ _ h, Below.heap_setCell _ _ _ _ h, Below.heap_setCell _ _ _ _ h, Below.heap_setCell _ _ _ _ h, Below.heap_setCell _ _ _ _ h]
theorem putNow_gb (W : World) (M : Nat) (a b c d : Int) : W.grownBy (putNow W M a b c d) (some M) := by
  unfold putNow
  exact gbM (gbM (gbM (gbM (gbM (gbM (gbM (gbM (gbM (gbM (gb_same W M))))))))))
theorem putNow_row {W : World} {M p : Nat} {v : Value} {s : RM} (h : W.rowIs M 207 14 (rmv p v s)) (n : Rg) : (putNow W M n.pc n.fp n.ap n.rv).rowIs M 207 14 (rmv p v { freshM s.cs n with slot := s.slot, err := s.err }) := by
  unfold putNow
  exact ((((((((((h.set 2 _).set 3 _).set 4 _).set 5 _).set 6 _).set 7 _).set 8 _).set 9 _).set 10 _).set 11 _).congr (fun i hi => by
    rcases fourteen hi with rfl | rfl | rfl | rfl | rfl | rfl | rfl | rfl | rfl | rfl | rfl | rfl | rfl | rfl <;> simp [rmv, freshM])
theorem stvs_app (l : List (List Int)) (x : List Int) : stvs (l ++ [x]) = stvs l ++ x.map (Value.int .i64) := by simp [stvs]
/-- what is known at the loop's head -/
structure WkI (p limit : Nat) (L : List InsZ) (X : WR) (s : RM) (l : List (List Int)) (f : Nat) : Prop where
  is : X = mgo p L limit f { s with slot := 0 } l
  fuel : l.length + f = limit + 1
  pos : 1 ≤ f
  cs : ∀ j, j < s.cs.length → 0 ≤ (cat s.cs j).2 ∧ (cat s.cs j).2 < p
  len : s.cs.length ≤ 1 + 2 * l.length
  rg : RgB p ⟨s.pc, s.fp, s.ap, s.rv⟩
  err : s.err = 0
/-- what Walk answers -/
def WkR (base : Nat) (X : WR) (w : World) (e : Ending) (w' : World) : Prop := Below w.heap.size w w' ∧ match X with
  | .bad z => e = .returned (.tuple #[.slice none 0 0, .slice none 0 0, .int .i64 z])
  | .good l cs => ∃ v1 v2, e = .returned (.tuple #[v1, v2, .int .i64 0]) ∧ StR base w' v1 l ∧ CelR base w' v2 cs
/-- what stands in Walk's loop -/
structure WkS (N M K p : Nat) (s : RM) (size : Int) (aL : Option Addr) (nL cL : Nat) (v : Value) (l : List (List Int)) (w W : World) : Prop where
  mac : MacAt M N p s W
  cod : W.heap[K]? = some (.cells #[.int .i64 size, .slice aL nL cL] 47 (0, 0))
  stp : StR N W v l
  bel : Below N w W
  hN : w.heap.size = N
  hK : N ≤ K
  hM : N ≤ M

section
variable {N M K p : Nat} {s s' : RM} {size : Int} {aL : Option Addr} {nL cL : Nat} {v : Value} {l : List (List Int)} {w W W' : World}
theorem WkS.fr (h : WkS N M K p s size aL nL cL v l w W) (hm : MacAt M N p s' W') (f : FrM N W W') : WkS N M K p s' size aL nL cL v l w W' := by
  refine ⟨hm, (f.2.2 _ _ _ _ h.cod (by decide) (by decide)).trans h.cod, ⟨h.stp.1, ?_⟩, h.bel.trans f.1, h.hN, h.hK, h.hM⟩
  rcases h.stp.2 with hn | ⟨g, cap, cur, rfl, hb, hg, rest⟩
  · exact .inl hn
  · exact .inr ⟨g, cap, cur, rfl, hb, (f.2.2 _ _ _ _ hg (by decide) (by decide)).trans hg, rest⟩
theorem WkS.step (h : WkS N M K p s size aL nL cL v l w W) (e : Below W.heap.size W W') : WkS N M K p s size aL nL cL v l w W' :=
  h.fr (h.mac.below e) (FrM.below h.mac.1 e)
theorem WkS.code (h : WkS N M K p s size aL nL cL v l w W) : W.cell? ⟨K, 1, none⟩ = some (.slice aL nL cL) := by simp [World.cell?, h.cod]
end

/-- append(l, s): a step more -/
theorem wpList_stp {ops : Array Oper} {rest : List Oper} {o : Oper} {act : Act} {Q : Exit → Act → World → Prop} (W : World) (hgd : o.guard = none) (s x : Operand)
    (ho : o.op = .call { callee := .builtin .append, args := #[s, x], argTypes := #[129, 129] }) (v : Value) (base : Nat) (l : List (List Int)) (z0 z1 z2 z3 z4 z5 z6 z7 z8 z9 : Int)
    (hown : StR base W v l) (hs : act.eval s = v) (hx : act.eval x = .slice (some ⟨W.heap.size, 0, none⟩) 1 1) (hlen : l.length ≤ 20000) (hbase : base ≤ W.heap.size)
    (h : ∀ v' w2, StR base w2 v' (l ++ [[z0, z1, z2, z3, z4, z5, z6, z7, z8, z9]]) → Below base W w2 → W.grownBy w2 v.ownBlock → wpList Tryz.prog ops Q rest (act.put o.dst v') w2) :
    wpList Tryz.prog ops Q (o :: rest) act (W.alloc (.cells #[.int .i64 z0, .int .i64 z1, .int .i64 z2, .int .i64 z3, .int .i64 z4, .int .i64 z5, .int .i64 z6, .int .i64 z7, .int .i64 z8, .int .i64 z9] 135)) := by
  obtain ⟨cs, hcs⟩ : ∃ cs, cs = #[Value.int .i64 z0, .int .i64 z1, .int .i64 z2, .int .i64 z3, .int .i64 z4, .int .i64 z5, .int .i64 z6, .int .i64 z7, .int .i64 z8, .int .i64 z9] := ⟨_, rfl⟩
  rw [← hcs]
  have hbw : Below W.heap.size W (W.alloc (.cells cs 135)) := (Below.refl _ _).alloc (Nat.le_refl _) _
  obtain ⟨i0, hi, hz0, hz1, hz2⟩ := info_parts Tryz.infoStep
  have h1 : (W.alloc (.cells cs 135)).ownsRow base 135 10 v l.length (stvs l) := hown.alloc _
  refine wpList_append_own _ hgd s x 129 ho base 135 i0 _ 10 80 Tryz.underlying129 hi hz0 hz1 hz2 rfl (by decide) _ _ _ hs h1 ⟨W.heap.size, 0, none⟩ 1 1 cs.toList hx (by rw [hcs]; rfl) ?_ ?_ (by unfold maxLen; omega) (by omega) (by simp; omega) ?_
  · intro j t hj
    have hc : (W.alloc (.cells cs 135)).heap[W.heap.size]? = some (.cells cs 135 (0, 0)) := heap_alloc_new W _
    have hadd : (⟨W.heap.size, 0, none⟩ : Addr).add j = ⟨W.heap.size, j, none⟩ := by unfold Addr.add; split <;> simp_all
    rw [hadd]
    simp only [World.cell?, hc]
    simpa using hj
  · intro t ht
    rw [hcs] at ht
    have ht2 : t = .int .i64 z0 ∨ t = .int .i64 z1 ∨ t = .int .i64 z2 ∨ t = .int .i64 z3 ∨ t = .int .i64 z4 ∨ t = .int .i64 z5 ∨ t = .int .i64 z6 ∨ t = .int .i64 z7 ∨ t = .int .i64 z8 ∨ t = .int .i64 z9 := by simpa using ht
    rcases ht2 with rfl | rfl | rfl | rfl | rfl | rfl | rfl | rfl | rfl | rfl <;> rfl
  · intro v' w2 hown2 hgrow _
    have hB0 : Below base (W.alloc (.cells cs 135)) w2 := (Below.refl base _).grown hgrow (by simp; omega) (fun k hk => (h1.lt k hk).1)
    refine h v' w2 ?_ ((hbw.mono hbase).trans hB0) ⟨hgrow.os, hgrow.tape, hgrow.output, by have := hgrow.size; simp at this; omega, fun k hk hne => (hgrow.block k (by simp; omega) hne).trans (hbw.block k hk)⟩
    unfold StR
    rw [stvs_app, List.length_append]
    rw [hcs] at hown2
    simpa using hown2

/-- what isn't of the kind Step stays -/
theorem MacAt.blocks {M base p : Nat} {s : RM} {W W' : World} (h : MacAt M base p s W) (hs : W.heap.size ≤ W'.heap.size) (e : ∀ (b : Nat) (c : Array Value) (t : TypeId) (f : Nat × Nat), W.heap[b]? = some (.cells c t f) → t ≠ 135 → W'.heap[b]? = W.heap[b]?) : MacAt M base p s W' := by
  obtain ⟨h0, v, h1, h2⟩ := h
  have h1b := h1
  obtain ⟨cs, hc, _⟩ := h1b
  refine ⟨Nat.le_trans h0 hs, v, h1.of_block (e _ _ _ _ hc (by decide)), ⟨h2.1, ?_⟩⟩
  rcases h2.2 with hn | ⟨g, cap, cur, rfl, hb, hg, rest⟩
  · exact .inl hn
  · exact .inr ⟨g, cap, cur, rfl, hb, (e _ _ _ _ hg (by decide)).trans hg, rest⟩

theorem gb_noneM {W W' : World} (e : Below W.heap.size W W') : W.grownBy W' none := ⟨e.os, e.tape, e.output, e.size, fun k hk _ => e.block k hk⟩
theorem gb_toM {g n : Nat} {A B : World} (h : A.grownBy B (some g)) (hn : n ≤ g) (hs : n ≤ A.heap.size) : Below n A B := ⟨h.os, h.tape, h.output, h.size, fun k hk => h.block k (by omega) (by intro e; injection e with e; omega)⟩

end Go.Proofs.YtaibngnabhmabajGreatDoor

namespace Go.Proofs.YtaibngnabhmabajGreatDoor
open Go.RowKit Go.Maps

/-- of the blocks that were there two alone have turned -/
structure Gr2 (B R : Nat) (w W : World) : Prop where
  os : W.os = w.os
  tape : W.tape = w.tape
  output : W.output = w.output
  size : w.heap.size ≤ W.heap.size
  block : ∀ k, k < w.heap.size → k ≠ B → k ≠ R → W.heap[k]? = w.heap[k]?
theorem Gr2.of1 {B R : Nat} {w W : World} (h : w.grownBy W (some B)) : Gr2 B R w W := ⟨h.os, h.tape, h.output, h.size, fun k hk h1 _ => h.block k hk (by intro e; injection e with e; exact h1 e)⟩
theorem Gr2.of2 {B R : Nat} {w W : World} (h : w.grownBy W (some R)) : Gr2 B R w W := ⟨h.os, h.tape, h.output, h.size, fun k hk _ h1 => h.block k hk (by intro e; injection e with e; exact h1 e)⟩
theorem Gr2.ofB {B R : Nat} {w W : World} (h : Below w.heap.size w W) : Gr2 B R w W := ⟨h.os, h.tape, h.output, h.size, fun k hk _ _ => h.block k hk⟩
theorem Gr2.trans {B R : Nat} {a b c : World} (h : Gr2 B R a b) (k : Gr2 B R b c) : Gr2 B R a c := ⟨k.os.trans h.os, k.tape.trans h.tape, k.output.trans h.output, Nat.le_trans h.size k.size, fun j hj h1 h2 => (k.block j (Nat.lt_of_lt_of_le hj h.size) h1 h2).trans (h.block j hj h1 h2)⟩
theorem Gr2.to {B R N : Nat} {w W : World} (h : Gr2 B R w W) (hB : N ≤ B) (hR : N ≤ R) (hs : N ≤ w.heap.size) : Below N w W := ⟨h.os, h.tape, h.output, h.size, fun k hk => h.block k (by omega) (by omega) (by omega)⟩

/-- a step's cells -/
def st10 (n : Rg) (x y : Nat → Int) : Nat → Value
  | 0 => .int .i64 n.pc
  | 1 => .int .i64 n.fp
  | 2 => .int .i64 n.ap
  | 3 => .int .i64 n.rv
  | 4 => .int .i64 (x 0)
  | 5 => .int .i64 (x 1)
  | 6 => .int .i64 (x 2)
  | 7 => .int .i64 (y 0)
  | 8 => .int .i64 (y 1)
  | _ => .int .i64 (y 2)
/-- what stands in step -/
structure SpP (p R b B nB C G : Nat) (aL : Option Addr) (nL cL : Nat) (op ia ib ic : Int) (n : Rg) (cs : List (Int × Int)) (n0 : Rg) (x y : Nat → Int) (w W : World) : Prop where
  rn : RnAt W R b B aL nL cL n
  mp : MapAt W B nB cs
  hp : W.cell? ⟨b, 0, none⟩ = some (.int .i64 p)
  i : W.heap[C]? = some (.cells #[.int .i64 op, .int .i64 ia, .int .i64 ib, .int .i64 ic] 52 (0, 0))
  z : W.rowIs (C + 1) 135 10 (fun _ => .int .i64 0)
  s : W.rowIs G 135 10 (st10 n0 x y)
  gr : Gr2 B R w W
  cN : w.heap.size ≤ C
  cG : C + 1 < G

/-- two ways that meet again -/
theorem share {Good F : Nat → World → Prop} {goal : Prop} (h2 : (∀ G W, Good G W → F G W) → goal) (h1 : ∀ G W, Good G W → F G W) : goal := h2 h1
/-- a step's block that is new -/
theorem new10 (W : World) : (W.alloc (.cells #[.int .i64 0, .int .i64 0, .int .i64 0, .int .i64 0, .int .i64 0, .int .i64 0, .int .i64 0, .int .i64 0, .int .i64 0, .int .i64 0] 135)).rowIs W.heap.size 135 10 (fun _ => .int .i64 0) :=
  row_newM W _ _ 10 _ rfl (fun i hi => by rcases ten hi with rfl | rfl | rfl | rfl | rfl | rfl | rfl | rfl | rfl | rfl <;> rfl)

theorem put10_gb (W : World) (G : Nat) (f : Nat → Value) : W.grownBy (put10 W G f) (some G) := by
  unfold put10
  exact gbM (gbM (gbM (gbM (gbM (gbM (gbM (gbM (gbM (gbM (gb_same W G))))))))))
theorem put10_below {W0 W : World} {G : Nat} (e : Below W0.heap.size W0 W) (hG : W0.heap.size ≤ G) (f : Nat → Value) : Below W0.heap.size W0 (put10 W G f) :=
  e.trans (gb_toM (put10_gb W G f) hG e.size)
theorem SpP.of {p R b B nB C G : Nat} {aL : Option Addr} {nL cL : Nat} {op ia ib ic : Int} {n : Rg} {cs : List (Int × Int)} {x y : Nat → Int} {w W0 W : World} (hR : RnAt W0 R b B aL nL cL n) (hM : MapAt W0 B nB cs) (hp : W0.cell? ⟨b, 0, none⟩ = some (.int .i64 p)) (hi : W0.heap[C]? = some (.cells #[.int .i64 op, .int .i64 ia, .int .i64 ib, .int .i64 ic] 52 (0, 0))) (hz : W0.rowIs (C + 1) 135 10 (fun _ => .int .i64 0)) (hb : Below w.heap.size w W0) (e : Below W0.heap.size W0 W) (hs : W.rowIs G 135 10 (st10 n x y)) (hC : w.heap.size ≤ C) (hG : W0.heap.size ≤ G) : SpP p R b B nB C G aL nL cL op ia ib ic n cs n x y w W :=
  ⟨hR.of_block (e.block _ hR.lt), hM.kept (gb_noneM e) (by simp), (e.cell (p := ⟨b, 0, none⟩) (World.block_lt_of_cell? _ _ hp)).trans hp, (e.block _ (Array.getElem?_eq_some_iff.1 hi).1).trans hi, hz.of_block (e.block _ hz.lt), hs, (Gr2.ofB hb).trans (Gr2.ofB e), hC, Nat.lt_of_lt_of_le hz.lt hG⟩
section
variable {p R b B nB m C G : Nat} {aL : Option Addr} {nL cL : Nat} {op ia ib ic : Int} {n n' n0 : Rg} {cs cs' : List (Int × Int)} {x y : Nat → Int} {w W W' : World}
/-- the map turns -/
theorem SpP.told (h : SpP p R b B nB C G aL nL cL op ia ib ic n cs n0 x y w W) (g : W.grownBy W' (some B)) (hm : MapAt W' B m cs') : SpP p R b B m C G aL nL cL op ia ib ic n cs' n0 x y w W' :=
  ⟨h.rn.told h.mp g, hm, cell_told h.mp g h.hp, map_blk h.mp g h.i, by obtain ⟨c, h1, h2⟩ := h.z; exact ⟨c, map_blk h.mp g h1, h2⟩, by obtain ⟨c, h1, h2⟩ := h.s; exact ⟨c, map_blk h.mp g h1, h2⟩, h.gr.trans (Gr2.of1 g), h.cN, h.cG⟩
/-- nothing turns -/
theorem SpP.step (h : SpP p R b B nB C G aL nL cL op ia ib ic n cs n0 x y w W) (e : Below W.heap.size W W') : SpP p R b B nB C G aL nL cL op ia ib ic n cs n0 x y w W' :=
  ⟨h.rn.of_block (e.block _ h.rn.lt), h.mp.kept (gb_noneM e) (by simp), (e.cell (p := ⟨b, 0, none⟩) (World.block_lt_of_cell? _ _ h.hp)).trans h.hp, (e.block _ (Array.getElem?_eq_some_iff.1 h.i).1).trans h.i, h.z.of_block (e.block _ h.z.lt), h.s.of_block (e.block _ h.s.lt), h.gr.trans (Gr2.ofB e), h.cN, h.cG⟩
end

/-- what is shown so far -/
def fil (cs : List (Int × Int)) (x : Nat → Int) (j : Nat) : Nat → Int := fun i => if i < j then cvl cs (x i) else 0
section
variable {p R b B nB C G : Nat} {aL : Option Addr} {nL cL : Nat} {op ia ib ic : Int} {n n0 : Rg} {cs : List (Int × Int)} {x y y' : Nat → Int} {w W : World}
/-- a cell of the step's own is written -/
theorem SpP.put (h : SpP p R b B nB C G aL nL cL op ia ib ic n cs n0 x y w W) (k : Nat) (v : Int) (hb : b < w.heap.size) (hy : ∀ i, i < 10 → (if i = k then Value.int .i64 v else st10 n0 x y i) = st10 n0 x y' i) : SpP p R b B nB C G aL nL cL op ia ib ic n cs n0 x y' w (W.setCell ⟨G, k, none⟩ (.int .i64 v)) := by
  have hoth : ∀ j, j ≠ G → (W.setCell ⟨G, k, none⟩ (.int .i64 v)).heap[j]? = W.heap[j]? := fun j hj => Below.heap_setCell _ _ _ _ hj
  have hg : W.grownBy (W.setCell ⟨G, k, none⟩ (.int .i64 v)) (some G) := gbM (gb_same W G)
  have hs' := h.s
  have hr' := h.rn
  obtain ⟨c, hc, _⟩ := hs'
  obtain ⟨d, hd, _⟩ := hr'
  have hGR : R ≠ G := by
    rintro rfl
    rw [hc] at hd
    injection hd with hd
    injection hd with _ h2 _
    exact absurd h2 (by decide)
  have h1 := h.cN
  have h2 := h.cG
  exact ⟨h.rn.of_block (hoth _ hGR), h.mp.kept hg (by intro e; injection e with e; exact map_ne h.mp hc e.symm), (World.cell?_of_block (w := W) (a := ⟨b, 0, none⟩) (hoth b (by omega))).trans h.hp, (hoth _ (by omega)).trans h.i, h.z.of_block (hoth _ (by omega)), (h.s.set k (.int .i64 v)).congr (fun i hi => hy i hi), ⟨hg.os.trans h.gr.os, hg.tape.trans h.gr.tape, hg.output.trans h.gr.output, Nat.le_trans h.gr.size hg.size, fun j hj e1 e2 => (hoth j (by omega)).trans (h.gr.block j hj e1 e2)⟩, h.cN, h.cG⟩
end

theorem ix3_0 (x y z : Int) (w : World) : (Instr.index 133 (.agg #[.int .i64 x, .int .i64 y, .int .i64 z]) (.int .i64 0)).run Tryz.prog w = .ok (.int .i64 x) w := by kernel_rfl
theorem ix3_1 (x y z : Int) (w : World) : (Instr.index 133 (.agg #[.int .i64 x, .int .i64 y, .int .i64 z]) (.int .i64 1)).run Tryz.prog w = .ok (.int .i64 y) w := by kernel_rfl
theorem ix3_2 (x y z : Int) (w : World) : (Instr.index 133 (.agg #[.int .i64 x, .int .i64 y, .int .i64 z]) (.int .i64 2)).run Tryz.prog w = .ok (.int .i64 z) w := by kernel_rfl

end Go.Proofs.YtaibngnabhmabajGreatDoor
