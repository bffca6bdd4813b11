/- Package machine: what work comes to. -/
import Derived.Test.YtaibngnabhmabajGreatDoorMahC
import Derived.Deep.RegionHeld3
namespace Go.Proofs.YtaibngnabhmabajGreatDoor
open Go.RowKit Go.Maps

section
variable {P : Program} {ops : Array Oper} {Q : Exit → Act → World → Prop} {md : Region.Mode} {S : World → Prop}
theorem drop_atW {i : Nat} {oi : Oper} {rest : List Oper} (hl : ops.toList.drop i = oi :: rest) : ops[i]? = some oi := by
  have := congrArg (fun l => l[0]?) hl
  simpa [List.getElem?_drop] using this
theorem wpAnyH_takeW {i : Nat} {oi : Oper} {rest : List Oper} {v : Value} {fuel : Nat} {listed : Array Bool} {a : Act} {w : World} (hl : ops.toList.drop i = oi :: rest)
    (hs : Region.noSelect ops = true) (hf : Region.free md ops listed i = true) (hr : (Region.ready md ops listed).contains i = true)
    (hQ : ∀ c a w, Q (.panic c) (a.put oi.dst v) w → Q (.panic c) a w) (hw : Region.wanted oi (yielded ops a.tmps) = true) (hy : ∀ w, S w → (execOp a.eval oi).run P w = .ok (.value v) w) (hS : S w)
    (h : wpAnyH P md ops Q S fuel (listed.setIfInBounds i true) (a.put oi.dst v) w) : wpAnyH P md ops Q S (fuel + 1) listed a w :=
  wpAnyH_take (drop_atW hl) hs hf hr hQ (Or.inl ⟨hw, hy⟩) hS h
theorem AllReadyH.consW {fuel : Nat} {listed : Array Bool} {a : Act} {w : World} {i : Nat} {o : Oper} {rest : List Oper} {rs : List Nat} (hl : ops.toList.drop i = o :: rest)
    (h : ∀ K' : Act → World → Prop, Shut (∀ a w, S w → (S w → wpAnyH P md ops Q S fuel (listed.setIfInBounds i true) a w) → K' a w) → if Region.wanted o (yielded ops a.tmps) = true then Oper.wp P o a w K' Q else K' (a.put o.dst undef) w)
    (hs : AllReadyH P md ops Q S fuel listed a w rs) : AllReadyH P md ops Q S fuel listed a w (i :: rs) := AllReadyH.cons (drop_atW hl) h hs
end

/-- a telling: what is wrong, and the cells behind it -/
def tel (cs : List (Int × Int)) (x y : Int) : Int × List (Int × Int) := if 0 ≤ finz cs x ∧ cvl cs x ≠ y then (7, cs) else (0, tld cs x y)
/-- what work comes to: 0, 7 or 10, and the cells -/
def wrk (p : Nat) (op ib : Int) (x0 x1 x2 : Int) (n : Rg) (cs : List (Int × Int)) : Int × List (Int × Int) :=
  if op = 1 ∨ op = 2 ∨ op = 3 ∨ op = 6 then (if ¬ 0 ≤ finz cs x0 then (10, cs) else if ¬ 0 ≤ finz cs x1 then (10, cs) else tel cs x2 (rkn p op (cvl cs x0) (cvl cs x1)))
  else if op = 4 then (if ¬ 0 ≤ finz cs x0 then (10, cs) else if ¬ 0 ≤ finz cs x1 then (10, cs) else if cvl cs x1 = 0 then (7, cs) else tel cs x2 (rkn p 4 (cvl cs x0) (cvl cs x1)))
  else if op = 5 then tel cs x0 (ib % (p : Int))
  else if op = 7 then (if ¬ 0 ≤ finz cs x0 then (10, cs) else if ¬ 0 ≤ finz cs x1 then (10, cs) else if cvl cs x0 = cvl cs x1 then (0, cs) else (7, cs))
  else if op = 10 then (if (tel cs x0 n.fp).1 ≠ 0 then tel cs x0 n.fp else tel (tel cs x0 n.fp).2 x1 ((n.pc + 1) % (p : Int)))
  else if op = 11 then (if ¬ 0 ≤ finz cs x0 then (10, cs) else if ¬ 0 ≤ finz cs x1 then (10, cs) else if ¬ 0 ≤ finz cs x2 then (10, cs) else (0, cs))
  else if op = 12 then tel cs x0 n.rv
  else if op = 13 then (if ¬ 0 ≤ finz cs x0 then (10, cs) else tel cs x1 (cvl cs x0))
  else if op = 9 ∨ op = 0 then (if ¬ 0 ≤ finz cs x0 then (10, cs) else (0, cs))
  else if op = 8 then (0, cs)
  else (7, cs)
/-- how work ends -/
def WpR (B nB : Nat) (r : Int × List (Int × Int)) (w : World) (e : Ending) (w' : World) : Prop := w.grownBy w' (some B) ∧ ((r.1 = 0 ∧ e = .returned (.tuple #[]) ∧ MapAt w' B nB r.2) ∨ (r.1 = 7 ∧ e = pnc 192) ∨ (r.1 = 10 ∧ e = pnc 191))
theorem MapAt.mono {w : World} {B n m : Nat} {cs : List (Int × Int)} (h : MapAt w B n cs) (e : n ≤ m) : MapAt w B m cs := by
  obtain ⟨D, h1, h2⟩ := h
  exact ⟨D, h1.mono e, h2⟩
/-- tell, whatever comes of it -/
theorem ptell_any (R b B nB : Nat) (aL : Option Addr) (nL cL : Nat) (n : Rg) (cs : List (Int × Int)) (x y : Int) (w : World) (hR : RnAt w R b B aL nL cL n) (hM : MapAt w B nB cs) (hnB : nB < maxLen) (hx : I64 x) (hy : I64 y) :
    Calls Tryz.prog 202 #[.pointer (some ⟨R, 0, none⟩), .int .i64 x, .int .i64 y] w (WpR B (nB + 1) (tel cs x y) w) := by
  by_cases h : 0 ≤ finz cs x ∧ cvl cs x ≠ y
  · refine (ptell_no R b B nB aL nL cL n cs x y w hR hM hx h.1 h.2).mono ?_
    rintro e w' ⟨rfl, rfl⟩
    exact ⟨⟨rfl, rfl, rfl, Nat.le_refl _, fun _ _ _ => rfl⟩, .inr (.inl ⟨by unfold tel; rw [if_pos h], rfl⟩)⟩
  · refine (ptell_yes R b B nB aL nL cL n cs x y w hR hM hnB hx hy (fun h1 => Decidable.byContradiction fun h2 => h ⟨h1, h2⟩)).mono ?_
    rintro e w' ⟨rfl, h1, h2⟩
    exact ⟨h2, .inl ⟨by unfold tel; rw [if_neg h], rfl, by unfold tel; rw [if_neg h]; exact h1⟩⟩
/-- what stands in work -/
structure WoP (p R b B nB : Nat) (aL : Option Addr) (nL cL : Nat) (op ia ib ic x0 x1 x2 : Int) (n : Rg) (cs : List (Int × Int)) (w W : World) : Prop where
  rn : RnAt W R b B aL nL cL n
  mp : MapAt W B nB cs
  hp : W.cell? ⟨b, 0, none⟩ = some (.int .i64 p)
  i : W.heap[w.heap.size]? = some (.cells #[.int .i64 op, .int .i64 ia, .int .i64 ib, .int .i64 ic] 52 (0, 0))
  r : W.heap[w.heap.size + 1]? = some (.cells #[.int .i64 x0, .int .i64 x1, .int .i64 x2] 133 (0, 0))
  bel : Below w.heap.size w W
theorem woP_of (p R b B nB : Nat) (aL : Option Addr) (nL cL : Nat) (op ia ib ic x0 x1 x2 : Int) (n : Rg) (cs : List (Int × Int)) (w : World) (hR : RnAt w R b B aL nL cL n) (hM : MapAt w B nB cs) (hp : w.cell? ⟨b, 0, none⟩ = some (.int .i64 p)) : WoP p R b B nB aL nL cL op ia ib ic x0 x1 x2 n cs w ((w.alloc (.cells #[.int .i64 op, .int .i64 ia, .int .i64 ib, .int .i64 ic] 52)).alloc (.cells #[.int .i64 x0, .int .i64 x1, .int .i64 x2] 133)) := by
  obtain ⟨V, hV⟩ : ∃ V, V = w.alloc (.cells #[.int .i64 op, .int .i64 ia, .int .i64 ib, .int .i64 ic] 52) := ⟨_, rfl⟩
  have b1 : Below w.heap.size w V := by rw [hV]; exact (Below.refl _ _).alloc (Nat.le_refl _) _
  have hs : V.heap.size = w.heap.size + 1 := by rw [hV]; simp
  have hi : V.heap[w.heap.size]? = some (.cells #[.int .i64 op, .int .i64 ia, .int .i64 ib, .int .i64 ic] 52 (0, 0)) := by rw [hV]; exact heap_alloc_new w _
  rw [← hV]
  have b2 : Below V.heap.size V (V.alloc (.cells #[.int .i64 x0, .int .i64 x1, .int .i64 x2] 133)) := (Below.refl _ _).alloc (Nat.le_refl _) _
  have hbl := b1.trans (b2.mono b1.size)
  refine ⟨hR.of_block (hbl.block _ hR.lt), ?_, (hbl.cell (p := ⟨b, 0, none⟩) (World.block_lt_of_cell? _ _ hp)).trans hp, (b2.block w.heap.size (by omega)).trans hi, by rw [← hs]; exact heap_alloc_new V _, hbl⟩
  rw [hV]
  obtain ⟨D, h1, h2⟩ := hM
  exact ⟨D, (h1.alloc _).alloc _, h2⟩
theorem grW {w W W' : World} {B : Nat} (e : Below w.heap.size w W) (g : W.grownBy W' (some B)) : w.grownBy W' (some B) := ⟨g.os.trans e.os, g.tape.trans e.tape, g.output.trans e.output, Nat.le_trans e.size g.size, fun k hk hne => (g.block k (Nat.lt_of_lt_of_le hk e.size) hne).trans (e.block k hk)⟩
theorem grB {w W : World} {B : Nat} (e : Below w.heap.size w W) : w.grownBy W (some B) := ⟨e.os, e.tape, e.output, e.size, fun k hk _ => e.block k hk⟩
theorem rkn_fit {p : Nat} (h3 : 3 ≤ p) (h4 : p ≤ 2147483647) (op x y : Int) : I64 (rkn p op x y) := by
  have := rkn_bounds h3 op x y
  exact ⟨by omega, by omega⟩

theorem map_ne {w : World} {B n k : Nat} {cs : List (Int × Int)} {c : Array Value} {t : TypeId} {f : Nat × Nat} (h : MapAt w B n cs) (hk : w.heap[k]? = some (.cells c t f)) : k ≠ B := by
  rintro rfl
  obtain ⟨D, ⟨es, cl, h1, _⟩, _⟩ := h
  rw [hk] at h1
  injection h1 with h1
  cases h1
theorem map_blk {w w' : World} {B n k : Nat} {cs : List (Int × Int)} {c : Array Value} {t : TypeId} {f : Nat × Nat} (h : MapAt w B n cs) (g : w.grownBy w' (some B)) (hk : w.heap[k]? = some (.cells c t f)) : w'.heap[k]? = some (.cells c t f) :=
  (g.block k (Array.getElem?_eq_some_iff.1 hk).1 (by intro e; injection e with e; exact map_ne h hk e)).trans hk
theorem RnAt.told {w w' : World} {R b B nB : Nat} {aL : Option Addr} {nL cL : Nat} {n : Rg} {cs : List (Int × Int)} (h : RnAt w R b B aL nL cL n) (hm : MapAt w B nB cs) (g : w.grownBy w' (some B)) : RnAt w' R b B aL nL cL n := by
  have h' := h
  obtain ⟨c, h1, _⟩ := h'
  exact h.of_block ((map_blk hm g h1).trans h1.symm)
theorem cell_told {w w' : World} {B nB : Nat} {cs : List (Int × Int)} {k o : Nat} {v : Value} (hm : MapAt w B nB cs) (g : w.grownBy w' (some B)) (h : w.cell? ⟨k, o, none⟩ = some v) : w'.cell? ⟨k, o, none⟩ = some v := by
  have hlt := World.block_lt_of_cell? _ _ h
  refine (World.cell?_of_block (w := w) (a := ⟨k, o, none⟩) (g.block k hlt ?_)).trans h
  intro e
  injection e with e
  subst e
  obtain ⟨D, ⟨es, cl, h1, _⟩, _⟩ := hm
  simp [World.cell?, h1] at h

end Go.Proofs.YtaibngnabhmabajGreatDoor
