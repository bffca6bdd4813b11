/- Arguments of type api.Folded, opened. -/
import Derived.Test.YtfppkjpgihnibaaGreatDoorOpenR
import Derived.Test.YtfppkjpgihnibaaGreatDoorFolG
namespace Go.Proofs.YtfppkjpgihnibaaGreatDoor
open Go.ChangeShapes Go.WideShapes Go.RowKit Go.Deep

instance : Inhabited OnZ := ⟨⟨[], [], []⟩⟩
/-- a datum of Openings -/
def OnsDat {H : Type} (d : DataW H) (s : List OnZ) : Prop := (d = .nil ∧ s = []) ∨ ∃ elems spare, d = .slice elems spare ∧ elems.length = s.length ∧ ∀ k, k < s.length → ∃ dk, elems[k]? = some dk ∧ OpenDat dk (onat s k).ps (onat s k).rows (onat s k).nodes
/-- numbers that fit -/
def FitsN (s : List OnZ) : Prop := ∀ k, k < s.length → Fits (onat s k).ps ∧ (∀ j, j < (onat s k).rows.length → Fits (rat (onat s k).rows j)) ∧ (∀ j, j < (onat s k).nodes.length → Fits (rat (onat s k).nodes j))
theorem list3F {α : Type} {l : List α} (h : l.length = 3) : ∃ a b c, l = [a, b, c] := by
  match l, h with
  | [a, b, c], _ => exact ⟨a, b, c, rfl⟩

set_option maxRecDepth 100000 in
theorem open_onsV {H : Type} {enc : TypeId × Value → H} {W : World} {v : Value} {fuel : Nat} {y : DataW H × List MemPlace} (hf : DataW.trod enc Tryz.prog W 0 (fun _ => true) true fuel 34 [v] = some y) :
    ∃ (a : Option Addr) (cap : Nat) (s : List OnZ), v = .slice a s.length cap ∧ LstF W.heap.size W a cap s ∧ FitsN s ∧ OnsDat y.1 s := by
  rcases open_slice Tryz.underlying34 hf with ⟨hcs, hx⟩ | ⟨x, l, c, m, n, D, Pl, hcs, _, hl, hm, hmm, hx, hall⟩
  · have hv := List.head_eq_of_cons_eq hcs
    subst hv
    refine ⟨none, 0, [], rfl, ⟨fun k hk => by simp at hk, by simp, fun _ => rfl⟩, fun k hk => by simp at hk, Or.inl ⟨by rw [hx], rfl⟩⟩
  · have hv := List.head_eq_of_cons_eq hcs
    subst hv
    simp only [if_true] at hmm
    subst hmm
    have each : ∀ i, i < m → ∃ y : OnZ × (Option Addr × Nat) × (Option Addr × Nat) × (Option Addr × Nat), W.cell? (x.add (i * 3)) = some (.slice y.2.1.1 y.1.ps.length y.2.1.2) ∧ W.cell? (x.add (i * 3 + 1)) = some (.slice y.2.2.1.1 y.1.rows.length y.2.2.1.2) ∧ W.cell? (x.add (i * 3 + 2)) = some (.slice y.2.2.2.1 y.1.nodes.length y.2.2.2.2) ∧ Lst W.heap.size W y.2.1.1 y.2.1.2 y.1.ps ∧ LstR W.heap.size W y.2.2.1.1 y.2.2.1.2 y.1.rows ∧ LstR W.heap.size W y.2.2.2.1 y.2.2.2.2 y.1.nodes ∧
        (Fits y.1.ps ∧ (∀ j, j < y.1.rows.length → Fits (rat y.1.rows j)) ∧ (∀ j, j < y.1.nodes.length → Fits (rat y.1.nodes j))) ∧ OpenDat (D i) y.1.ps y.1.rows y.1.nodes := fun i hi => by
      obtain ⟨cs', h1, h2⟩ := hall i hi
      rw [show Tryz.prog.cellsOf 107 = 3 from by kernel_rfl] at h1
      obtain ⟨_, hlen, hcell⟩ := World.cells?_some h1
      obtain ⟨v0, v1, v2, rfl⟩ := list3F hlen
      obtain ⟨y0, y1, y2, n', hxx, _, g0, g1, g2⟩ := trod_struct3 Tryz.underlying107 h2
      have e0 := hcell 0 (by omega)
      have e1 := hcell 1 (by omega)
      have e2 := hcell 2 (by omega)
      rw [add_add] at e0 e1 e2
      have k1 : Tryz.prog.cellsOf 33 = 1 := by kernel_rfl
      have k2 : Tryz.prog.cellsOf 22 = 1 := by kernel_rfl
      simp only [k1, k2] at g0 g1 g2
      obtain ⟨a0, c0, zs, p0, l0, f0, dd0⟩ := open_listV (by simpa using g0)
      obtain ⟨a1, c1, rs, p1, l1, f1, dd1⟩ := open_rowsV (by simpa using g1)
      obtain ⟨a2, c2, ns, p2, l2, f2, dd2⟩ := open_rowsV (by simpa using g2)
      subst p0
      subst p1
      subst p2
      simp only [Prod.mk.injEq] at hxx
      exact ⟨⟨⟨zs, rs, ns⟩, (a0, c0), (a1, c1), (a2, c2)⟩, by simpa using e0, by simpa using e1, by simpa using e2, l0, l1, l2, ⟨f0, f1, f2⟩, _, _, _, hxx.1, dd0, dd1, dd2⟩
    obtain ⟨Y, hY⟩ := choose_lt each
    obtain ⟨s, hs⟩ : ∃ s : List OnZ, s = (List.range l).map fun r => (Y r).1 := ⟨_, rfl⟩
    have hlen : s.length = l := by rw [hs]; simp
    have hoat : ∀ k, k < l → onat s k = (Y k).1 := fun k hk => by
      rw [hs]
      unfold onat
      simp [hk]
    refine ⟨some x, m, s, by rw [hlen], ⟨fun k hk => ?_, by omega, fun e => by cases e⟩, fun k hk => ?_, Or.inr ⟨_, _, by rw [hx], by rw [hlen]; simp, fun k hk => ?_⟩⟩
    · rw [hlen] at hk
      obtain ⟨h1, h2, h3, h4, h5, h6, _⟩ := hY k (by omega)
      obtain ⟨b, o, rfl⟩ := addr_of_cell (v := .slice (Y 0).2.1.1 (Y 0).1.ps.length (Y 0).2.1.2) (by have := (hY 0 (by omega)).1; simpa using this)
      rw [add_plain] at h1 h2 h3
      rw [hoat k hk]
      exact ⟨b, o, _, _, _, _, _, _, rfl, blk_of_cell h1, h1, by rw [Nat.add_assoc]; exact h2, by rw [Nat.add_assoc]; exact h3, h4, h5, h6⟩
    · rw [hlen] at hk
      obtain ⟨_, _, _, _, _, _, hf', _⟩ := hY k (by omega)
      rw [hoat k hk]
      exact hf'
    · rw [hlen] at hk
      obtain ⟨_, _, _, _, _, _, _, hd⟩ := hY k (by omega)
      rw [hoat k hk]
      exact ⟨D k, by simp [hk], hd⟩

/-- a Folded's datum -/
def FoldDat {H : Type} (d : DataW H) (roots : List (List Int)) (last : List Int) (s : List OnZ) : Prop := ∃ d0 d1 d2, d = .agg [d0, d1, d2] ∧ RowsDat d0 roots ∧ ListDat d1 last ∧ OnsDat d2 s
set_option maxRecDepth 100000 in
theorem open_folded {H : Type} {enc : TypeId × Value → H} {W : World} {r : Reach} {b0 : Nat} {v : Value} {d : DataW H} {p : List MemPlace} (hv : Value.okWide Tryz.prog W r b0 36 v) (h : DataW.Trod enc Tryz.prog W 0 (fun _ => true) true 36 v d p) :
    ∃ (a1 a2 a3 : Option Addr) (c1 c2 c3 : Nat) (roots : List (List Int)) (last : List Int) (s : List OnZ), v = .agg #[.slice a1 roots.length c1, .slice a2 last.length c2, .slice a3 s.length c3] ∧ LstR W.heap.size W a1 c1 roots ∧ Lst W.heap.size W a2 c2 last ∧ LstF W.heap.size W a3 c3 s ∧
      ((∀ k, k < roots.length → Fits (rat roots k)) ∧ Fits last ∧ FitsN s) ∧ FoldDat d roots last s := by
  obtain ⟨v0, v1, v2, y0, y1, y2, n, rfl, rfl, _, t0, t1, t2⟩ := Go.Joins.open_agg3 Tryz.underlying36 (by kernel_rfl) (by kernel_rfl) hv h
  obtain ⟨a1, c1, roots, rfl, l1, f1, e1⟩ := open_rowsV t0
  obtain ⟨a2, c2, last, rfl, l2, f2, e2⟩ := open_listV t1
  obtain ⟨a3, c3, s, rfl, l3, f3, e3⟩ := open_onsV t2
  exact ⟨a1, a2, a3, c1, c2, c3, roots, last, s, rfl, l1, l2, l3, ⟨f1, f2, f3⟩, _, _, _, rfl, e1, e2, e3⟩
set_option maxRecDepth 100000 in
theorem reach_onsD {H : Type} {d : DataW H} {s : List OnZ} (hw : ∀ n ∈ d.weights Tryz.prog 34, n ≤ reachBytes) (h : OnsDat d s) : s.length ≤ 1954687338211 ∧ ∀ k, k < s.length → (onat s k).ps.length ≤ 17592186043904 ∧ ((onat s k).rows.length ≤ 5864062014634 ∧ ∀ j, j < (onat s k).rows.length → (rat (onat s k).rows j).length ≤ 17592186043904) ∧ ((onat s k).nodes.length ≤ 5864062014634 ∧ ∀ j, j < (onat s k).nodes.length → (rat (onat s k).nodes j).length ≤ 17592186043904) := by
  rcases h with ⟨_, rfl⟩ | ⟨elems, spare, rfl, he, hk⟩
  · exact ⟨by simp, fun k hk => by simp at hk⟩
  · refine ⟨?_, fun k h2 => ?_⟩
    · have hs := hw ((elems.length + spare.length) * Tryz.prog.bytesOf 107) (by simp [DataW.weights, Tryz.underlying34])
      rw [show Tryz.prog.bytesOf 107 = 72 from by kernel_rfl] at hs
      simp [reachBytes] at hs
      omega
    · obtain ⟨dk, h3, h4⟩ := hk k h2
      refine reach_openD (d := dk) (fun n hn => hw n ?_) h4
      have := weightsAll_mem (P := Tryz.prog) (e := 107) h3 n hn
      simp [DataW.weights, Tryz.underlying34, this]
set_option maxRecDepth 100000 in
theorem reach_foldedD {H : Type} {d : DataW H} {roots : List (List Int)} {last : List Int} {s : List OnZ} (hw : ∀ n ∈ d.weights Tryz.prog 36, n ≤ reachBytes) (h : FoldDat d roots last s) (hf : (∀ k, k < roots.length → Fits (rat roots k)) ∧ Fits last ∧ FitsN s) : FdB roots last s := by
  obtain ⟨d0, d1, d2, rfl, e0, e1, e2⟩ := h
  simp only [DataW.weights, Tryz.underlying36] at hw
  have r1 := reach_rowsD (fun n hn => hw n (DataW.weights_mem_each (j := 0) rfl rfl n hn)) e0
  have r2 := reach_listD (fun n hn => hw n (DataW.weights_mem_each (j := 1) rfl rfl n hn)) e1
  have r3 := reach_onsD (fun n hn => hw n (DataW.weights_mem_each (j := 2) rfl rfl n hn)) e2
  refine ⟨r1.1, r1.2, fitsR_of hf.1 r1.2, r2, hf.2.1, r3.1, fun k hk => ?_⟩
  obtain ⟨h1, ⟨h2, h3⟩, h4, h5⟩ := r3.2 k hk
  obtain ⟨g1, g2, g3⟩ := hf.2.2 k hk
  exact ⟨h1, h2, h4, h3, h5, g1, fitsR_of g2 h3, fitsR_of g3 h5⟩

end Go.Proofs.YtfppkjpgihnibaaGreatDoor
