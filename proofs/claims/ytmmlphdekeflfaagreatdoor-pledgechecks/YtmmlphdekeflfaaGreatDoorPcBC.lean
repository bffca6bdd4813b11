/- Arguments of type [][]int and api.Opening, opened. Arguments of type api.Pledge, opened. -/
import Derived.Test.YtmmlphdekeflfaaGreatDoorTres
import Derived.Test.YtmmlphdekeflfaaGreatDoorEnds
import Derived.Deep.Matrix
import Derived.Deep.Strs
import Derived.Lib.SmallJoins
namespace Go.Proofs.YtmmlphdekeflfaaGreatDoor
open Go.ChangeShapes Go.WideShapes Go.RowKit Go.Deep

/-- a list's datum -/
def ListDat {H : Type} (d : DataW H) (zs : List Int) : Prop := (d = .nil ∧ zs = []) ∨ ∃ elems spare, d = .slice elems spare ∧ elems.length = zs.length
/-- a datum of rows of rows -/
def RowsDat {H : Type} (d : DataW H) (rows : List (List Int)) : Prop := (d = .nil ∧ rows = []) ∨ ∃ elems spare, d = .slice elems spare ∧ elems.length = rows.length ∧ ∀ k, k < rows.length → ∃ dk, elems[k]? = some dk ∧ ListDat dk (rat rows k)

theorem weightsAll_mem {H : Type} {P : Program} {e : TypeId} : ∀ {ds : List (DataW H)} {j : Nat} {d : DataW H}, ds[j]? = some d → ∀ n ∈ d.weights P e, n ∈ DataW.weightsAll P e ds
  | [], _, _, h, _, _ => by simp at h
  | d0 :: ds, 0, d, h, n, hn => by
    simp only [List.getElem?_cons_zero, Option.some.injEq] at h
    subst h
    simp only [DataW.weightsAll, List.mem_append]
    exact Or.inl hn
  | d0 :: ds, j + 1, d, h, n, hn => by
    simp only [List.getElem?_cons_succ] at h
    simp only [DataW.weightsAll, List.mem_append]
    exact Or.inr (weightsAll_mem h n hn)

theorem reach_each {H : Type} {ts : List TypeId} {ds : List (DataW H)} {j : Nat} {t : TypeId} {d : DataW H} (hsz : (DataW.weightsEach Tryz.prog ts ds).all (· ≤ reachBytes) = true) (ht : ts[j]? = some t) (hd : ds[j]? = some d) : ∀ n ∈ d.weights Tryz.prog t, n ≤ reachBytes :=
  fun n hn => by simpa using List.all_eq_true.1 hsz n (DataW.weights_mem_each ht hd n hn)
theorem reach_listD {H : Type} {d : DataW H} {zs : List Int} (hw : ∀ n ∈ d.weights Tryz.prog 23, n ≤ reachBytes) (h : ListDat d zs) : zs.length ≤ 17592186043904 := by
  rcases h with ⟨_, rfl⟩ | ⟨elems, spare, rfl, he⟩
  · simp
  · have hs := hw ((elems.length + spare.length) * Tryz.prog.bytesOf 3) (by simp [DataW.weights, Tryz.underlying23])
    rw [show Tryz.prog.bytesOf 3 = 8 from by kernel_rfl] at hs
    simp [reachBytes] at hs
    omega
theorem reach_rowsD {H : Type} {d : DataW H} {rows : List (List Int)} (hw : ∀ n ∈ d.weights Tryz.prog 22, n ≤ reachBytes) (h : RowsDat d rows) : rows.length ≤ 5864062014634 ∧ ∀ k, k < rows.length → (rat rows k).length ≤ 17592186043904 := by
  rcases h with ⟨_, rfl⟩ | ⟨elems, spare, rfl, he, hk⟩
  · exact ⟨by simp, fun k hk => by simp at hk⟩
  · refine ⟨?_, fun k h2 => ?_⟩
    · have hs := hw ((elems.length + spare.length) * Tryz.prog.bytesOf 23) (by simp [DataW.weights, Tryz.underlying22])
      rw [show Tryz.prog.bytesOf 23 = 24 from by kernel_rfl] at hs
      simp [reachBytes] at hs
      omega
    · obtain ⟨dk, h3, h4⟩ := hk k h2
      refine reach_listD (d := dk) (fun n hn => hw n ?_) h4
      have := weightsAll_mem (P := Tryz.prog) (e := 23) h3 n hn
      simp [DataW.weights, Tryz.underlying22, this]

theorem addr_of_cell {W : World} {a : Addr} {v : Value} (h : W.cell? (a.add 0) = some v) : ∃ b o, a = ⟨b, o, none⟩ := by
  obtain ⟨b, off, spot⟩ := a
  have hspot : spot = none := by simpa [Addr.add] using World.cell?_spot h
  subst hspot
  exact ⟨b, off, rfl⟩
theorem blk_of_cell {W : World} {b o : Nat} {v : Value} (h : W.cell? ⟨b, o, none⟩ = some v) : b < W.heap.size := by
  rcases Nat.lt_or_ge b W.heap.size with g | g
  · exact g
  · simp [World.cell?, Array.getElem?_eq_none g] at h

theorem open_rows {H : Type} {enc : TypeId × Value → H} {W : World} {a : Option Addr} {len cap fuel : Nat} {d : DataW H} {pl : List MemPlace}
    (hf : DataW.trod enc Tryz.prog W 0 (fun _ => true) true fuel 22 (Value.slice a len cap).cells.toList = some (d, pl)) :
    ∃ rows : List (List Int), len = rows.length ∧ LstR W.heap.size W a cap rows ∧ (∀ k, k < rows.length → Fits (rat rows k)) ∧ RowsDat d rows := by
  rcases open_int_rows Tryz.underlying22 Tryz.underlying23 Tryz.underlying3 (by kernel_rfl) (by kernel_rfl) hf with ⟨hcs, hx⟩ | ⟨x, l, c, A, L, C, Z, hcs, _, hl, hm, hx, hr⟩
  · simp [Value.cells] at hcs
    obtain ⟨rfl, rfl, rfl⟩ := hcs
    simp only [Prod.mk.injEq] at hx
    exact ⟨[], rfl, ⟨fun k hk => by simp at hk, by simp, fun _ => rfl⟩, fun k hk => by simp at hk, Or.inl ⟨hx.1, rfl⟩⟩
  · simp [Value.cells] at hcs
    obtain ⟨rfl, rfl, rfl⟩ := hcs
    simp only [Prod.mk.injEq] at hx
    obtain ⟨rows, hrows⟩ : ∃ rows : List (List Int), rows = (List.range len).map fun r => (Z r).take (L r) := ⟨_, rfl⟩
    have hlen : rows.length = len := by rw [hrows]; simp
    have hrat : ∀ k, k < len → rat rows k = (Z k).take (L k) := fun k hk => by
      rw [hrows]
      unfold rat
      simp [hk]
    have hll : ∀ k, k < len → (rat rows k).length = L k := fun k hk => by
      obtain ⟨_, h2, _, h4, _⟩ := hr k (by omega)
      rw [hrat k hk, List.length_take]
      omega
    refine ⟨rows, hlen.symm, ⟨fun k hk => ?_, by omega, fun e => by cases e⟩, fun k hk j hj => ?_, Or.inr ⟨_, _, hx.1, by rw [hlen]; simp, fun k hk => ?_⟩⟩
    · rw [hlen] at hk
      obtain ⟨h1, h2, h3, h4, h5, h6, h7⟩ := hr k (by omega)
      obtain ⟨b, o, rfl⟩ := addr_of_cell (hr 0 (by omega)).1
      rw [add_plain] at h1
      refine ⟨b, o, A k, C k, rfl, blk_of_cell h1, by rw [hll k hk]; exact h1, ⟨fun j hj => ?_, by rw [hll k hk]; exact h2, h6⟩⟩
      rw [hll k hk] at hj
      cases hA : A k with
      | none =>
        have := h6 hA
        omega
      | some a' =>
        obtain ⟨_, g2⟩ := h7 a' hA
        obtain ⟨b', o', rfl⟩ := addr_of_cell (g2 0 (by omega))
        have g3 := g2 j (by omega)
        rw [add_plain] at g3
        refine ⟨b', o', rfl, blk_of_cell g3, ?_⟩
        rw [hrat k hk, g3]
        simp [zat, hj]
    · rw [hlen] at hk
      obtain ⟨_, h2, _, h4, h5, _⟩ := hr k (by omega)
      rw [hll k hk] at hj
      have hmem : zat (rat rows k) j ∈ Z k := by
        rw [hrat k hk]
        have : zat ((Z k).take (L k)) j = (Z k)[j]'(by omega) := by simp [zat, hj, show j < (Z k).length from by omega]
        rw [this]; exact List.getElem_mem _
      exact wf_bounds (h5 _ hmem)
    · rw [hlen] at hk
      obtain ⟨_, h2, _, h4, _, h6, _⟩ := hr k (by omega)
      refine ⟨_, by simp [hk]; rfl, ?_⟩
      unfold intRow
      cases hA : A k with
      | none =>
        left
        refine ⟨rfl, ?_⟩
        have := h6 hA
        apply List.length_eq_zero_iff.1
        rw [hll k hk]
        omega
      | some a' =>
        right
        exact ⟨_, _, rfl, by rw [hll k hk]; simp [lits]; omega⟩

theorem open_listV {H : Type} {enc : TypeId × Value → H} {W : World} {v : Value} {fuel : Nat} {y : DataW H × List MemPlace} (hf : DataW.trod enc Tryz.prog W 0 (fun _ => true) true fuel 23 [v] = some y) :
    ∃ (a : Option Addr) (cap : Nat) (zs : List Int), v = .slice a zs.length cap ∧ Lst W.heap.size W a cap zs ∧ Fits zs ∧ ListDat y.1 zs := by
  obtain ⟨a, len, cap, rfl⟩ : ∃ a len cap, v = .slice a len cap := by
    rcases open_ints Tryz.underlying23 Tryz.underlying3 (by kernel_rfl) hf with ⟨hcs, _⟩ | ⟨x, l, c, _, hcs, _⟩
    · exact ⟨_, _, _, List.head_eq_of_cons_eq hcs⟩
    · exact ⟨_, _, _, List.head_eq_of_cons_eq hcs⟩
  obtain ⟨zs, rfl, h1, h2, h3⟩ := open_list (a := a) (len := len) (cap := cap) (d := y.1) (pl := y.2) hf
  exact ⟨a, cap, zs, rfl, h1, h2, h3⟩
theorem open_rowsV {H : Type} {enc : TypeId × Value → H} {W : World} {v : Value} {fuel : Nat} {y : DataW H × List MemPlace} (hf : DataW.trod enc Tryz.prog W 0 (fun _ => true) true fuel 22 [v] = some y) :
    ∃ (a : Option Addr) (cap : Nat) (rows : List (List Int)), v = .slice a rows.length cap ∧ LstR W.heap.size W a cap rows ∧ (∀ k, k < rows.length → Fits (rat rows k)) ∧ RowsDat y.1 rows := by
  obtain ⟨a, len, cap, rfl⟩ : ∃ a len cap, v = .slice a len cap := by
    rcases open_int_rows Tryz.underlying22 Tryz.underlying23 Tryz.underlying3 (by kernel_rfl) (by kernel_rfl) hf with ⟨hcs, _⟩ | ⟨x, l, c, _, _, _, _, hcs, _⟩
    · exact ⟨_, _, _, List.head_eq_of_cons_eq hcs⟩
    · exact ⟨_, _, _, List.head_eq_of_cons_eq hcs⟩
  obtain ⟨rows, rfl, h1, h2, h3⟩ := open_rows (a := a) (len := len) (cap := cap) (d := y.1) (pl := y.2) hf
  exact ⟨a, cap, rows, rfl, h1, h2, h3⟩

/-- rows that fit, out of the reach -/
theorem fitsR_of {rows : List (List Int)} (h1 : ∀ k, k < rows.length → Fits (rat rows k)) (h2 : ∀ k, k < rows.length → (rat rows k).length ≤ 17592186043904) : FitsR rows := fun k hk => ⟨h1 k hk, by have := h2 k hk; omega⟩

/-- an Opening's datum -/
def OpenDat {H : Type} (d : DataW H) (ps : List Int) (rows nodes : List (List Int)) : Prop := ∃ d0 d1 d2, d = .agg [d0, d1, d2] ∧ ListDat d0 ps ∧ RowsDat d1 rows ∧ RowsDat d2 nodes
set_option maxRecDepth 100000 in
theorem reach_openD {H : Type} {d : DataW H} {ps : List Int} {rows nodes : List (List Int)} (hw : ∀ n ∈ d.weights Tryz.prog 49, n ≤ reachBytes) (h : OpenDat d ps rows nodes) :
    ps.length ≤ 17592186043904 ∧ (rows.length ≤ 5864062014634 ∧ ∀ k, k < rows.length → (rat rows k).length ≤ 17592186043904) ∧ (nodes.length ≤ 5864062014634 ∧ ∀ k, k < nodes.length → (rat nodes k).length ≤ 17592186043904) := by
  obtain ⟨d0, d1, d2, rfl, e0, e1, e2⟩ := h
  simp only [DataW.weights, Tryz.underlying49] at hw
  refine ⟨reach_listD (fun n hn => hw n ?_) e0, reach_rowsD (fun n hn => hw n ?_) e1, reach_rowsD (fun n hn => hw n ?_) e2⟩
  · exact DataW.weights_mem_each (j := 0) rfl rfl n hn
  · exact DataW.weights_mem_each (j := 1) rfl rfl n hn
  · exact DataW.weights_mem_each (j := 2) rfl rfl n hn

end Go.Proofs.YtmmlphdekeflfaaGreatDoor

namespace Go.Proofs.YtmmlphdekeflfaaGreatDoor
open Go.ChangeShapes Go.WideShapes Go.RowKit Go.Deep

theorem array6p {α : Type} {cs : Array α} (h : cs.size = 6) : ∃ c0 c1 c2 c3 c4 c5, cs = #[c0, c1, c2, c3, c4, c5] := by
  obtain ⟨l⟩ := cs
  match l, h with
  | [c0, c1, c2, c3, c4, c5], _ => exact ⟨c0, c1, c2, c3, c4, c5, rfl⟩
/-- a pledge's datum -/
def PlgDat {H : Type} (d : DataW H) (root mixed point ps : List Int) (rows nodes : List (List Int)) : Prop := ∃ d0 d1 d2 d3, d = .agg [d0, d1, d2, d3] ∧ ListDat d0 root ∧ ListDat d1 mixed ∧ ListDat d2 point ∧ OpenDat d3 ps rows nodes
set_option maxRecDepth 100000 in
theorem open_pledge {H : Type} {enc : TypeId × Value → H} {W : World} {r : Reach} {b0 : Nat} {v : Value} {d : DataW H} {p : List MemPlace} (hv : Value.okWide Tryz.prog W r b0 51 v) (h : DataW.Trod enc Tryz.prog W 0 (fun _ => true) true 51 v d p) :
    ∃ (a1 a2 a3 ap ar an' : Option Addr) (c1 c2 c3 cp cr cn : Nat) (root mixed point ps : List Int) (rows nodes : List (List Int)), v = .agg #[.slice a1 root.length c1, .slice a2 mixed.length c2, .slice a3 point.length c3, .slice ap ps.length cp, .slice ar rows.length cr, .slice an' nodes.length cn] ∧
      (Lst W.heap.size W a1 c1 root ∧ Lst W.heap.size W a2 c2 mixed ∧ Lst W.heap.size W a3 c3 point ∧ Lst W.heap.size W ap cp ps ∧ LstR W.heap.size W ar cr rows ∧ LstR W.heap.size W an' cn nodes) ∧
      (Fits root ∧ Fits mixed ∧ Fits point ∧ Fits ps ∧ (∀ k, k < rows.length → Fits (rat rows k)) ∧ (∀ k, k < nodes.length → Fits (rat nodes k))) ∧ PlgDat d root mixed point ps rows nodes := by
  have k1 : Tryz.prog.cellsOf 23 = 1 := by kernel_rfl
  have k2 : Tryz.prog.cellsOf 22 = 1 := by kernel_rfl
  have k3 : Tryz.prog.cellsOf 49 = 3 := by kernel_rfl
  obtain ⟨cs, rfl, hsz⟩ := okWide_struct Tryz.underlying51 hv
  obtain ⟨v0, v1, v2, v3, v4, v5, rfl⟩ := array6p (hsz.trans (by kernel_rfl))
  obtain ⟨fuel, hf⟩ := h
  obtain ⟨y0, y1, y2, y3, n, hx, _, h0, h1, h2, h3⟩ := Go.Joins.trod_struct4 Tryz.underlying51 hf
  simp only [Value.cells, k1, k3, List.drop_zero, List.drop_succ_cons, List.take_succ_cons, List.take_zero] at h0 h1 h2 h3
  obtain ⟨z0, z1, z2, n2, hz, _, g0, g1, g2⟩ := trod_struct3 Tryz.underlying49 h3
  simp only [k1, k2, List.drop_zero, List.drop_succ_cons, List.take_succ_cons, List.take_zero] at g0 g1 g2
  obtain ⟨a1, c1, root, rfl, l1, f1, e1⟩ := open_listV h0
  obtain ⟨a2, c2, mixed, rfl, l2, f2, e2⟩ := open_listV h1
  obtain ⟨a3, c3, point, rfl, l3, f3, e3⟩ := open_listV h2
  obtain ⟨ap, cp, ps, rfl, l4, f4, e4⟩ := open_listV g0
  obtain ⟨ar, cr, rows, rfl, l5, f5, e5⟩ := open_rowsV g1
  obtain ⟨an', cn, nodes, rfl, l6, f6, e6⟩ := open_rowsV g2
  simp only [Prod.mk.injEq] at hx
  refine ⟨a1, a2, a3, ap, ar, an', c1, c2, c3, cp, cr, cn, root, mixed, point, ps, rows, nodes, rfl, ⟨l1, l2, l3, l4, l5, l6⟩, ⟨f1, f2, f3, f4, f5, f6⟩, _, _, _, _, hx.1, e1, e2, e3, _, _, _, ?_, e4, e5, e6⟩
  rw [hz]
set_option maxRecDepth 100000 in
theorem reach_plgD {H : Type} {d : DataW H} {root mixed point ps : List Int} {rows nodes : List (List Int)} (hw : ∀ n ∈ d.weights Tryz.prog 51, n ≤ reachBytes) (h : PlgDat d root mixed point ps rows nodes) :
    (root.length ≤ 17592186043904 ∧ mixed.length ≤ 17592186043904 ∧ point.length ≤ 17592186043904) ∧ ps.length ≤ 17592186043904 ∧ (rows.length ≤ 5864062014634 ∧ ∀ k, k < rows.length → (rat rows k).length ≤ 17592186043904) ∧ (nodes.length ≤ 5864062014634 ∧ ∀ k, k < nodes.length → (rat nodes k).length ≤ 17592186043904) := by
  obtain ⟨d0, d1, d2, d3, rfl, e0, e1, e2, e3⟩ := h
  simp only [DataW.weights, Tryz.underlying51] at hw
  refine ⟨⟨reach_listD (fun n hn => hw n ?_) e0, reach_listD (fun n hn => hw n ?_) e1, reach_listD (fun n hn => hw n ?_) e2⟩, reach_openD (fun n hn => hw n ?_) e3⟩
  · exact DataW.weights_mem_each (j := 0) rfl rfl n hn
  · exact DataW.weights_mem_each (j := 1) rfl rfl n hn
  · exact DataW.weights_mem_each (j := 2) rfl rfl n hn
  · exact DataW.weights_mem_each (j := 3) rfl rfl n hn

end Go.Proofs.YtmmlphdekeflfaaGreatDoor
