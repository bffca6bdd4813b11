/- Arguments of type api.Summed, opened. -/
import Derived.Test.YtecaifjbmfianagGreatDoorOpenR
namespace Go.Proofs.YtecaifjbmfianagGreatDoor
open Go.ChangeShapes Go.WideShapes Go.RowKit Go.Deep

/-- its datum -/
def SummedDat {H : Type} (d : DataW H) (rows : List (List Int)) (fin : List Int) : Prop := ∃ d0 d1, d = .agg [d0, d1] ∧ RowsDat d0 rows ∧ ListDat d1 fin
set_option maxRecDepth 100000 in
theorem open_summed {H : Type} {enc : TypeId × Value → H} {W : World} {r : Reach} {b0 : Nat} {v : Value} {d : DataW H} {p : List MemPlace} (hv : Value.okWide Tryz.prog W r b0 25 v) (h : DataW.Trod enc Tryz.prog W 0 (fun _ => true) true 25 v d p) :
    ∃ (ar af : Option Addr) (cr cf : Nat) (rows : List (List Int)) (fin : List Int), v = .agg #[.slice ar rows.length cr, .slice af fin.length cf] ∧ LstR W.heap.size W ar cr rows ∧ Lst W.heap.size W af cf fin ∧ (∀ k, k < rows.length → Fits (rat rows k)) ∧ Fits fin ∧ SummedDat d rows fin := by
  obtain ⟨v0, v1, y0, y1, n, rfl, rfl, _, t0, t1⟩ := Go.Joins.open_agg2 Tryz.underlying25 (by kernel_rfl) (by kernel_rfl) hv h
  obtain ⟨ar, cr, rows, rfl, l1, f1, e1⟩ := open_rowsV t0
  obtain ⟨af, cf, fin, rfl, l2, f2, e2⟩ := open_listV t1
  exact ⟨ar, af, cr, cf, rows, fin, rfl, l1, l2, f1, f2, _, _, rfl, e1, e2⟩
set_option maxRecDepth 100000 in
theorem reach_summedD {H : Type} {d : DataW H} {rows : List (List Int)} {fin : List Int} (hw : ∀ n ∈ d.weights Tryz.prog 25, n ≤ reachBytes) (h : SummedDat d rows fin) :
    (rows.length ≤ 5864062014634 ∧ ∀ k, k < rows.length → (rat rows k).length ≤ 17592186043904) ∧ fin.length ≤ 17592186043904 := by
  obtain ⟨d0, d1, rfl, e0, e1⟩ := h
  simp only [DataW.weights, Tryz.underlying25] at hw
  refine ⟨reach_rowsD (fun n hn => hw n ?_) e0, reach_listD (fun n hn => hw n ?_) e1⟩
  · exact DataW.weights_mem_each (j := 0) rfl rfl n hn
  · exact DataW.weights_mem_each (j := 1) rfl rfl n hn

end Go.Proofs.YtecaifjbmfianagGreatDoor
