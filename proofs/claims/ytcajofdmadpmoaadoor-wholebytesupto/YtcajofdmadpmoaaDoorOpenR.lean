/- Arguments of type [][]int and api.Opening, opened. -/
import Derived.Test.YtcajofdmadpmoaaDoorTres
import Derived.Test.YtcajofdmadpmoaaDoorEnds
import Derived.Deep.Matrix
import Derived.Deep.Strs
import Derived.Lib.SmallJoins
namespace Go.Proofs.YtcajofdmadpmoaaDoor
open Go.ChangeShapes Go.WideShapes Go.RowKit Go.Deep

/-- a list's datum -/
def ListDat {H : Type} (d : DataW H) (zs : List Int) : Prop := (d = .nil ∧ zs = []) ∨ ∃ elems spare, d = .slice elems spare ∧ elems.length = zs.length
/-- a datum of rows of rows -/
def RowsDat {H : Type} (d : DataW H) (rows : List (List Int)) : Prop := (d = .nil ∧ rows = []) ∨ ∃ elems spare, d = .slice elems spare ∧ elems.length = rows.length ∧ ∀ k, k < rows.length → ∃ dk, elems[k]? = some dk ∧ ListDat dk (rat rows k)

theorem addr_of_cell {W : World} {a : Addr} {v : Value} (h : W.cell? (a.add 0) = some v) : ∃ b o, a = ⟨b, o, none⟩ := by
  obtain ⟨b, off, spot⟩ := a
  have hspot : spot = none := by simpa [Addr.add] using World.cell?_spot h
  subst hspot
  exact ⟨b, off, rfl⟩
theorem blk_of_cell {W : World} {b o : Nat} {v : Value} (h : W.cell? ⟨b, o, none⟩ = some v) : b < W.heap.size := by
  rcases Nat.lt_or_ge b W.heap.size with g | g
  · exact g
  · simp [World.cell?, Array.getElem?_eq_none g] at h

theorem open_rows {H : Type} {enc : TypeId × Value → H} {W : World} {a : Option Addr} {len cap fuel : Nat} {d : DataW H} {pl : List MemPlace}
    (hf : DataW.trod enc Tryd.prog W 0 (fun _ => true) true fuel 23 (Value.slice a len cap).cells.toList = some (d, pl)) :
    ∃ rows : List (List Int), len = rows.length ∧ LstR W.heap.size W a cap rows ∧ (∀ k, k < rows.length → Fits (rat rows k)) ∧ RowsDat d rows := by
  rcases open_int_rows Tryd.underlying23 Tryd.underlying22 Tryd.underlying3 (by kernel_rfl) (by kernel_rfl) hf with ⟨hcs, hx⟩ | ⟨x, l, c, A, L, C, Z, hcs, _, hl, hm, hx, hr⟩
  · simp [Value.cells] at hcs
    obtain ⟨rfl, rfl, rfl⟩ := hcs
    simp only [Prod.mk.injEq] at hx
    exact ⟨[], rfl, ⟨fun k hk => by simp at hk, by simp, fun _ => rfl⟩, fun k hk => by simp at hk, Or.inl ⟨hx.1, rfl⟩⟩
  · simp [Value.cells] at hcs
    obtain ⟨rfl, rfl, rfl⟩ := hcs
    simp only [Prod.mk.injEq] at hx
    obtain ⟨rows, hrows⟩ : ∃ rows : List (List Int), rows = (List.range len).map fun r => (Z r).take (L r) := ⟨_, rfl⟩
    have hlen : rows.length = len := by rw [hrows]; simp
    have hrat : ∀ k, k < len → rat rows k = (Z k).take (L k) := fun k hk => by
      rw [hrows]
      unfold rat
      simp [hk]
    have hll : ∀ k, k < len → (rat rows k).length = L k := fun k hk => by
      obtain ⟨_, h2, _, h4, _⟩ := hr k (by omega)
      rw [hrat k hk, List.length_take]
      omega
    refine ⟨rows, hlen.symm, ⟨fun k hk => ?_, by omega, fun e => by cases e⟩, fun k hk j hj => ?_, Or.inr ⟨_, _, hx.1, by rw [hlen]; simp, fun k hk => ?_⟩⟩
    · rw [hlen] at hk
      obtain ⟨h1, h2, h3, h4, h5, h6, h7⟩ := hr k (by omega)
      obtain ⟨b, o, rfl⟩ := addr_of_cell (hr 0 (by omega)).1
      rw [add_plain] at h1
      refine ⟨b, o, A k, C k, rfl, blk_of_cell h1, by rw [hll k hk]; exact h1, ⟨fun j hj => ?_, by rw [hll k hk]; exact h2, h6⟩⟩
      rw [hll k hk] at hj
      cases hA : A k with
      | none =>
        have := h6 hA
        omega
      | some a' =>
        obtain ⟨_, g2⟩ := h7 a' hA
        obtain ⟨b', o', rfl⟩ := addr_of_cell (g2 0 (by omega))
        have g3 := g2 j (by omega)
        rw [add_plain] at g3
        refine ⟨b', o', rfl, blk_of_cell g3, ?_⟩
        rw [hrat k hk, g3]
        simp [zat, hj]
    · rw [hlen] at hk
      obtain ⟨_, h2, _, h4, h5, _⟩ := hr k (by omega)
      rw [hll k hk] at hj
      have hmem : zat (rat rows k) j ∈ Z k := by
        rw [hrat k hk]
        have : zat ((Z k).take (L k)) j = (Z k)[j]'(by omega) := by simp [zat, hj, show j < (Z k).length from by omega]
        rw [this]; exact List.getElem_mem _
      exact wf_bounds (h5 _ hmem)
    · rw [hlen] at hk
      obtain ⟨_, h2, _, h4, _, h6, _⟩ := hr k (by omega)
      refine ⟨_, by simp [hk]; rfl, ?_⟩
      unfold intRow
      cases hA : A k with
      | none =>
        left
        refine ⟨rfl, ?_⟩
        have := h6 hA
        apply List.length_eq_zero_iff.1
        rw [hll k hk]
        omega
      | some a' =>
        right
        exact ⟨_, _, rfl, by rw [hll k hk]; simp [lits]; omega⟩

theorem open_listV {H : Type} {enc : TypeId × Value → H} {W : World} {v : Value} {fuel : Nat} {y : DataW H × List MemPlace} (hf : DataW.trod enc Tryd.prog W 0 (fun _ => true) true fuel 22 [v] = some y) :
    ∃ (a : Option Addr) (cap : Nat) (zs : List Int), v = .slice a zs.length cap ∧ Lst W.heap.size W a cap zs ∧ Fits zs ∧ ListDat y.1 zs := by
  obtain ⟨a, len, cap, rfl⟩ : ∃ a len cap, v = .slice a len cap := by
    rcases open_ints Tryd.underlying22 Tryd.underlying3 (by kernel_rfl) hf with ⟨hcs, _⟩ | ⟨x, l, c, _, hcs, _⟩
    · exact ⟨_, _, _, List.head_eq_of_cons_eq hcs⟩
    · exact ⟨_, _, _, List.head_eq_of_cons_eq hcs⟩
  obtain ⟨zs, rfl, h1, h2, h3⟩ := open_list (a := a) (len := len) (cap := cap) (d := y.1) (pl := y.2) hf
  exact ⟨a, cap, zs, rfl, h1, h2, h3⟩
theorem open_rowsV {H : Type} {enc : TypeId × Value → H} {W : World} {v : Value} {fuel : Nat} {y : DataW H × List MemPlace} (hf : DataW.trod enc Tryd.prog W 0 (fun _ => true) true fuel 23 [v] = some y) :
    ∃ (a : Option Addr) (cap : Nat) (rows : List (List Int)), v = .slice a rows.length cap ∧ LstR W.heap.size W a cap rows ∧ (∀ k, k < rows.length → Fits (rat rows k)) ∧ RowsDat y.1 rows := by
  obtain ⟨a, len, cap, rfl⟩ : ∃ a len cap, v = .slice a len cap := by
    rcases open_int_rows Tryd.underlying23 Tryd.underlying22 Tryd.underlying3 (by kernel_rfl) (by kernel_rfl) hf with ⟨hcs, _⟩ | ⟨x, l, c, _, _, _, _, hcs, _⟩
    · exact ⟨_, _, _, List.head_eq_of_cons_eq hcs⟩
    · exact ⟨_, _, _, List.head_eq_of_cons_eq hcs⟩
  obtain ⟨rows, rfl, h1, h2, h3⟩ := open_rows (a := a) (len := len) (cap := cap) (d := y.1) (pl := y.2) hf
  exact ⟨a, cap, rows, rfl, h1, h2, h3⟩

/-- an Opening's datum -/
def OpenDat {H : Type} (d : DataW H) (ps : List Int) (rows nodes : List (List Int)) : Prop := ∃ d0 d1 d2, d = .agg [d0, d1, d2] ∧ ListDat d0 ps ∧ RowsDat d1 rows ∧ RowsDat d2 nodes
end Go.Proofs.YtcajofdmadpmoaaDoor
