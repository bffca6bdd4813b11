/- Arguments of type []api.Cell and api.Cell, opened. -/
import Derived.Test.YthemehdcakimgakDoorOpenR
import Derived.Lib.SmallJoins
import Derived.Test.YthemehdcakimgakDoorRuA
namespace Go.Proofs.YthemehdcakimgakDoor
open Go.ChangeShapes Go.WideShapes Go.RowKit Go.Deep Go.Joins

/-- cells' datum -/
def CelDat {H : Type} (d : DataW H) (s : List (Int × Int)) : Prop := (d = .nil ∧ s = []) ∨ ∃ elems spare, d = .slice elems spare ∧ elems.length = s.length
theorem list2 {α : Type} {l : List α} (h : l.length = 2) : ∃ a b, l = [a, b] := by
  match l, h with
  | [a, b], _ => exact ⟨a, b, rfl⟩

set_option maxRecDepth 100000 in
theorem open_cells {H : Type} {enc : TypeId × Value → H} {W : World} {a : Option Addr} {len cap fuel : Nat} {d : DataW H} {pl : List MemPlace}
    (hf : DataW.trod enc Tryd.prog W 0 (fun _ => true) true fuel 36 (Value.slice a len cap).cells.toList = some (d, pl)) :
    ∃ s : List (Int × Int), len = s.length ∧ LstC W.heap.size W a cap s ∧ CelB s ∧ CelDat d s := by
  rcases open_slice Tryd.underlying36 hf with ⟨hcs, hx⟩ | ⟨x, l, c, m, n, D, Pl, hcs, _, hl, hm, hmm, hx, hall⟩
  · simp [Value.cells] at hcs
    obtain ⟨rfl, rfl, rfl⟩ := hcs
    simp only [Prod.mk.injEq] at hx
    exact ⟨[], rfl, ⟨fun k hk => by simp at hk, by simp, fun _ => rfl⟩, fun k hk => by simp at hk, Or.inl ⟨hx.1, rfl⟩⟩
  · simp [Value.cells] at hcs
    obtain ⟨rfl, rfl, rfl⟩ := hcs
    simp only [if_true] at hmm
    subst hmm
    simp only [Prod.mk.injEq] at hx
    have each : ∀ i, i < m → ∃ y : Int × Int, W.cell? (x.add (i * 2)) = some (.int .i64 y.1) ∧ W.cell? (x.add (i * 2 + 1)) = some (.int .i64 y.2) ∧ ((Lit.int .i64 y.1).wf = true ∧ (Lit.int .i64 y.2).wf = true) := fun i hi => by
      obtain ⟨cs', h1, h2⟩ := hall i hi
      rw [show Tryd.prog.cellsOf 39 = 2 from by kernel_rfl] at h1
      obtain ⟨_, hlen, hcell⟩ := World.cells?_some h1
      obtain ⟨v0, v1, rfl⟩ := list2 hlen
      obtain ⟨y0, y1, n', hxx, _, g0, g1⟩ := trod_struct2 Tryd.underlying39 h2
      have e0 := hcell 0 (by omega)
      have e1 := hcell 1 (by omega)
      rw [add_add] at e0 e1
      have k1 : Tryd.prog.cellsOf 3 = 1 := by kernel_rfl
      simp only [k1] at g0 g1
      obtain ⟨N0, p0, _, q0⟩ := DataW.trod_int Tryd.underlying3 (by simpa using g0)
      obtain ⟨N1, p1, _, q1⟩ := DataW.trod_int Tryd.underlying3 (by simpa using g1)
      simp only [List.cons.injEq, and_true] at p0 p1
      subst p0
      subst p1
      exact ⟨⟨N0, N1⟩, by simpa using e0, by simpa using e1, q0, q1⟩
    obtain ⟨Y, hY⟩ := choose_lt each
    obtain ⟨s, hs⟩ : ∃ s : List (Int × Int), s = (List.range len).map fun r => Y r := ⟨_, rfl⟩
    have hlen : s.length = len := by rw [hs]; simp
    have hoat : ∀ k, k < len → cat s k = Y k := fun k hk => by
      rw [hs]
      unfold cat
      simp [hk]
    refine ⟨s, hlen.symm, ⟨fun k hk => ?_, by omega, fun e => by cases e⟩, fun k hk => ?_, Or.inr ⟨_, _, hx.1, by rw [hlen]; simp⟩⟩
    · rw [hlen] at hk
      obtain ⟨h1, h2, _⟩ := hY k (by omega)
      obtain ⟨b, o, rfl⟩ := addr_of_cell (v := .int .i64 (Y 0).1) (by have := (hY 0 (by omega)).1; simpa using this)
      rw [add_plain] at h1 h2
      rw [hoat k hk]
      exact ⟨b, o, rfl, blk_of_cell h1, h1, by rw [Nat.add_assoc]; exact h2⟩
    · rw [hlen] at hk
      obtain ⟨_, _, q0, q1⟩ := hY k (by omega)
      rw [hoat k hk]
      exact ⟨wf_bounds q0, wf_bounds q1⟩
set_option maxRecDepth 100000 in
theorem reach_cellsD {H : Type} {d : DataW H} {s : List (Int × Int)} (hw : ∀ n ∈ d.weights Tryd.prog 36, n ≤ reachBytes) (h : CelDat d s) : s.length ≤ 8796093021952 := by
  rcases h with ⟨_, rfl⟩ | ⟨elems, spare, rfl, he⟩
  · simp
  · have hs := hw ((elems.length + spare.length) * Tryd.prog.bytesOf 39) (by simp [DataW.weights, Tryd.underlying36])
    rw [show Tryd.prog.bytesOf 39 = 16 from by kernel_rfl] at hs
    simp [reachBytes] at hs
    omega
set_option maxRecDepth 100000 in
theorem open_cell {H : Type} {enc : TypeId × Value → H} {W : World} {r : Reach} {b0 : Nat} {v : Value} {d : DataW H} {p : List MemPlace} (hv : Value.okWide Tryd.prog W r b0 39 v) (h : DataW.Trod enc Tryd.prog W 0 (fun _ => true) true 39 v d p) :
    ∃ c : Int × Int, v = .agg #[.int .i64 c.1, .int .i64 c.2] ∧ (-9223372036854775808 ≤ c.1 ∧ c.1 ≤ 9223372036854775807) ∧ (-9223372036854775808 ≤ c.2 ∧ c.2 ≤ 9223372036854775807) := by
  obtain ⟨v0, v1, y0, y1, n, rfl, rfl, _, t0, t1⟩ := Go.Joins.open_agg2 Tryd.underlying39 (by kernel_rfl) (by kernel_rfl) hv h
  obtain ⟨N0, p0, _, q0⟩ := DataW.trod_int Tryd.underlying3 t0
  obtain ⟨N1, p1, _, q1⟩ := DataW.trod_int Tryd.underlying3 t1
  obtain rfl : v0 = .int .i64 N0 := List.head_eq_of_cons_eq p0
  obtain rfl : v1 = .int .i64 N1 := List.head_eq_of_cons_eq p1
  exact ⟨(N0, N1), rfl, wf_bounds q0, wf_bounds q1⟩

end Go.Proofs.YthemehdcakimgakDoor
