/- Arguments of type [][]int and api.Opening, opened. Arguments of type api.Circuit, opened. Arguments of type api.Layered, opened. -/
import Derived.Test.YtaapbopcfpihbabGreatDoorTres
import Derived.Test.YtaapbopcfpihbabGreatDoorEnds
import Derived.Deep.Matrix
import Derived.Deep.Strs
import Derived.Lib.SmallJoins
import Derived.Test.YtaapbopcfpihbabGreatDoorGtA
import Derived.Test.YtaapbopcfpihbabGreatDoorGuF
namespace Go.Proofs.YtaapbopcfpihbabGreatDoor
open Go.ChangeShapes Go.WideShapes Go.RowKit Go.Deep

/-- a list's datum -/
def ListDat {H : Type} (d : DataW H) (zs : List Int) : Prop := (d = .nil ∧ zs = []) ∨ ∃ elems spare, d = .slice elems spare ∧ elems.length = zs.length
/-- a datum of rows of rows -/
def RowsDat {H : Type} (d : DataW H) (rows : List (List Int)) : Prop := (d = .nil ∧ rows = []) ∨ ∃ elems spare, d = .slice elems spare ∧ elems.length = rows.length ∧ ∀ k, k < rows.length → ∃ dk, elems[k]? = some dk ∧ ListDat dk (rat rows k)

theorem weightsAll_mem {H : Type} {P : Program} {e : TypeId} : ∀ {ds : List (DataW H)} {j : Nat} {d : DataW H}, ds[j]? = some d → ∀ n ∈ d.weights P e, n ∈ DataW.weightsAll P e ds
  | [], _, _, h, _, _ => by simp at h
  | d0 :: ds, 0, d, h, n, hn => by
    simp only [List.getElem?_cons_zero, Option.some.injEq] at h
    subst h
    simp only [DataW.weightsAll, List.mem_append]
    exact Or.inl hn
  | d0 :: ds, j + 1, d, h, n, hn => by
    simp only [List.getElem?_cons_succ] at h
    simp only [DataW.weightsAll, List.mem_append]
    exact Or.inr (weightsAll_mem h n hn)

theorem reach_each {H : Type} {ts : List TypeId} {ds : List (DataW H)} {j : Nat} {t : TypeId} {d : DataW H} (hsz : (DataW.weightsEach Tryz.prog ts ds).all (· ≤ reachBytes) = true) (ht : ts[j]? = some t) (hd : ds[j]? = some d) : ∀ n ∈ d.weights Tryz.prog t, n ≤ reachBytes :=
  fun n hn => by simpa using List.all_eq_true.1 hsz n (DataW.weights_mem_each ht hd n hn)
theorem reach_listD {H : Type} {d : DataW H} {zs : List Int} (hw : ∀ n ∈ d.weights Tryz.prog 25, n ≤ reachBytes) (h : ListDat d zs) : zs.length ≤ 17592186043904 := by
  rcases h with ⟨_, rfl⟩ | ⟨elems, spare, rfl, he⟩
  · simp
  · have hs := hw ((elems.length + spare.length) * Tryz.prog.bytesOf 3) (by simp [DataW.weights, Tryz.underlying25])
    rw [show Tryz.prog.bytesOf 3 = 8 from by kernel_rfl] at hs
    simp [reachBytes] at hs
    omega
theorem reach_rowsD {H : Type} {d : DataW H} {rows : List (List Int)} (hw : ∀ n ∈ d.weights Tryz.prog 27, n ≤ reachBytes) (h : RowsDat d rows) : rows.length ≤ 5864062014634 ∧ ∀ k, k < rows.length → (rat rows k).length ≤ 17592186043904 := by
  rcases h with ⟨_, rfl⟩ | ⟨elems, spare, rfl, he, hk⟩
  · exact ⟨by simp, fun k hk => by simp at hk⟩
  · refine ⟨?_, fun k h2 => ?_⟩
    · have hs := hw ((elems.length + spare.length) * Tryz.prog.bytesOf 25) (by simp [DataW.weights, Tryz.underlying27])
      rw [show Tryz.prog.bytesOf 25 = 24 from by kernel_rfl] at hs
      simp [reachBytes] at hs
      omega
    · obtain ⟨dk, h3, h4⟩ := hk k h2
      refine reach_listD (d := dk) (fun n hn => hw n ?_) h4
      have := weightsAll_mem (P := Tryz.prog) (e := 25) h3 n hn
      simp [DataW.weights, Tryz.underlying27, this]

theorem addr_of_cell {W : World} {a : Addr} {v : Value} (h : W.cell? (a.add 0) = some v) : ∃ b o, a = ⟨b, o, none⟩ := by
  obtain ⟨b, off, spot⟩ := a
  have hspot : spot = none := by simpa [Addr.add] using World.cell?_spot h
  subst hspot
  exact ⟨b, off, rfl⟩
theorem blk_of_cell {W : World} {b o : Nat} {v : Value} (h : W.cell? ⟨b, o, none⟩ = some v) : b < W.heap.size := by
  rcases Nat.lt_or_ge b W.heap.size with g | g
  · exact g
  · simp [World.cell?, Array.getElem?_eq_none g] at h

theorem open_rows {H : Type} {enc : TypeId × Value → H} {W : World} {a : Option Addr} {len cap fuel : Nat} {d : DataW H} {pl : List MemPlace}
    (hf : DataW.trod enc Tryz.prog W 0 (fun _ => true) true fuel 27 (Value.slice a len cap).cells.toList = some (d, pl)) :
    ∃ rows : List (List Int), len = rows.length ∧ LstR W.heap.size W a cap rows ∧ (∀ k, k < rows.length → Fits (rat rows k)) ∧ RowsDat d rows := by
  rcases open_int_rows Tryz.underlying27 Tryz.underlying25 Tryz.underlying3 (by kernel_rfl) (by kernel_rfl) hf with ⟨hcs, hx⟩ | ⟨x, l, c, A, L, C, Z, hcs, _, hl, hm, hx, hr⟩
  · simp [Value.cells] at hcs
    obtain ⟨rfl, rfl, rfl⟩ := hcs
    simp only [Prod.mk.injEq] at hx
    exact ⟨[], rfl, ⟨fun k hk => by simp at hk, by simp, fun _ => rfl⟩, fun k hk => by simp at hk, Or.inl ⟨hx.1, rfl⟩⟩
  · simp [Value.cells] at hcs
    obtain ⟨rfl, rfl, rfl⟩ := hcs
    simp only [Prod.mk.injEq] at hx
    obtain ⟨rows, hrows⟩ : ∃ rows : List (List Int), rows = (List.range len).map fun r => (Z r).take (L r) := ⟨_, rfl⟩
    have hlen : rows.length = len := by rw [hrows]; simp
    have hrat : ∀ k, k < len → rat rows k = (Z k).take (L k) := fun k hk => by
      rw [hrows]
      unfold rat
      simp [hk]
    have hll : ∀ k, k < len → (rat rows k).length = L k := fun k hk => by
      obtain ⟨_, h2, _, h4, _⟩ := hr k (by omega)
      rw [hrat k hk, List.length_take]
      omega
    refine ⟨rows, hlen.symm, ⟨fun k hk => ?_, by omega, fun e => by cases e⟩, fun k hk j hj => ?_, Or.inr ⟨_, _, hx.1, by rw [hlen]; simp, fun k hk => ?_⟩⟩
    · rw [hlen] at hk
      obtain ⟨h1, h2, h3, h4, h5, h6, h7⟩ := hr k (by omega)
      obtain ⟨b, o, rfl⟩ := addr_of_cell (hr 0 (by omega)).1
      rw [add_plain] at h1
      refine ⟨b, o, A k, C k, rfl, blk_of_cell h1, by rw [hll k hk]; exact h1, ⟨fun j hj => ?_, by rw [hll k hk]; exact h2, h6⟩⟩
      rw [hll k hk] at hj
      cases hA : A k with
      | none =>
        have := h6 hA
        omega
      | some a' =>
        obtain ⟨_, g2⟩ := h7 a' hA
        obtain ⟨b', o', rfl⟩ := addr_of_cell (g2 0 (by omega))
        have g3 := g2 j (by omega)
        rw [add_plain] at g3
        refine ⟨b', o', rfl, blk_of_cell g3, ?_⟩
        rw [hrat k hk, g3]
        simp [zat, hj]
    · rw [hlen] at hk
      obtain ⟨_, h2, _, h4, h5, _⟩ := hr k (by omega)
      rw [hll k hk] at hj
      have hmem : zat (rat rows k) j ∈ Z k := by
        rw [hrat k hk]
        have : zat ((Z k).take (L k)) j = (Z k)[j]'(by omega) := by simp [zat, hj, show j < (Z k).length from by omega]
        rw [this]; exact List.getElem_mem _
      exact wf_bounds (h5 _ hmem)
    · rw [hlen] at hk
      obtain ⟨_, h2, _, h4, _, h6, _⟩ := hr k (by omega)
      refine ⟨_, by simp [hk]; rfl, ?_⟩
      unfold intRow
      cases hA : A k with
      | none =>
        left
        refine ⟨rfl, ?_⟩
        have := h6 hA
        apply List.length_eq_zero_iff.1
        rw [hll k hk]
        omega
      | some a' =>
        right
        exact ⟨_, _, rfl, by rw [hll k hk]; simp [lits]; omega⟩

theorem open_rowsV {H : Type} {enc : TypeId × Value → H} {W : World} {v : Value} {fuel : Nat} {y : DataW H × List MemPlace} (hf : DataW.trod enc Tryz.prog W 0 (fun _ => true) true fuel 27 [v] = some y) :
    ∃ (a : Option Addr) (cap : Nat) (rows : List (List Int)), v = .slice a rows.length cap ∧ LstR W.heap.size W a cap rows ∧ (∀ k, k < rows.length → Fits (rat rows k)) ∧ RowsDat y.1 rows := by
  obtain ⟨a, len, cap, rfl⟩ : ∃ a len cap, v = .slice a len cap := by
    rcases open_int_rows Tryz.underlying27 Tryz.underlying25 Tryz.underlying3 (by kernel_rfl) (by kernel_rfl) hf with ⟨hcs, _⟩ | ⟨x, l, c, _, _, _, _, hcs, _⟩
    · exact ⟨_, _, _, List.head_eq_of_cons_eq hcs⟩
    · exact ⟨_, _, _, List.head_eq_of_cons_eq hcs⟩
  obtain ⟨rows, rfl, h1, h2, h3⟩ := open_rows (a := a) (len := len) (cap := cap) (d := y.1) (pl := y.2) hf
  exact ⟨a, cap, rows, rfl, h1, h2, h3⟩

end Go.Proofs.YtaapbopcfpihbabGreatDoor

namespace Go.Proofs.YtaapbopcfpihbabGreatDoor
open Go.ChangeShapes Go.WideShapes Go.RowKit Go.Deep Go.Joins

/-- gates' datum -/
def GatDat {H : Type} (d : DataW H) (s : List GatZ) : Prop := (d = .nil ∧ s = []) ∨ ∃ elems spare, d = .slice elems spare ∧ elems.length = s.length
theorem list3g {α : Type} {l : List α} (h : l.length = 3) : ∃ a b c, l = [a, b, c] := by
  match l, h with
  | [a, b, c], _ => exact ⟨a, b, c, rfl⟩

set_option maxRecDepth 100000 in
theorem open_gates {H : Type} {enc : TypeId × Value → H} {W : World} {a : Option Addr} {len cap fuel : Nat} {d : DataW H} {pl : List MemPlace}
    (hf : DataW.trod enc Tryz.prog W 0 (fun _ => true) true fuel 46 (Value.slice a len cap).cells.toList = some (d, pl)) :
    ∃ s : List GatZ, len = s.length ∧ LstG W.heap.size W a cap s ∧ GatB s ∧ GatDat d s := by
  rcases open_slice Tryz.underlying46 hf with ⟨hcs, hx⟩ | ⟨x, l, c, m, n, D, Pl, hcs, _, hl, hm, hmm, hx, hall⟩
  · simp [Value.cells] at hcs
    obtain ⟨rfl, rfl, rfl⟩ := hcs
    simp only [Prod.mk.injEq] at hx
    exact ⟨[], rfl, ⟨fun k hk => by simp at hk, by simp, fun _ => rfl⟩, fun k hk => by simp at hk, Or.inl ⟨hx.1, rfl⟩⟩
  · simp [Value.cells] at hcs
    obtain ⟨rfl, rfl, rfl⟩ := hcs
    simp only [if_true] at hmm
    subst hmm
    simp only [Prod.mk.injEq] at hx
    have each : ∀ i, i < m → ∃ y : GatZ, W.cell? (x.add (i * 3)) = some (.int .i64 y.kind) ∧ W.cell? (x.add (i * 3 + 1)) = some (.int .i64 y.a) ∧ W.cell? (x.add (i * 3 + 2)) = some (.int .i64 y.b) ∧
        ((Lit.int .i64 y.kind).wf = true ∧ (Lit.int .i64 y.a).wf = true ∧ (Lit.int .i64 y.b).wf = true) := fun i hi => by
      obtain ⟨cs', h1, h2⟩ := hall i hi
      rw [show Tryz.prog.cellsOf 45 = 3 from by kernel_rfl] at h1
      obtain ⟨_, hlen, hcell⟩ := World.cells?_some h1
      obtain ⟨v0, v1, v2, rfl⟩ := list3g hlen
      obtain ⟨y0, y1, y2, n', hxx, _, g0, g1, g2⟩ := trod_struct3 Tryz.underlying45 h2
      have e0 := hcell 0 (by omega)
      have e1 := hcell 1 (by omega)
      have e2 := hcell 2 (by omega)
      rw [add_add] at e0 e1 e2
      have k1 : Tryz.prog.cellsOf 3 = 1 := by kernel_rfl
      simp only [k1] at g0 g1 g2
      obtain ⟨N0, p0, _, q0⟩ := DataW.trod_int Tryz.underlying3 (by simpa using g0)
      obtain ⟨N1, p1, _, q1⟩ := DataW.trod_int Tryz.underlying3 (by simpa using g1)
      obtain ⟨N2, p2, _, q2⟩ := DataW.trod_int Tryz.underlying3 (by simpa using g2)
      simp only [List.cons.injEq, and_true] at p0 p1 p2
      subst p0
      subst p1
      subst p2
      exact ⟨⟨N0, N1, N2⟩, by simpa using e0, by simpa using e1, by simpa using e2, q0, q1, q2⟩
    obtain ⟨Y, hY⟩ := choose_lt each
    obtain ⟨s, hs⟩ : ∃ s : List GatZ, s = (List.range len).map fun r => Y r := ⟨_, rfl⟩
    have hlen : s.length = len := by rw [hs]; simp
    have hoat : ∀ k, k < len → gat s k = Y k := fun k hk => by
      rw [hs]
      unfold gat
      simp [hk]
    refine ⟨s, hlen.symm, ⟨fun k hk => ?_, by omega, fun e => by cases e⟩, fun k hk => ?_, Or.inr ⟨_, _, hx.1, by rw [hlen]; simp⟩⟩
    · rw [hlen] at hk
      obtain ⟨h1, h2, h3, _⟩ := hY k (by omega)
      obtain ⟨b, o, rfl⟩ := addr_of_cell (v := .int .i64 (Y 0).kind) (by have := (hY 0 (by omega)).1; simpa using this)
      rw [add_plain] at h1 h2 h3
      rw [hoat k hk]
      exact ⟨b, o, rfl, blk_of_cell h1, h1, by rw [Nat.add_assoc]; exact h2, by rw [Nat.add_assoc]; exact h3⟩
    · rw [hlen] at hk
      obtain ⟨_, _, _, q0, q1, q2⟩ := hY k (by omega)
      rw [hoat k hk]
      exact ⟨wf_bounds q0, wf_bounds q1, wf_bounds q2⟩

/-- layers' datum -/
def LayDat {H : Type} (d : DataW H) (ls : List (List GatZ)) : Prop := (d = .nil ∧ ls = []) ∨ ∃ elems spare, d = .slice elems spare ∧ elems.length = ls.length ∧ ∀ k, k < ls.length → ∃ dk, elems[k]? = some dk ∧ GatDat dk (lyt ls k)

set_option maxRecDepth 100000 in
theorem open_layers {H : Type} {enc : TypeId × Value → H} {W : World} {a : Option Addr} {len cap fuel : Nat} {d : DataW H} {pl : List MemPlace}
    (hf : DataW.trod enc Tryz.prog W 0 (fun _ => true) true fuel 22 (Value.slice a len cap).cells.toList = some (d, pl)) :
    ∃ ls : List (List GatZ), len = ls.length ∧ LstGG W.heap.size W a cap ls ∧ (∀ k, k < ls.length → GatB (lyt ls k)) ∧ LayDat d ls := by
  rcases open_slice Tryz.underlying22 hf with ⟨hcs, hx⟩ | ⟨x, l, c, m, n, D, Pl, hcs, _, hl, hm, hmm, hx, hall⟩
  · simp [Value.cells] at hcs
    obtain ⟨rfl, rfl, rfl⟩ := hcs
    simp only [Prod.mk.injEq] at hx
    exact ⟨[], rfl, ⟨fun k hk => by simp at hk, by simp, fun _ => rfl⟩, fun k hk => by simp at hk, Or.inl ⟨hx.1, rfl⟩⟩
  · simp [Value.cells] at hcs
    obtain ⟨rfl, rfl, rfl⟩ := hcs
    simp only [if_true] at hmm
    subst hmm
    simp only [Prod.mk.injEq] at hx
    have each : ∀ i, i < m → ∃ y : List GatZ × Option Addr × Nat, W.cell? (x.add i) = some (.slice y.2.1 y.1.length y.2.2) ∧ LstG W.heap.size W y.2.1 y.2.2 y.1 ∧ GatB y.1 ∧ GatDat (D i) y.1 := fun i hi => by
      obtain ⟨cs', h1, h2⟩ := hall i hi
      rw [show Tryz.prog.cellsOf 46 = 1 from by kernel_rfl] at h1
      obtain ⟨_, hlen, hcell⟩ := World.cells?_some h1
      obtain ⟨v0, rfl⟩ := List.length_eq_one_iff.1 hlen
      obtain ⟨a', l', c', rfl⟩ : ∃ a l c, v0 = .slice a l c := by
        rcases open_slice Tryz.underlying46 h2 with ⟨hcs, _⟩ | ⟨x, l, c, m, n, D, Pl, hcs, _⟩
        · exact ⟨_, _, _, List.head_eq_of_cons_eq hcs⟩
        · exact ⟨_, _, _, List.head_eq_of_cons_eq hcs⟩
      obtain ⟨s, rfl, l1, f1, e1⟩ := open_gates (a := a') (len := l') (cap := c') h2
      have e0 := hcell 0 (by omega)
      rw [add_add] at e0
      exact ⟨⟨s, a', c'⟩, by simpa using e0, l1, f1, e1⟩
    obtain ⟨Y, hY⟩ := choose_lt each
    obtain ⟨s, hs⟩ : ∃ s : List (List GatZ), s = (List.range len).map fun r => (Y r).1 := ⟨_, rfl⟩
    have hlen : s.length = len := by rw [hs]; simp
    have hoat : ∀ k, k < len → lyt s k = (Y k).1 := fun k hk => by
      rw [hs]
      unfold lyt
      simp [hk]
    refine ⟨s, hlen.symm, ⟨fun k hk => ?_, by omega, fun e => by cases e⟩, fun k hk => ?_, Or.inr ⟨_, _, hx.1, by rw [hlen]; simp, fun k hk => ?_⟩⟩
    · rw [hlen] at hk
      obtain ⟨h1, h2, _⟩ := hY k (by omega)
      obtain ⟨b, o, rfl⟩ := addr_of_cell (by have := (hY 0 (by omega)).1; exact this)
      rw [add_plain] at h1
      rw [hoat k hk]
      exact ⟨b, o, _, _, rfl, blk_of_cell h1, h1, h2⟩
    · rw [hlen] at hk
      rw [hoat k hk]
      exact (hY k (by omega)).2.2.1
    · rw [hlen] at hk
      rw [hoat k hk]
      exact ⟨D k, by simp [hk], (hY k (by omega)).2.2.2⟩
/-- a circuit's datum -/
def CirDat {H : Type} (d : DataW H) (ls : List (List GatZ)) : Prop := ∃ d0 d1, d = .agg [d0, d1] ∧ LayDat d1 ls
set_option maxRecDepth 100000 in
theorem open_circuit {H : Type} {enc : TypeId × Value → H} {W : World} {r : Reach} {b0 : Nat} {v : Value} {d : DataW H} {p : List MemPlace} (hv : Value.okWide Tryz.prog W r b0 24 v) (h : DataW.Trod enc Tryz.prog W 0 (fun _ => true) true 24 v d p) :
    ∃ (wide : Int) (aL : Option Addr) (cL : Nat) (s : List (List GatZ)), v = .agg #[.int .i64 wide, .slice aL s.length cL] ∧ (-9223372036854775808 ≤ wide ∧ wide ≤ 9223372036854775807) ∧ LstGG W.heap.size W aL cL s ∧ (∀ k, k < s.length → GatB (lyt s k)) ∧ CirDat d s := by
  obtain ⟨v0, v1, y0, y1, n, rfl, rfl, _, t0, t1⟩ := Go.Joins.open_agg2 Tryz.underlying24 (by kernel_rfl) (by kernel_rfl) hv h
  obtain ⟨N0, p0, _, q0⟩ := DataW.trod_int Tryz.underlying3 t0
  obtain ⟨aL, len, cap, rfl⟩ : ∃ a l c, v1 = .slice a l c := by
    rcases open_slice Tryz.underlying22 t1 with ⟨hcs, _⟩ | ⟨x, l, c, m, n, D, Pl, hcs, _⟩
    · exact ⟨_, _, _, List.head_eq_of_cons_eq hcs⟩
    · exact ⟨_, _, _, List.head_eq_of_cons_eq hcs⟩
  obtain ⟨s, rfl, l1, f1, e1⟩ := open_layers (a := aL) (len := len) (cap := cap) (d := y1.1) (pl := y1.2) t1
  obtain rfl : v0 = .int .i64 N0 := List.head_eq_of_cons_eq p0
  exact ⟨N0, aL, cap, s, rfl, wf_bounds q0, l1, f1, _, _, rfl, e1⟩
set_option maxRecDepth 100000 in
theorem reach_gatesD {H : Type} {d : DataW H} {s : List GatZ} (hw : ∀ n ∈ d.weights Tryz.prog 46, n ≤ reachBytes) (h : GatDat d s) : s.length ≤ 281474976710656 := by
  rcases h with ⟨_, rfl⟩ | ⟨elems, spare, rfl, he⟩
  · simp
  · have hs := hw ((elems.length + spare.length) * Tryz.prog.bytesOf 45) (by simp [DataW.weights, Tryz.underlying46])
    rw [show Tryz.prog.bytesOf 45 = 24 from by kernel_rfl] at hs
    simp [reachBytes] at hs
    omega
set_option maxRecDepth 100000 in
theorem reach_cirD {H : Type} {d : DataW H} {s : List (List GatZ)} (hw : ∀ n ∈ d.weights Tryz.prog 24, n ≤ reachBytes) (h : CirDat d s) (hb : ∀ k, k < s.length → GatB (lyt s k)) : CirB s := by
  obtain ⟨d0, d1, rfl, e1⟩ := h
  simp only [DataW.weights, Tryz.underlying24] at hw
  have hw1 : ∀ n ∈ d1.weights Tryz.prog 22, n ≤ reachBytes := fun n hn => hw n (DataW.weights_mem_each (j := 1) rfl rfl n hn)
  rcases e1 with ⟨_, rfl⟩ | ⟨elems, spare, rfl, he, hk⟩
  · exact ⟨by simp, fun k hk => by simp at hk, fun k hk => by simp at hk⟩
  · refine ⟨?_, fun k h2 => ?_, hb⟩
    · have hs := hw1 ((elems.length + spare.length) * Tryz.prog.bytesOf 46) (by simp [DataW.weights, Tryz.underlying22])
      rw [show Tryz.prog.bytesOf 46 = 24 from by kernel_rfl] at hs
      simp [reachBytes] at hs
      omega
    · obtain ⟨dk, h3, h4⟩ := hk k h2
      refine reach_gatesD (d := dk) (fun n hn => hw1 n ?_) h4
      have := weightsAll_mem (P := Tryz.prog) (e := 46) h3 n hn
      simp [DataW.weights, Tryz.underlying22, this]

end Go.Proofs.YtaapbopcfpihbabGreatDoor

namespace Go.Proofs.YtaapbopcfpihbabGreatDoor
open Go.ChangeShapes Go.WideShapes Go.RowKit Go.Deep Go.Joins

/-- the datum of lists of lists of lists -/
def RrsDat {H : Type} (d : DataW H) (ls : List (List (List Int))) : Prop := (d = .nil ∧ ls = []) ∨ ∃ elems spare, d = .slice elems spare ∧ elems.length = ls.length ∧ ∀ k, k < ls.length → ∃ dk, elems[k]? = some dk ∧ RowsDat dk (rrt ls k)

set_option maxRecDepth 100000 in
theorem open_rrs {H : Type} {enc : TypeId × Value → H} {W : World} {a : Option Addr} {len cap fuel : Nat} {d : DataW H} {pl : List MemPlace}
    (hf : DataW.trod enc Tryz.prog W 0 (fun _ => true) true fuel 26 (Value.slice a len cap).cells.toList = some (d, pl)) :
    ∃ ls : List (List (List Int)), len = ls.length ∧ LstRR W.heap.size W a cap ls ∧ (∀ k, k < ls.length → ∀ j, j < (rrt ls k).length → Fits (rat (rrt ls k) j)) ∧ RrsDat d ls := by
  rcases open_slice Tryz.underlying26 hf with ⟨hcs, hx⟩ | ⟨x, l, c, m, n, D, Pl, hcs, _, hl, hm, hmm, hx, hall⟩
  · simp [Value.cells] at hcs
    obtain ⟨rfl, rfl, rfl⟩ := hcs
    simp only [Prod.mk.injEq] at hx
    exact ⟨[], rfl, ⟨fun k hk => by simp at hk, by simp, fun _ => rfl⟩, fun k hk => by simp at hk, Or.inl ⟨hx.1, rfl⟩⟩
  · simp [Value.cells] at hcs
    obtain ⟨rfl, rfl, rfl⟩ := hcs
    simp only [if_true] at hmm
    subst hmm
    simp only [Prod.mk.injEq] at hx
    have each : ∀ i, i < m → ∃ y : List (List Int) × Option Addr × Nat, W.cell? (x.add i) = some (.slice y.2.1 y.1.length y.2.2) ∧ LstR W.heap.size W y.2.1 y.2.2 y.1 ∧ (∀ j, j < y.1.length → Fits (rat y.1 j)) ∧ RowsDat (D i) y.1 := fun i hi => by
      obtain ⟨cs', h1, h2⟩ := hall i hi
      rw [show Tryz.prog.cellsOf 27 = 1 from by kernel_rfl] at h1
      obtain ⟨_, hlen, hcell⟩ := World.cells?_some h1
      obtain ⟨v0, rfl⟩ := List.length_eq_one_iff.1 hlen
      obtain ⟨a', c', s, rfl, l1, f1, e1⟩ := open_rowsV h2
      have e0 := hcell 0 (by omega)
      rw [add_add] at e0
      exact ⟨⟨s, a', c'⟩, by simpa using e0, l1, f1, e1⟩
    obtain ⟨Y, hY⟩ := choose_lt each
    obtain ⟨s, hs⟩ : ∃ s : List (List (List Int)), s = (List.range len).map fun r => (Y r).1 := ⟨_, rfl⟩
    have hlen : s.length = len := by rw [hs]; simp
    have hoat : ∀ k, k < len → rrt s k = (Y k).1 := fun k hk => by
      rw [hs]
      unfold rrt
      simp [hk]
    refine ⟨s, hlen.symm, ⟨fun k hk => ?_, by omega, fun e => by cases e⟩, fun k hk => ?_, Or.inr ⟨_, _, hx.1, by rw [hlen]; simp, fun k hk => ?_⟩⟩
    · rw [hlen] at hk
      obtain ⟨h1, h2, _⟩ := hY k (by omega)
      obtain ⟨b, o, rfl⟩ := addr_of_cell (by have := (hY 0 (by omega)).1; exact this)
      rw [add_plain] at h1
      rw [hoat k hk]
      exact ⟨b, o, _, _, rfl, blk_of_cell h1, h1, h2⟩
    · rw [hlen] at hk
      rw [hoat k hk]
      exact (hY k (by omega)).2.2.1
    · rw [hlen] at hk
      rw [hoat k hk]
      exact ⟨D k, by simp [hk], (hY k (by omega)).2.2.2⟩
/-- what shows a circuit, as a datum -/
def LayDatY {H : Type} (d : DataW H) (Rs : List (List (List Int))) (Ls : List (List Int)) : Prop := ∃ d0 d1, d = .agg [d0, d1] ∧ RrsDat d0 Rs ∧ RowsDat d1 Ls
set_option maxRecDepth 100000 in
theorem open_layered {H : Type} {enc : TypeId × Value → H} {W : World} {r : Reach} {b0 : Nat} {v : Value} {d : DataW H} {p : List MemPlace} (hv : Value.okWide Tryz.prog W r b0 29 v) (h : DataW.Trod enc Tryz.prog W 0 (fun _ => true) true 29 v d p) :
    ∃ (aR aS : Option Addr) (cR cS : Nat) (Rs : List (List (List Int))) (Ls : List (List Int)), v = .agg #[.slice aR Rs.length cR, .slice aS Ls.length cS] ∧ LstRR W.heap.size W aR cR Rs ∧ LstR W.heap.size W aS cS Ls ∧ (∀ k, k < Rs.length → ∀ j, j < (rrt Rs k).length → Fits (rat (rrt Rs k) j)) ∧ (∀ k, k < Ls.length → Fits (rat Ls k)) ∧ LayDatY d Rs Ls := by
  obtain ⟨v0, v1, y0, y1, n, rfl, rfl, _, t0, t1⟩ := Go.Joins.open_agg2 Tryz.underlying29 (by kernel_rfl) (by kernel_rfl) hv h
  obtain ⟨aR, len, cap, rfl⟩ : ∃ a l c, v0 = .slice a l c := by
    rcases open_slice Tryz.underlying26 t0 with ⟨hcs, _⟩ | ⟨x, l, c, m, n, D, Pl, hcs, _⟩
    · exact ⟨_, _, _, List.head_eq_of_cons_eq hcs⟩
    · exact ⟨_, _, _, List.head_eq_of_cons_eq hcs⟩
  obtain ⟨s, rfl, l1, f1, e1⟩ := open_rrs (a := aR) (len := len) (cap := cap) (d := y0.1) (pl := y0.2) t0
  obtain ⟨aS, cS, Ls, rfl, l2, f2, e2⟩ := open_rowsV t1
  exact ⟨aR, aS, cap, cS, s, Ls, rfl, l1, l2, f1, f2, _, _, rfl, e1, e2⟩
set_option maxRecDepth 100000 in
theorem reach_layD {H : Type} {d : DataW H} {Rs : List (List (List Int))} {Ls : List (List Int)} (hw : ∀ n ∈ d.weights Tryz.prog 29, n ≤ reachBytes) (h : LayDatY d Rs Ls) (h1 : ∀ k, k < Rs.length → ∀ j, j < (rrt Rs k).length → Fits (rat (rrt Rs k) j)) (h2 : ∀ k, k < Ls.length → Fits (rat Ls k)) : LayB Rs Ls := by
  obtain ⟨d0, d1, rfl, e0, e1⟩ := h
  simp only [DataW.weights, Tryz.underlying29] at hw
  have hw0 : ∀ n ∈ d0.weights Tryz.prog 26, n ≤ reachBytes := fun n hn => hw n (DataW.weights_mem_each (j := 0) rfl rfl n hn)
  have hw1 : ∀ n ∈ d1.weights Tryz.prog 27, n ≤ reachBytes := fun n hn => hw n (DataW.weights_mem_each (j := 1) rfl rfl n hn)
  obtain ⟨g1, g2⟩ := reach_rowsD hw1 e1
  have key : Rs.length ≤ 281474976710656 ∧ ∀ k, k < Rs.length → (rrt Rs k).length ≤ 5864062014634 ∧ ∀ j, j < (rrt Rs k).length → (rat (rrt Rs k) j).length ≤ 17592186043904 := by
    rcases e0 with ⟨_, rfl⟩ | ⟨elems, spare, rfl, he, hk⟩
    · exact ⟨by simp, fun k hk => by simp at hk⟩
    · refine ⟨?_, fun k h3 => ?_⟩
      · have hs := hw0 ((elems.length + spare.length) * Tryz.prog.bytesOf 27) (by simp [DataW.weights, Tryz.underlying26])
        rw [show Tryz.prog.bytesOf 27 = 24 from by kernel_rfl] at hs
        simp [reachBytes] at hs
        omega
      · obtain ⟨dk, h4, h5⟩ := hk k h3
        refine reach_rowsD (d := dk) (fun n hn => hw0 n ?_) h5
        have := weightsAll_mem (P := Tryz.prog) (e := 27) h4 n hn
        simp [DataW.weights, Tryz.underlying26, this]
  exact ⟨key.1, fun k hk => ⟨(key.2 k hk).1, fun j hj => ⟨(key.2 k hk).2 j hj, h1 k hk j hj⟩⟩, g1, fun k hk => ⟨g2 k hk, h2 k hk⟩⟩

end Go.Proofs.YtaapbopcfpihbabGreatDoor
