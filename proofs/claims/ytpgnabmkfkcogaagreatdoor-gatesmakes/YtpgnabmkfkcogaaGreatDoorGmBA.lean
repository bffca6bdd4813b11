/- Arguments of type [][]int and api.Opening, opened. Arguments of type api.Circuit, opened. -/
import Derived.Test.YtpgnabmkfkcogaaGreatDoorTres
import Derived.Test.YtpgnabmkfkcogaaGreatDoorEnds
import Derived.Deep.Matrix
import Derived.Deep.Strs
import Derived.Lib.SmallJoins
import Derived.Test.YtpgnabmkfkcogaaGreatDoorGtA
namespace Go.Proofs.YtpgnabmkfkcogaaGreatDoor
open Go.ChangeShapes Go.WideShapes Go.RowKit Go.Deep

theorem weightsAll_mem {H : Type} {P : Program} {e : TypeId} : ∀ {ds : List (DataW H)} {j : Nat} {d : DataW H}, ds[j]? = some d → ∀ n ∈ d.weights P e, n ∈ DataW.weightsAll P e ds
  | [], _, _, h, _, _ => by simp at h
  | d0 :: ds, 0, d, h, n, hn => by
    simp only [List.getElem?_cons_zero, Option.some.injEq] at h
    subst h
    simp only [DataW.weightsAll, List.mem_append]
    exact Or.inl hn
  | d0 :: ds, j + 1, d, h, n, hn => by
    simp only [List.getElem?_cons_succ] at h
    simp only [DataW.weightsAll, List.mem_append]
    exact Or.inr (weightsAll_mem h n hn)

theorem reach_each {H : Type} {ts : List TypeId} {ds : List (DataW H)} {j : Nat} {t : TypeId} {d : DataW H} (hsz : (DataW.weightsEach Tryz.prog ts ds).all (· ≤ reachBytes) = true) (ht : ts[j]? = some t) (hd : ds[j]? = some d) : ∀ n ∈ d.weights Tryz.prog t, n ≤ reachBytes :=
  fun n hn => by simpa using List.all_eq_true.1 hsz n (DataW.weights_mem_each ht hd n hn)
theorem addr_of_cell {W : World} {a : Addr} {v : Value} (h : W.cell? (a.add 0) = some v) : ∃ b o, a = ⟨b, o, none⟩ := by
  obtain ⟨b, off, spot⟩ := a
  have hspot : spot = none := by simpa [Addr.add] using World.cell?_spot h
  subst hspot
  exact ⟨b, off, rfl⟩
theorem blk_of_cell {W : World} {b o : Nat} {v : Value} (h : W.cell? ⟨b, o, none⟩ = some v) : b < W.heap.size := by
  rcases Nat.lt_or_ge b W.heap.size with g | g
  · exact g
  · simp [World.cell?, Array.getElem?_eq_none g] at h

end Go.Proofs.YtpgnabmkfkcogaaGreatDoor

namespace Go.Proofs.YtpgnabmkfkcogaaGreatDoor
open Go.ChangeShapes Go.WideShapes Go.RowKit Go.Deep Go.Joins

/-- gates' datum -/
def GatDat {H : Type} (d : DataW H) (s : List GatZ) : Prop := (d = .nil ∧ s = []) ∨ ∃ elems spare, d = .slice elems spare ∧ elems.length = s.length
theorem list3g {α : Type} {l : List α} (h : l.length = 3) : ∃ a b c, l = [a, b, c] := by
  match l, h with
  | [a, b, c], _ => exact ⟨a, b, c, rfl⟩

set_option maxRecDepth 100000 in
theorem open_gates {H : Type} {enc : TypeId × Value → H} {W : World} {a : Option Addr} {len cap fuel : Nat} {d : DataW H} {pl : List MemPlace}
    (hf : DataW.trod enc Tryz.prog W 0 (fun _ => true) true fuel 86 (Value.slice a len cap).cells.toList = some (d, pl)) :
    ∃ s : List GatZ, len = s.length ∧ LstG W.heap.size W a cap s ∧ GatB s ∧ GatDat d s := by
  rcases open_slice Tryz.underlying86 hf with ⟨hcs, hx⟩ | ⟨x, l, c, m, n, D, Pl, hcs, _, hl, hm, hmm, hx, hall⟩
  · simp [Value.cells] at hcs
    obtain ⟨rfl, rfl, rfl⟩ := hcs
    simp only [Prod.mk.injEq] at hx
    exact ⟨[], rfl, ⟨fun k hk => by simp at hk, by simp, fun _ => rfl⟩, fun k hk => by simp at hk, Or.inl ⟨hx.1, rfl⟩⟩
  · simp [Value.cells] at hcs
    obtain ⟨rfl, rfl, rfl⟩ := hcs
    simp only [if_true] at hmm
    subst hmm
    simp only [Prod.mk.injEq] at hx
    have each : ∀ i, i < m → ∃ y : GatZ, W.cell? (x.add (i * 3)) = some (.int .i64 y.kind) ∧ W.cell? (x.add (i * 3 + 1)) = some (.int .i64 y.a) ∧ W.cell? (x.add (i * 3 + 2)) = some (.int .i64 y.b) ∧
        ((Lit.int .i64 y.kind).wf = true ∧ (Lit.int .i64 y.a).wf = true ∧ (Lit.int .i64 y.b).wf = true) := fun i hi => by
      obtain ⟨cs', h1, h2⟩ := hall i hi
      rw [show Tryz.prog.cellsOf 85 = 3 from by kernel_rfl] at h1
      obtain ⟨_, hlen, hcell⟩ := World.cells?_some h1
      obtain ⟨v0, v1, v2, rfl⟩ := list3g hlen
      obtain ⟨y0, y1, y2, n', hxx, _, g0, g1, g2⟩ := trod_struct3 Tryz.underlying85 h2
      have e0 := hcell 0 (by omega)
      have e1 := hcell 1 (by omega)
      have e2 := hcell 2 (by omega)
      rw [add_add] at e0 e1 e2
      have k1 : Tryz.prog.cellsOf 3 = 1 := by kernel_rfl
      simp only [k1] at g0 g1 g2
      obtain ⟨N0, p0, _, q0⟩ := DataW.trod_int Tryz.underlying3 (by simpa using g0)
      obtain ⟨N1, p1, _, q1⟩ := DataW.trod_int Tryz.underlying3 (by simpa using g1)
      obtain ⟨N2, p2, _, q2⟩ := DataW.trod_int Tryz.underlying3 (by simpa using g2)
      simp only [List.cons.injEq, and_true] at p0 p1 p2
      subst p0
      subst p1
      subst p2
      exact ⟨⟨N0, N1, N2⟩, by simpa using e0, by simpa using e1, by simpa using e2, q0, q1, q2⟩
    obtain ⟨Y, hY⟩ := choose_lt each
    obtain ⟨s, hs⟩ : ∃ s : List GatZ, s = (List.range len).map fun r => Y r := ⟨_, rfl⟩
    have hlen : s.length = len := by rw [hs]; simp
    have hoat : ∀ k, k < len → gat s k = Y k := fun k hk => by
      rw [hs]
      unfold gat
      simp [hk]
    refine ⟨s, hlen.symm, ⟨fun k hk => ?_, by omega, fun e => by cases e⟩, fun k hk => ?_, Or.inr ⟨_, _, hx.1, by rw [hlen]; simp⟩⟩
    · rw [hlen] at hk
      obtain ⟨h1, h2, h3, _⟩ := hY k (by omega)
      obtain ⟨b, o, rfl⟩ := addr_of_cell (v := .int .i64 (Y 0).kind) (by have := (hY 0 (by omega)).1; simpa using this)
      rw [add_plain] at h1 h2 h3
      rw [hoat k hk]
      exact ⟨b, o, rfl, blk_of_cell h1, h1, by rw [Nat.add_assoc]; exact h2, by rw [Nat.add_assoc]; exact h3⟩
    · rw [hlen] at hk
      obtain ⟨_, _, _, q0, q1, q2⟩ := hY k (by omega)
      rw [hoat k hk]
      exact ⟨wf_bounds q0, wf_bounds q1, wf_bounds q2⟩

/-- layers' datum -/
def LayDat {H : Type} (d : DataW H) (ls : List (List GatZ)) : Prop := (d = .nil ∧ ls = []) ∨ ∃ elems spare, d = .slice elems spare ∧ elems.length = ls.length ∧ ∀ k, k < ls.length → ∃ dk, elems[k]? = some dk ∧ GatDat dk (lyt ls k)

set_option maxRecDepth 100000 in
theorem open_layers {H : Type} {enc : TypeId × Value → H} {W : World} {a : Option Addr} {len cap fuel : Nat} {d : DataW H} {pl : List MemPlace}
    (hf : DataW.trod enc Tryz.prog W 0 (fun _ => true) true fuel 67 (Value.slice a len cap).cells.toList = some (d, pl)) :
    ∃ ls : List (List GatZ), len = ls.length ∧ LstGG W.heap.size W a cap ls ∧ (∀ k, k < ls.length → GatB (lyt ls k)) ∧ LayDat d ls := by
  rcases open_slice Tryz.underlying67 hf with ⟨hcs, hx⟩ | ⟨x, l, c, m, n, D, Pl, hcs, _, hl, hm, hmm, hx, hall⟩
  · simp [Value.cells] at hcs
    obtain ⟨rfl, rfl, rfl⟩ := hcs
    simp only [Prod.mk.injEq] at hx
    exact ⟨[], rfl, ⟨fun k hk => by simp at hk, by simp, fun _ => rfl⟩, fun k hk => by simp at hk, Or.inl ⟨hx.1, rfl⟩⟩
  · simp [Value.cells] at hcs
    obtain ⟨rfl, rfl, rfl⟩ := hcs
    simp only [if_true] at hmm
    subst hmm
    simp only [Prod.mk.injEq] at hx
    have each : ∀ i, i < m → ∃ y : List GatZ × Option Addr × Nat, W.cell? (x.add i) = some (.slice y.2.1 y.1.length y.2.2) ∧ LstG W.heap.size W y.2.1 y.2.2 y.1 ∧ GatB y.1 ∧ GatDat (D i) y.1 := fun i hi => by
      obtain ⟨cs', h1, h2⟩ := hall i hi
      rw [show Tryz.prog.cellsOf 86 = 1 from by kernel_rfl] at h1
      obtain ⟨_, hlen, hcell⟩ := World.cells?_some h1
      obtain ⟨v0, rfl⟩ := List.length_eq_one_iff.1 hlen
      obtain ⟨a', l', c', rfl⟩ : ∃ a l c, v0 = .slice a l c := by
        rcases open_slice Tryz.underlying86 h2 with ⟨hcs, _⟩ | ⟨x, l, c, m, n, D, Pl, hcs, _⟩
        · exact ⟨_, _, _, List.head_eq_of_cons_eq hcs⟩
        · exact ⟨_, _, _, List.head_eq_of_cons_eq hcs⟩
      obtain ⟨s, rfl, l1, f1, e1⟩ := open_gates (a := a') (len := l') (cap := c') h2
      have e0 := hcell 0 (by omega)
      rw [add_add] at e0
      exact ⟨⟨s, a', c'⟩, by simpa using e0, l1, f1, e1⟩
    obtain ⟨Y, hY⟩ := choose_lt each
    obtain ⟨s, hs⟩ : ∃ s : List (List GatZ), s = (List.range len).map fun r => (Y r).1 := ⟨_, rfl⟩
    have hlen : s.length = len := by rw [hs]; simp
    have hoat : ∀ k, k < len → lyt s k = (Y k).1 := fun k hk => by
      rw [hs]
      unfold lyt
      simp [hk]
    refine ⟨s, hlen.symm, ⟨fun k hk => ?_, by omega, fun e => by cases e⟩, fun k hk => ?_, Or.inr ⟨_, _, hx.1, by rw [hlen]; simp, fun k hk => ?_⟩⟩
    · rw [hlen] at hk
      obtain ⟨h1, h2, _⟩ := hY k (by omega)
      obtain ⟨b, o, rfl⟩ := addr_of_cell (by have := (hY 0 (by omega)).1; exact this)
      rw [add_plain] at h1
      rw [hoat k hk]
      exact ⟨b, o, _, _, rfl, blk_of_cell h1, h1, h2⟩
    · rw [hlen] at hk
      rw [hoat k hk]
      exact (hY k (by omega)).2.2.1
    · rw [hlen] at hk
      rw [hoat k hk]
      exact ⟨D k, by simp [hk], (hY k (by omega)).2.2.2⟩
/-- a circuit's datum -/
def CirDat {H : Type} (d : DataW H) (ls : List (List GatZ)) : Prop := ∃ d0 d1, d = .agg [d0, d1] ∧ LayDat d1 ls
set_option maxRecDepth 100000 in
theorem open_circuit {H : Type} {enc : TypeId × Value → H} {W : World} {r : Reach} {b0 : Nat} {v : Value} {d : DataW H} {p : List MemPlace} (hv : Value.okWide Tryz.prog W r b0 69 v) (h : DataW.Trod enc Tryz.prog W 0 (fun _ => true) true 69 v d p) :
    ∃ (wide : Int) (aL : Option Addr) (cL : Nat) (s : List (List GatZ)), v = .agg #[.int .i64 wide, .slice aL s.length cL] ∧ (-9223372036854775808 ≤ wide ∧ wide ≤ 9223372036854775807) ∧ LstGG W.heap.size W aL cL s ∧ (∀ k, k < s.length → GatB (lyt s k)) ∧ CirDat d s := by
  obtain ⟨v0, v1, y0, y1, n, rfl, rfl, _, t0, t1⟩ := Go.Joins.open_agg2 Tryz.underlying69 (by kernel_rfl) (by kernel_rfl) hv h
  obtain ⟨N0, p0, _, q0⟩ := DataW.trod_int Tryz.underlying3 t0
  obtain ⟨aL, len, cap, rfl⟩ : ∃ a l c, v1 = .slice a l c := by
    rcases open_slice Tryz.underlying67 t1 with ⟨hcs, _⟩ | ⟨x, l, c, m, n, D, Pl, hcs, _⟩
    · exact ⟨_, _, _, List.head_eq_of_cons_eq hcs⟩
    · exact ⟨_, _, _, List.head_eq_of_cons_eq hcs⟩
  obtain ⟨s, rfl, l1, f1, e1⟩ := open_layers (a := aL) (len := len) (cap := cap) (d := y1.1) (pl := y1.2) t1
  obtain rfl : v0 = .int .i64 N0 := List.head_eq_of_cons_eq p0
  exact ⟨N0, aL, cap, s, rfl, wf_bounds q0, l1, f1, _, _, rfl, e1⟩
set_option maxRecDepth 100000 in
theorem reach_gatesD {H : Type} {d : DataW H} {s : List GatZ} (hw : ∀ n ∈ d.weights Tryz.prog 86, n ≤ reachBytes) (h : GatDat d s) : s.length ≤ 281474976710656 := by
  rcases h with ⟨_, rfl⟩ | ⟨elems, spare, rfl, he⟩
  · simp
  · have hs := hw ((elems.length + spare.length) * Tryz.prog.bytesOf 85) (by simp [DataW.weights, Tryz.underlying86])
    rw [show Tryz.prog.bytesOf 85 = 24 from by kernel_rfl] at hs
    simp [reachBytes] at hs
    omega
set_option maxRecDepth 100000 in
theorem reach_cirD {H : Type} {d : DataW H} {s : List (List GatZ)} (hw : ∀ n ∈ d.weights Tryz.prog 69, n ≤ reachBytes) (h : CirDat d s) (hb : ∀ k, k < s.length → GatB (lyt s k)) : CirB s := by
  obtain ⟨d0, d1, rfl, e1⟩ := h
  simp only [DataW.weights, Tryz.underlying69] at hw
  have hw1 : ∀ n ∈ d1.weights Tryz.prog 67, n ≤ reachBytes := fun n hn => hw n (DataW.weights_mem_each (j := 1) rfl rfl n hn)
  rcases e1 with ⟨_, rfl⟩ | ⟨elems, spare, rfl, he, hk⟩
  · exact ⟨by simp, fun k hk => by simp at hk, fun k hk => by simp at hk⟩
  · refine ⟨?_, fun k h2 => ?_, hb⟩
    · have hs := hw1 ((elems.length + spare.length) * Tryz.prog.bytesOf 86) (by simp [DataW.weights, Tryz.underlying67])
      rw [show Tryz.prog.bytesOf 86 = 24 from by kernel_rfl] at hs
      simp [reachBytes] at hs
      omega
    · obtain ⟨dk, h3, h4⟩ := hk k h2
      refine reach_gatesD (d := dk) (fun n hn => hw1 n ?_) h4
      have := weightsAll_mem (P := Tryz.prog) (e := 86) h3 n hn
      simp [DataW.weights, Tryz.underlying67, this]

end Go.Proofs.YtpgnabmkfkcogaaGreatDoor
