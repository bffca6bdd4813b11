/- Arguments of type [][]int and api.Opening, opened. Arguments of type api.Code, opened. Arguments that are texts, opened. -/
import Derived.Test.YtmmgkdcojkmlcaaGreatDoorTres
import Derived.Test.YtmmgkdcojkmlcaaGreatDoorEnds
import Derived.Deep.Matrix
import Derived.Deep.Strs
import Derived.Lib.SmallJoins
import Derived.Test.YtmmgkdcojkmlcaaGreatDoorLFAM
import Derived.ChangeMaps5
namespace Go.Proofs.YtmmgkdcojkmlcaaGreatDoor
open Go.ChangeShapes Go.WideShapes Go.RowKit Go.Deep

theorem reach_each {H : Type} {ts : List TypeId} {ds : List (DataW H)} {j : Nat} {t : TypeId} {d : DataW H} (hsz : (DataW.weightsEach Tryz.prog ts ds).all (· ≤ reachBytes) = true) (ht : ts[j]? = some t) (hd : ds[j]? = some d) : ∀ n ∈ d.weights Tryz.prog t, n ≤ reachBytes :=
  fun n hn => by simpa using List.all_eq_true.1 hsz n (DataW.weights_mem_each ht hd n hn)
theorem addr_of_cell {W : World} {a : Addr} {v : Value} (h : W.cell? (a.add 0) = some v) : ∃ b o, a = ⟨b, o, none⟩ := by
  obtain ⟨b, off, spot⟩ := a
  have hspot : spot = none := by simpa [Addr.add] using World.cell?_spot h
  subst hspot
  exact ⟨b, off, rfl⟩
theorem blk_of_cell {W : World} {b o : Nat} {v : Value} (h : W.cell? ⟨b, o, none⟩ = some v) : b < W.heap.size := by
  rcases Nat.lt_or_ge b W.heap.size with g | g
  · exact g
  · simp [World.cell?, Array.getElem?_eq_none g] at h

end Go.Proofs.YtmmgkdcojkmlcaaGreatDoor

namespace Go.Proofs.YtmmgkdcojkmlcaaGreatDoor
open Go.ChangeShapes Go.WideShapes Go.RowKit Go.Deep Go.Joins

instance : Inhabited InsZ := ⟨⟨0, 0, 0, 0⟩⟩
/-- instructions' datum -/
def InsDat {H : Type} (d : DataW H) (s : List InsZ) : Prop := (d = .nil ∧ s = []) ∨ ∃ elems spare, d = .slice elems spare ∧ elems.length = s.length
theorem list4 {α : Type} {l : List α} (h : l.length = 4) : ∃ a b c d, l = [a, b, c, d] := by
  match l, h with
  | [a, b, c, d], _ => exact ⟨a, b, c, d, rfl⟩

set_option maxRecDepth 100000 in
theorem open_ins {H : Type} {enc : TypeId × Value → H} {W : World} {a : Option Addr} {len cap fuel : Nat} {d : DataW H} {pl : List MemPlace}
    (hf : DataW.trod enc Tryz.prog W 0 (fun _ => true) true fuel 22 (Value.slice a len cap).cells.toList = some (d, pl)) :
    ∃ s : List InsZ, len = s.length ∧ LstI W.heap.size W a cap s ∧ InsB s ∧ InsDat d s := by
  rcases open_slice Tryz.underlying22 hf with ⟨hcs, hx⟩ | ⟨x, l, c, m, n, D, Pl, hcs, _, hl, hm, hmm, hx, hall⟩
  · simp [Value.cells] at hcs
    obtain ⟨rfl, rfl, rfl⟩ := hcs
    simp only [Prod.mk.injEq] at hx
    exact ⟨[], rfl, ⟨fun k hk => by simp at hk, by simp, fun _ => rfl⟩, fun k hk => by simp at hk, Or.inl ⟨hx.1, rfl⟩⟩
  · simp [Value.cells] at hcs
    obtain ⟨rfl, rfl, rfl⟩ := hcs
    simp only [if_true] at hmm
    subst hmm
    simp only [Prod.mk.injEq] at hx
    have each : ∀ i, i < m → ∃ y : InsZ, W.cell? (x.add (i * 4)) = some (.int .i64 y.op) ∧ W.cell? (x.add (i * 4 + 1)) = some (.int .i64 y.a) ∧ W.cell? (x.add (i * 4 + 2)) = some (.int .i64 y.b) ∧ W.cell? (x.add (i * 4 + 3)) = some (.int .i64 y.c) ∧
        ((Lit.int .i64 y.op).wf = true ∧ (Lit.int .i64 y.a).wf = true ∧ (Lit.int .i64 y.b).wf = true ∧ (Lit.int .i64 y.c).wf = true) := fun i hi => by
      obtain ⟨cs', h1, h2⟩ := hall i hi
      rw [show Tryz.prog.cellsOf 35 = 4 from by kernel_rfl] at h1
      obtain ⟨_, hlen, hcell⟩ := World.cells?_some h1
      obtain ⟨v0, v1, v2, v3, rfl⟩ := list4 hlen
      obtain ⟨y0, y1, y2, y3, n', hxx, _, g0, g1, g2, g3⟩ := trod_struct4 Tryz.underlying35 h2
      have e0 := hcell 0 (by omega)
      have e1 := hcell 1 (by omega)
      have e2 := hcell 2 (by omega)
      have e3 := hcell 3 (by omega)
      rw [add_add] at e0 e1 e2 e3
      have k1 : Tryz.prog.cellsOf 3 = 1 := by kernel_rfl
      simp only [k1] at g0 g1 g2 g3
      obtain ⟨N0, p0, _, q0⟩ := DataW.trod_int Tryz.underlying3 (by simpa using g0)
      obtain ⟨N1, p1, _, q1⟩ := DataW.trod_int Tryz.underlying3 (by simpa using g1)
      obtain ⟨N2, p2, _, q2⟩ := DataW.trod_int Tryz.underlying3 (by simpa using g2)
      obtain ⟨N3, p3, _, q3⟩ := DataW.trod_int Tryz.underlying3 (by simpa using g3)
      simp only [List.cons.injEq, and_true] at p0 p1 p2 p3
      subst p0
      subst p1
      subst p2
      subst p3
      exact ⟨⟨N0, N1, N2, N3⟩, by simpa using e0, by simpa using e1, by simpa using e2, by simpa using e3, q0, q1, q2, q3⟩
    obtain ⟨Y, hY⟩ := choose_lt each
    obtain ⟨s, hs⟩ : ∃ s : List InsZ, s = (List.range len).map fun r => Y r := ⟨_, rfl⟩
    have hlen : s.length = len := by rw [hs]; simp
    have hoat : ∀ k, k < len → insat s k = Y k := fun k hk => by
      rw [hs]
      unfold insat
      simp [hk]
    refine ⟨s, hlen.symm, ⟨fun k hk => ?_, by omega, fun e => by cases e⟩, fun k hk => ?_, Or.inr ⟨_, _, hx.1, by rw [hlen]; simp⟩⟩
    · rw [hlen] at hk
      obtain ⟨h1, h2, h3, h4, _⟩ := hY k (by omega)
      obtain ⟨b, o, rfl⟩ := addr_of_cell (v := .int .i64 (Y 0).op) (by have := (hY 0 (by omega)).1; simpa using this)
      rw [add_plain] at h1 h2 h3 h4
      rw [hoat k hk]
      exact ⟨b, o, rfl, blk_of_cell h1, h1, by rw [Nat.add_assoc]; exact h2, by rw [Nat.add_assoc]; exact h3, by rw [Nat.add_assoc]; exact h4⟩
    · rw [hlen] at hk
      obtain ⟨_, _, _, _, q0, q1, q2, q3⟩ := hY k (by omega)
      rw [hoat k hk]
      exact ⟨wf_bounds q0, wf_bounds q1, wf_bounds q2, wf_bounds q3⟩
/-- code's datum -/
def CodeDat {H : Type} (d : DataW H) (s : List InsZ) : Prop := ∃ d0 d1, d = .agg [d0, d1] ∧ InsDat d1 s
set_option maxRecDepth 100000 in
theorem open_code {H : Type} {enc : TypeId × Value → H} {W : World} {r : Reach} {b0 : Nat} {v : Value} {d : DataW H} {p : List MemPlace} (hv : Value.okWide Tryz.prog W r b0 24 v) (h : DataW.Trod enc Tryz.prog W 0 (fun _ => true) true 24 v d p) :
    ∃ (size : Int) (aL : Option Addr) (cL : Nat) (s : List InsZ), v = .agg #[.int .i64 size, .slice aL s.length cL] ∧ (-9223372036854775808 ≤ size ∧ size ≤ 9223372036854775807) ∧ LstI W.heap.size W aL cL s ∧ InsB s ∧ CodeDat d s := by
  obtain ⟨v0, v1, y0, y1, n, rfl, rfl, _, t0, t1⟩ := Go.Joins.open_agg2 Tryz.underlying24 (by kernel_rfl) (by kernel_rfl) hv h
  obtain ⟨N0, p0, _, q0⟩ := DataW.trod_int Tryz.underlying3 t0
  obtain ⟨aL, len, cap, rfl⟩ : ∃ a l c, v1 = .slice a l c := by
    rcases open_slice Tryz.underlying22 t1 with ⟨hcs, _⟩ | ⟨x, l, c, m, n, D, Pl, hcs, _⟩
    · exact ⟨_, _, _, List.head_eq_of_cons_eq hcs⟩
    · exact ⟨_, _, _, List.head_eq_of_cons_eq hcs⟩
  obtain ⟨s, rfl, l1, f1, e1⟩ := open_ins (a := aL) (len := len) (cap := cap) (d := y1.1) (pl := y1.2) t1
  obtain rfl : v0 = .int .i64 N0 := List.head_eq_of_cons_eq p0
  exact ⟨N0, aL, cap, s, rfl, wf_bounds q0, l1, f1, _, _, rfl, e1⟩
set_option maxRecDepth 100000 in
theorem reach_codeI {H : Type} {d : DataW H} {s : List InsZ} (hw : ∀ n ∈ d.weights Tryz.prog 24, n ≤ reachBytes) (h : CodeDat d s) : s.length ≤ 4398046511104 := by
  obtain ⟨d0, d1, rfl, e1⟩ := h
  simp only [DataW.weights, Tryz.underlying24] at hw
  rcases e1 with ⟨_, rfl⟩ | ⟨elems, spare, rfl, he⟩
  · simp
  · have hs := hw ((elems.length + spare.length) * Tryz.prog.bytesOf 35) (DataW.weights_mem_each (j := 1) rfl rfl _ (by simp [DataW.weights, Tryz.underlying22]))
    rw [show Tryz.prog.bytesOf 35 = 32 from by kernel_rfl] at hs
    simp [reachBytes] at hs
    omega
end Go.Proofs.YtmmgkdcojkmlcaaGreatDoor

namespace Go.Proofs.YtmmgkdcojkmlcaaGreatDoor
open Go.ChangeShapes Go.WideShapes Go.RowKit

theorem reach_text {H : Type} {ts : List TypeId} {ds : List (DataW H)} {j : Nat} {s : ByteArray} (hsz : (DataW.weightsEach Tryz.prog ts ds).all (· ≤ reachBytes) = true) (ht : ts[j]? = some 9) (hd : ds[j]? = some (.lit (.string s.data.toList))) : s.size ≤ 281474976710656 := by
  have h := List.all_eq_true.1 hsz s.data.toList.length (DataW.weights_mem_each ht hd _ (by simp [DataW.weights]))
  have h2 : s.data.toList.length ≤ reachBytes := by simpa using h
  have h3 : s.data.toList.length = s.size := by rw [Array.length_toList]; rfl
  unfold reachBytes at h2
  omega

end Go.Proofs.YtmmgkdcojkmlcaaGreatDoor
