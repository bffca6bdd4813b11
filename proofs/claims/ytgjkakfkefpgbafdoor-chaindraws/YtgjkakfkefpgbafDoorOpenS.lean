/- Arguments of type []attestlaw3.Op, opened. -/
import Derived.Test.YtgjkakfkefpgbafDoorOpenR
namespace Go.Proofs.YtgjkakfkefpgbafDoor
open Go.ChangeShapes Go.WideShapes Go.RowKit Go.Deep

/-- what is done to a chain -/
structure OpZ where
  kind : Int
  num : Int
  l : List Int
instance : Inhabited OpZ := ⟨⟨0, 0, []⟩⟩
def oat (s : List OpZ) (k : Nat) : OpZ := s.getD k ⟨0, 0, []⟩
/-- a script in memory -/
structure LstO (n0 : Nat) (w : World) (a : Option Addr) (cap : Nat) (s : List OpZ) : Prop where
  row : ∀ k, k < s.length → ∃ b o ak ck, a = some ⟨b, o, none⟩ ∧ b < n0 ∧ w.cell? ⟨b, o + k * 3, none⟩ = some (.int .i64 (oat s k).kind) ∧ w.cell? ⟨b, o + k * 3 + 1, none⟩ = some (.int .i64 (oat s k).num) ∧ w.cell? ⟨b, o + k * 3 + 2, none⟩ = some (.slice ak (oat s k).l.length ck) ∧ Lst n0 w ak ck (oat s k).l
  room : s.length ≤ cap
  nil : a = none → cap = 0
theorem LstO.below {n0 : Nat} {A B : World} {a : Option Addr} {cap : Nat} {s : List OpZ} (r : LstO n0 A a cap s) (h : Below n0 A B) : LstO n0 B a cap s :=
  ⟨fun k hk => by
    obtain ⟨b, o, ak, ck, h1, h2, h3, h4, h5, h6⟩ := r.row k hk
    exact ⟨b, o, ak, ck, h1, h2, (h.cell (p := ⟨b, o + k * 3, none⟩) h2).trans h3, (h.cell (p := ⟨b, o + k * 3 + 1, none⟩) h2).trans h4, (h.cell (p := ⟨b, o + k * 3 + 2, none⟩) h2).trans h5, h6.below h⟩, r.room, r.nil⟩
theorem LstO.mono {n0 n1 : Nat} {A : World} {a : Option Addr} {cap : Nat} {s : List OpZ} (r : LstO n0 A a cap s) (h : n0 ≤ n1) : LstO n1 A a cap s :=
  ⟨fun k hk => by
    obtain ⟨b, o, ak, ck, h1, h2, h3, h4, h5, h6⟩ := r.row k hk
    exact ⟨b, o, ak, ck, h1, by omega, h3, h4, h5, h6.mono h⟩, r.room, r.nil⟩
/-- numbers that fit -/
def FitsO (s : List OpZ) : Prop := ∀ k, k < s.length → (-9223372036854775808 ≤ (oat s k).kind ∧ (oat s k).kind ≤ 9223372036854775807) ∧ (-9223372036854775808 ≤ (oat s k).num ∧ (oat s k).num ≤ 9223372036854775807) ∧ Fits (oat s k).l
/-- a script's datum -/
def OpsDat {H : Type} (d : DataW H) (s : List OpZ) : Prop := (d = .nil ∧ s = []) ∨ ∃ elems spare, d = .slice elems spare ∧ elems.length = s.length ∧ ∀ k, k < s.length → ∃ d0 d1 d2, elems[k]? = some (.agg [d0, d1, d2]) ∧ ListDat d2 (oat s k).l

theorem list3 {α : Type} {l : List α} (h : l.length = 3) : ∃ a b c, l = [a, b, c] := by
  match l, h with
  | [a, b, c], _ => exact ⟨a, b, c, rfl⟩

set_option maxRecDepth 100000 in
theorem open_ops {H : Type} {enc : TypeId × Value → H} {W : World} {a : Option Addr} {len cap fuel : Nat} {d : DataW H} {pl : List MemPlace}
    (hf : DataW.trod enc Tryd.prog W 0 (fun _ => true) true fuel 23 (Value.slice a len cap).cells.toList = some (d, pl)) :
    ∃ s : List OpZ, len = s.length ∧ LstO W.heap.size W a cap s ∧ FitsO s ∧ OpsDat d s := by
  rcases open_slice Tryd.underlying23 hf with ⟨hcs, hx⟩ | ⟨x, l, c, m, n, D, Pl, hcs, _, hl, hm, hmm, hx, hall⟩
  · simp [Value.cells] at hcs
    obtain ⟨rfl, rfl, rfl⟩ := hcs
    simp only [Prod.mk.injEq] at hx
    exact ⟨[], rfl, ⟨fun k hk => by simp at hk, by simp, fun _ => rfl⟩, fun k hk => by simp at hk, Or.inl ⟨hx.1, rfl⟩⟩
  · simp [Value.cells] at hcs
    obtain ⟨rfl, rfl, rfl⟩ := hcs
    simp only [if_true] at hmm
    subst hmm
    simp only [Prod.mk.injEq] at hx
    have each : ∀ i, i < m → ∃ y : OpZ × Option Addr × Nat, W.cell? (x.add (i * 3)) = some (.int .i64 y.1.kind) ∧ W.cell? (x.add (i * 3 + 1)) = some (.int .i64 y.1.num) ∧ W.cell? (x.add (i * 3 + 2)) = some (.slice y.2.1 y.1.l.length y.2.2) ∧ Lst W.heap.size W y.2.1 y.2.2 y.1.l ∧
        ((Lit.int .i64 y.1.kind).wf = true ∧ (Lit.int .i64 y.1.num).wf = true ∧ Fits y.1.l) ∧ ∃ d0 d1 d2, D i = .agg [d0, d1, d2] ∧ ListDat d2 y.1.l := fun i hi => by
      obtain ⟨cs', h1, h2⟩ := hall i hi
      rw [show Tryd.prog.cellsOf 34 = 3 from by kernel_rfl] at h1
      obtain ⟨_, hlen, hcell⟩ := World.cells?_some h1
      obtain ⟨v0, v1, v2, rfl⟩ := list3 hlen
      obtain ⟨y0, y1, y2, n', hxx, _, g0, g1, g2⟩ := trod_struct3 Tryd.underlying34 h2
      have e0 := hcell 0 (by omega)
      have e1 := hcell 1 (by omega)
      have e2 := hcell 2 (by omega)
      rw [add_add] at e0 e1 e2
      have k1 : Tryd.prog.cellsOf 3 = 1 := by kernel_rfl
      have k2 : Tryd.prog.cellsOf 22 = 1 := by kernel_rfl
      simp only [k1, k2] at g0 g1 g2
      obtain ⟨N0, p0, _, q0⟩ := DataW.trod_int Tryd.underlying3 (by simpa using g0)
      obtain ⟨N1, p1, _, q1⟩ := DataW.trod_int Tryd.underlying3 (by simpa using g1)
      obtain ⟨ak, ck, zs, p2, l2, f2, dd⟩ := open_listV (by simpa using g2)
      simp only [List.cons.injEq, and_true] at p0 p1
      subst p0
      subst p1
      subst p2
      simp only [Prod.mk.injEq] at hxx
      exact ⟨⟨⟨N0, N1, zs⟩, ak, ck⟩, by simpa using e0, by simpa using e1, by simpa using e2, l2, ⟨q0, q1, f2⟩, _, _, _, hxx.1, dd⟩
    obtain ⟨Y, hY⟩ := choose_lt each
    obtain ⟨s, hs⟩ : ∃ s : List OpZ, s = (List.range len).map fun r => (Y r).1 := ⟨_, rfl⟩
    have hlen : s.length = len := by rw [hs]; simp
    have hoat : ∀ k, k < len → oat s k = (Y k).1 := fun k hk => by
      rw [hs]
      unfold oat
      simp [hk]
    refine ⟨s, hlen.symm, ⟨fun k hk => ?_, by omega, fun e => by cases e⟩, fun k hk => ?_, Or.inr ⟨_, _, hx.1, by rw [hlen]; simp, fun k hk => ?_⟩⟩
    · rw [hlen] at hk
      obtain ⟨h1, h2, h3, h4, _⟩ := hY k (by omega)
      obtain ⟨b, o, rfl⟩ := addr_of_cell (v := .int .i64 (Y 0).1.kind) (by have := (hY 0 (by omega)).1; simpa using this)
      rw [add_plain] at h1 h2 h3
      rw [hoat k hk]
      exact ⟨b, o, (Y k).2.1, (Y k).2.2, rfl, blk_of_cell h1, h1, by rw [Nat.add_assoc]; exact h2, by rw [Nat.add_assoc]; exact h3, h4⟩
    · rw [hlen] at hk
      obtain ⟨_, _, _, _, ⟨q0, q1, f2⟩, _⟩ := hY k (by omega)
      rw [hoat k hk]
      exact ⟨wf_bounds q0, wf_bounds q1, f2⟩
    · rw [hlen] at hk
      obtain ⟨_, _, _, _, _, d0, d1, d2, e, dd⟩ := hY k (by omega)
      rw [hoat k hk]
      exact ⟨d0, d1, d2, by simp [hk, e], dd⟩

set_option maxRecDepth 100000 in
theorem reach_opsD {H : Type} {d : DataW H} {s : List OpZ} (hw : ∀ n ∈ d.weights Tryd.prog 23, n ≤ reachBytes) (h : OpsDat d s) : s.length ≤ 3518437208780 ∧ ∀ k, k < s.length → (oat s k).l.length ≤ 17592186043904 := by
  rcases h with ⟨_, rfl⟩ | ⟨elems, spare, rfl, he, hk⟩
  · exact ⟨by simp, fun k hk => by simp at hk⟩
  · refine ⟨?_, fun k h2 => ?_⟩
    · have hs := hw ((elems.length + spare.length) * Tryd.prog.bytesOf 34) (by simp [DataW.weights, Tryd.underlying23])
      rw [show Tryd.prog.bytesOf 34 = 40 from by kernel_rfl] at hs
      simp [reachBytes] at hs
      omega
    · obtain ⟨d0, d1, d2, h3, h4⟩ := hk k h2
      refine reach_listD (d := d2) (fun n hn => hw n ?_) h4
      have h5 : n ∈ (DataW.agg [d0, d1, d2]).weights Tryd.prog 34 := by
        simp only [DataW.weights, Tryd.underlying34]
        exact DataW.weights_mem_each (j := 2) rfl rfl n hn
      have := weightsAll_mem (P := Tryd.prog) (e := 34) h3 n h5
      simp [DataW.weights, Tryd.underlying23, this]

end Go.Proofs.YtgjkakfkefpgbafDoor
