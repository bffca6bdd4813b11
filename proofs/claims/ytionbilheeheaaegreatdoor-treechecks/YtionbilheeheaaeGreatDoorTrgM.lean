/- A map of digests by groups, in memory. -/
import Derived.Test.YtionbilheeheaaeGreatDoorProg
import Derived.Test.YtionbilheeheaaeGreatDoorSpgs
import Derived.Maps.OwnOps
import Derived.Maps.OwnSet
import Derived.DeepKeys4
import Derived.Laws.AppendOwn
import Derived.WalkArith
namespace Go.Proofs.YtionbilheeheaaeGreatDoor
open Go.RowKit

/-- a group, as a value -/
def gk (a b : Nat) : Value := .agg #[.int .i64 (a : Int), .int .i64 (b : Int)]
theorem gk_inj {a b c d : Nat} (h : gk a b = gk c d) : a = c ∧ b = d := by
  unfold gk at h
  simp only [Value.agg.injEq, Array.mk.injEq, List.cons.injEq, Value.int.injEq] at h
  omega

theorem laidOut : laidOutB Tryz.prog = true := by kernel_rfl
theorem grp_law : WideMaps.KeyLaw Tryz.prog 55 := deep_law_laid laidOut (m := 3) (by omega) (of_decide_eq_true (by kernel_rfl)) (by kernel_rfl) (by rw [Tryz.underlying55])
theorem wf_small {x : Int} (h1 : -9223372036854775808 ≤ x) (h2 : x ≤ 9223372036854775807) : (Lit.int .i64 x).wf = true := WalkArith.wf_i64 (by omega)
theorem keyLits_int (d : Nat) {x : Int} (h1 : -9223372036854775808 ≤ x) (h2 : x ≤ 9223372036854775807) : Tryz.prog.keyLits (d + 1) 3 [.int .i64 x] = some [.int .i64 x] := by
  simp [Program.keyLits, Tryz.underlying3, wf_small h1 h2]
theorem keyOf_gk {a b : Nat} (ha : a ≤ 1000000000) (hb : b ≤ 1000000000) : ∃ l, keyOf Tryz.prog 55 (gk a b) = some l := by
  obtain ⟨n, hn⟩ : ∃ n, Tryz.prog.types.size = n + 1 := ⟨Tryz.prog.types.size - 1, by have : 0 < Tryz.prog.types.size := of_decide_eq_true (by kernel_rfl); omega⟩
  have e1 := keyLits_int n (x := (a : Int)) (by omega) (by omega)
  have e2 := keyLits_int n (x := (b : Int)) (by omega) (by omega)
  have k1 : Tryz.prog.keyType 55 = true := by kernel_rfl
  have k2 : Tryz.prog.cellsOf 55 = 2 := by kernel_rfl
  have k3 : Tryz.prog.cellsOf 3 = 1 := by kernel_rfl
  refine ⟨.string (keyBytes [.int .i64 (a : Int), .int .i64 (b : Int)]), ?_⟩
  simp only [keyOf, Tryz.underlying55, k1, hn]
  rw [show (gk a b).formed Tryz.prog 55 = true by simp [gk, Value.formed, Tryz.underlying55, k2]]
  have e3 : Tryz.prog.keyLits (n + 1 + 1) 55 [.int .i64 (a : Int), .int .i64 (b : Int)] = some [.int .i64 (a : Int), .int .i64 (b : Int)] := by
    unfold Program.keyLits
    simp only [Tryz.underlying55]
    simp [k2, k3, e1, e2]
  rw [show (gk a b).cells.toList = [.int .i64 (a : Int), .int .i64 (b : Int)] from rfl, e3]
  rfl

/-- what a map of digests holds: the first of a list at a key is its own -/
def MapIs (w : World) (B : Nat) (M : Nat → Nat → Option (List Int)) : Prop :=
  ∃ es clock, w.heap[B]? = some (.map es clock) ∧ (∀ e ∈ es.toList, ∃ a b d, e.key = gk a b ∧ a ≤ 1000000000 ∧ b ≤ 1000000000 ∧ M a b = some d ∧ e.val = .agg (an 4 (zat d))) ∧ (∀ a b d, M a b = some d → ∃ e ∈ es.toList, e.key = gk a b) ∧ es.toList.Pairwise (fun x y => x.key ≠ y.key)

def upd (M : Nat → Nat → Option (List Int)) (a b : Nat) (d : List Int) : Nat → Nat → Option (List Int) := fun x y => if x = a ∧ y = b then some d else M x y
theorem upd_same (M : Nat → Nat → Option (List Int)) (a b : Nat) (d : List Int) : upd M a b d a b = some d := by simp [upd]
theorem upd_other {M : Nat → Nat → Option (List Int)} {a b x y : Nat} {d : List Int} (h : ¬ (x = a ∧ y = b)) : upd M a b d x y = M x y := by simp [upd, h]

theorem MapIs.lt {w : World} {B : Nat} {M : Nat → Nat → Option (List Int)} (h : MapIs w B M) : B < w.heap.size := by
  obtain ⟨es, clock, hb, _⟩ := h
  exact (Array.getElem?_eq_some_iff.1 hb).1
theorem MapIs.block {w w' : World} {B : Nat} {M : Nat → Nat → Option (List Int)} (h : MapIs w B M) (e : w'.heap[B]? = w.heap[B]?) : MapIs w' B M := by
  obtain ⟨es, clock, hb, r⟩ := h
  exact ⟨es, clock, e.trans hb, r⟩
theorem MapIs.below {w w' : World} {B n0 : Nat} {M : Nat → Nat → Option (List Int)} (h : MapIs w B M) (e : Below n0 w w') (hb : B < n0) : MapIs w' B M := h.block (e.block B hb)
theorem MapIs.new (w : World) : MapIs (w.alloc (.map #[] 0)) w.heap.size (fun _ _ => none) := ⟨#[], 0, (MapKept.heap_alloc w _).1, by simp, by simp, by simp⟩

/-- what a look-up finds -/
theorem MapIs.find {w : World} {M : Nat → Nat → Option (List Int)} {a b : Nat} (ha : a ≤ 1000000000) (hb : b ≤ 1000000000) {es : Array MapEntry}
    (h1 : ∀ e ∈ es.toList, ∃ a b d, e.key = gk a b ∧ a ≤ 1000000000 ∧ b ≤ 1000000000 ∧ M a b = some d ∧ e.val = .agg (an 4 (zat d))) (h2 : ∀ a b d, M a b = some d → ∃ e ∈ es.toList, e.key = gk a b) :
    (M a b = none ∧ (Instr.findKey 55 (gk a b) es.toList).run Tryz.prog w = .ok none w ∧ ∀ e ∈ es.toList, e.key ≠ gk a b) ∨ ∃ d j e, M a b = some d ∧ (Instr.findKey 55 (gk a b) es.toList).run Tryz.prog w = .ok (some (j, .agg (an 4 (zat d)))) w ∧ es.toList[j]? = some e ∧ e.key = gk a b := by
  obtain ⟨l, hl⟩ := keyOf_gk ha hb
  rcases grp_law.find w hl es.toList (fun e he => by obtain ⟨x, y, d, hk, hx, hy, _⟩ := h1 e he; rw [hk]; exact keyOf_gk hx hy) with ⟨r1, r2⟩ | ⟨j, e, r1, r2, r3⟩
  · left
    refine ⟨?_, r1, r2⟩
    cases hM : M a b with
    | none => rfl
    | some d =>
      obtain ⟨e, he, hk⟩ := h2 a b d hM
      exact absurd hk (r2 e he)
  · right
    obtain ⟨x, y, d, hk, hx, hy, hM, hv⟩ := h1 e (List.mem_of_getElem? r2)
    obtain ⟨rfl, rfl⟩ := gk_inj (hk.symm.trans r3)
    exact ⟨d, j, e, hM, by rw [r1, hv], r2, r3⟩

theorem zero_dg (w : World) : (zeroValue 70).run Tryz.prog w = .ok (.agg (an 4 (fun _ => 0))) w := by kernel_rfl

/-- what comes of a look-up -/
def gotv (M : Nat → Nat → Option (List Int)) (a b : Nat) : Nat → Int := match M a b with | some d => zat d | none => fun _ => 0
theorem MapIs.lookup {w : World} {B : Nat} {M : Nat → Nat → Option (List Int)} (h : MapIs w B M) {a b : Nat} (ha : a ≤ 1000000000) (hb : b ≤ 1000000000) (c : Bool) :
    (Instr.lookup 97 (.map (some B)) (gk a b) c).run Tryz.prog w = .ok (if c then .tuple #[.agg (an 4 (gotv M a b)), .bool (M a b).isSome] else .agg (an 4 (gotv M a b))) w := by
  obtain ⟨es, clock, hB, h1, h2, _⟩ := h
  obtain ⟨l, hl⟩ := keyOf_gk ha hb
  have hck := grp_law.check w es.isEmpty hl
  unfold gotv
  rcases MapIs.find (w := w) ha hb h1 h2 with ⟨hM, hf, _⟩ | ⟨d, j, e, hM, hf, _, _⟩
  · simp [Instr.lookup, run_underlying Tryz.underlying97, Result.andThen, MapKept.run_getObj_map hB, hck, hf, hM]
    rfl
  · simp [Instr.lookup, run_underlying Tryz.underlying97, Result.andThen, MapKept.run_getObj_map hB, hck, hf, hM]

theorem MapIs.update {w : World} {B : Nat} {M : Nat → Nat → Option (List Int)} (h : MapIs w B M) {a b : Nat} (ha : a ≤ 1000000000) (hb : b ≤ 1000000000) (d : List Int) :
    ∃ w', (Instr.mapUpdate 97 (.map (some B)) (gk a b) (.agg (an 4 (zat d)))).run Tryz.prog w = .ok () w' ∧ MapIs w' B (upd M a b d) ∧ w.grownBy w' (some B) := by
  obtain ⟨es, clock, hB, h1, h2, h3⟩ := h
  obtain ⟨l, hl⟩ := keyOf_gk ha hb
  have hck := grp_law.check w false hl
  have hst := grp_law.stays w hl
  have hlt : B < w.heap.size := (Array.getElem?_eq_some_iff.1 hB).1
  have hgr : ∀ o : Obj, w.grownBy { w with heap := w.heap.setIfInBounds B o } (some B) := fun o => ⟨rfl, rfl, rfl, by simp, fun k _ hk => (MapKept.heap_set hB).2 k (fun e => hk (by rw [e]))⟩
  rcases MapIs.find (w := w) ha hb h1 h2 with ⟨hM, hf, hne⟩ | ⟨d0, j, e, hM, hf, hj, hk⟩
  · refine ⟨_, by simp [Instr.mapUpdate, run_underlying Tryz.underlying97, Result.andThen, MapKept.run_getObj_map hB, hck, hf, MapKept.run_setObj_map _ hB]; rfl, ⟨_, _, (MapKept.heap_set hB).1, ?_, ?_, ?_⟩, hgr _⟩
    · intro e he
      simp only [Array.toList_push, List.mem_append, List.mem_singleton] at he
      rcases he with he | rfl
      · obtain ⟨x, y, d', hk, hx, hy, hM', hv⟩ := h1 e he
        refine ⟨x, y, d', hk, hx, hy, ?_, hv⟩
        rw [upd_other (fun hc => by rw [hc.1, hc.2, hM] at hM'; cases hM')]
        exact hM'
      · exact ⟨a, b, d, rfl, ha, hb, upd_same _ _ _ _, rfl⟩
    · intro x y d' hM'
      simp only [Array.toList_push, List.mem_append, List.mem_singleton]
      by_cases hc : x = a ∧ y = b
      · exact ⟨_, .inr rfl, by rw [hc.1, hc.2]⟩
      · rw [upd_other hc] at hM'
        obtain ⟨e, he, hk⟩ := h2 x y d' hM'
        exact ⟨e, .inl he, hk⟩
    · simp only [Array.toList_push]
      rw [List.pairwise_append]
      exact ⟨h3, by simp, fun x hx y hy => by rw [List.mem_singleton.1 hy]; exact hne x hx⟩
  · have hes : es[j]? = some e := by simpa using hj
    have hjl : j < es.size := (Array.getElem?_eq_some_iff.1 hes).1
    have hm : (es.modify j fun e => { e with key := gk a b, val := .agg (an 4 (zat d)) }).toList = es.toList.set j { e with key := gk a b, val := .agg (an 4 (zat d)) } := by
      apply List.ext_getElem?
      intro i
      rw [← Array.getElem?_toList.symm]
      rw [List.getElem?_set]
      simp only [Array.getElem?_modify]
      by_cases hi : j = i
      · subst hi
        rw [if_pos rfl, if_pos rfl, hes]
        simp [hjl]
      · rw [if_neg hi, if_neg hi]
        simp
    refine ⟨_, by simp [Instr.mapUpdate, run_underlying Tryz.underlying97, Result.andThen, MapKept.run_getObj_map hB, hck, hf, hes, hk, hst, MapKept.run_setObj_map _ hB]; rfl, ⟨_, _, (MapKept.heap_set hB).1, ?_, ?_, ?_⟩, hgr _⟩
    · intro e' he'
      rw [hm] at he'
      obtain ⟨i, hi⟩ := List.getElem?_of_mem he'
      rw [List.getElem?_set] at hi
      by_cases hij : j = i
      · rw [if_pos hij] at hi
        split at hi
        · cases hi
          exact ⟨a, b, d, rfl, ha, hb, upd_same _ _ _ _, rfl⟩
        · cases hi
      · rw [if_neg hij] at hi
        obtain ⟨x, y, d', hk', hx, hy, hM', hv⟩ := h1 e' (List.mem_of_getElem? hi)
        refine ⟨x, y, d', hk', hx, hy, ?_, hv⟩
        rw [upd_other]
        · exact hM'
        · rintro ⟨rfl, rfl⟩
          have := List.pairwise_iff_getElem.1 h3
          obtain ⟨hjl', hje⟩ := List.getElem?_eq_some_iff.1 hj
          obtain ⟨hil', hie⟩ := List.getElem?_eq_some_iff.1 hi
          rcases Nat.lt_or_gt_of_ne hij with hlt' | hlt'
          · exact this j i hjl' hil' hlt' (by rw [hje, hie, hk, hk'])
          · exact this i j hil' hjl' hlt' (by rw [hje, hie, hk, hk'])
    · intro x y d' hM'
      rw [hm]
      have hjl' : j < es.toList.length := (List.getElem?_eq_some_iff.1 hj).1
      by_cases hc : x = a ∧ y = b
      · exact ⟨_, List.mem_iff_getElem?.2 ⟨j, by rw [List.getElem?_set, if_pos rfl, if_pos hjl']⟩, by rw [hc.1, hc.2]⟩
      · rw [upd_other hc] at hM'
        obtain ⟨e', he', hk'⟩ := h2 x y d' hM'
        obtain ⟨i, hi⟩ := List.getElem?_of_mem he'
        refine ⟨e', List.mem_iff_getElem?.2 ⟨i, ?_⟩, hk'⟩
        rw [List.getElem?_set, if_neg]
        · exact hi
        · rintro rfl
          rw [hi] at hj
          cases hj
          exact hc (gk_inj (hk'.symm.trans hk))
    · rw [hm]
      rw [List.pairwise_iff_getElem]
      intro i i' hi hi' hlt'
      have := List.pairwise_iff_getElem.1 h3
      obtain ⟨hjl', hje⟩ := List.getElem?_eq_some_iff.1 hj
      rw [List.length_set] at hi hi'
      have t := this i i' hi hi' hlt'
      rw [List.getElem_set, List.getElem_set]
      by_cases e1 : j = i
      · subst e1
        rw [if_pos rfl, if_neg (by omega)]
        rw [hje, hk] at t
        exact t
      · rw [if_neg e1]
        by_cases e2 : j = i'
        · subst e2
          rw [if_pos rfl]
          rw [hje, hk] at t
          exact t
        · rw [if_neg e2]
          exact t

theorem wpList_lookupM {ops : Array Oper} {rest : List Oper} {o : Oper} {act : Act} {Q : Exit → Act → World → Prop} (w : World) (hg : o.guard = none) (m x : Operand) (c : Bool) (hop : o.op = Op.lookup 97 m x c) (B : Nat) (M : Nat → Nat → Option (List Int))
    (hm : act.eval m = .map (some B)) (hown : MapIs w B M) (a b : Nat) (hx : act.eval x = gk a b) (ha : a ≤ 1000000000) (hb : b ≤ 1000000000)
    (hK : wpList Tryz.prog ops Q rest (act.put o.dst (if c then .tuple #[.agg (an 4 (gotv M a b)), .bool (M a b).isSome] else .agg (an 4 (gotv M a b)))) w) : wpList Tryz.prog ops Q (o :: rest) act w := by
  refine wpList_plain hg fun K' hK' => ?_
  unfold Oper.wp
  simp [execOp, hop, hm, hx, hown.lookup ha hb c, Result.andThen]
  exact hK' _ _ hK
theorem wpList_updateM {ops : Array Oper} {rest : List Oper} {o : Oper} {act : Act} {Q : Exit → Act → World → Prop} (w : World) (hg : o.guard = none) (m x v : Operand) (hop : o.op = Op.mapUpdate 97 m x v) (B : Nat) (M : Nat → Nat → Option (List Int))
    (hm : act.eval m = .map (some B)) (hown : MapIs w B M) (a b : Nat) (d : List Int) (hx : act.eval x = gk a b) (hv : act.eval v = .agg (an 4 (zat d))) (ha : a ≤ 1000000000) (hb : b ≤ 1000000000)
    (hK : ∀ w', MapIs w' B (upd M a b d) → w.grownBy w' (some B) → wpList Tryz.prog ops Q rest (act.put o.dst undef) w') : wpList Tryz.prog ops Q (o :: rest) act w := by
  refine wpList_plain hg fun K' hK' => ?_
  obtain ⟨w', hrun, r1, r2⟩ := hown.update ha hb d
  unfold Oper.wp
  simp [execOp, hop, hm, hx, hv, hrun, Result.andThen]
  exact hK' _ _ (hK w' r1 r2)

end Go.Proofs.YtionbilheeheaaeGreatDoor
