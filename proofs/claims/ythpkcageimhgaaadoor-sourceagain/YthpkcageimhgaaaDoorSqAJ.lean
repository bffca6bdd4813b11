/- A map to numbers, in memory, whatever its keys. Package source: names that stand for something. -/
import Derived.Test.YthpkcageimhgaaaDoorSqAI
import Derived.Maps.OwnOps
import Derived.Maps.OwnSet
import Derived.DeepKeys4
import Derived.WalkArith
import Derived.StringKeys
namespace Go.Proofs.YthpkcageimhgaaaDoor
open Go.RowKit Go.Maps

/-- keys of a map to numbers, as values -/
structure KI {κ : Type} (k t : TypeId) (enc : κ → Value) (ok : κ → Prop) : Prop where
  keyed : Keyed Tryd.prog k
  und : Tryd.prog.underlying t = some (.map k 3)
  has : ∀ x, ok x → ∃ l, keyOf Tryd.prog k (enc x) = some l
  inj : ∀ x y, enc x = enc y → x = y
/-- a map to numbers -/
def MapI {κ : Type} (enc : κ → Value) (ok : κ → Prop) (w : World) (B : Nat) (M : κ → Option Int) : Prop :=
  ∃ es clock, w.heap[B]? = some (.map es clock) ∧ (∀ e ∈ es.toList, ∃ x n, e.key = enc x ∧ ok x ∧ M x = some n ∧ e.val = .int .i64 n) ∧ (∀ x n, M x = some n → ∃ e ∈ es.toList, e.key = enc x) ∧ es.toList.Pairwise (fun x y => x.key ≠ y.key)
def updI {κ : Type} [DecidableEq κ] (M : κ → Option Int) (x : κ) (n : Int) : κ → Option Int := fun y => if y = x then some n else M y
section
variable {κ : Type} {k t : TypeId} {enc : κ → Value} {ok : κ → Prop} {w w' : World} {B : Nat} {M : κ → Option Int}
theorem MapI.lt (h : MapI enc ok w B M) : B < w.heap.size := by
  obtain ⟨es, clock, hb, _⟩ := h
  exact (Array.getElem?_eq_some_iff.1 hb).1
theorem MapI.block (h : MapI enc ok w B M) (e : w'.heap[B]? = w.heap[B]?) : MapI enc ok w' B M := by
  obtain ⟨es, clock, hb, r⟩ := h
  exact ⟨es, clock, e.trans hb, r⟩
theorem MapI.below (h : MapI enc ok w B M) (e : Below w.heap.size w w') : MapI enc ok w' B M := h.block (e.block B h.lt)
theorem MapI.new (w : World) : MapI enc ok (w.alloc (.map #[] 0)) w.heap.size (fun _ => none) := ⟨#[], 0, (MapKept.heap_alloc w _).1, by simp, by simp, by simp⟩
/-- what a look-up finds -/
theorem MapI.find (K : KI k t enc ok) {x : κ} (hx : ok x) {es : Array MapEntry}
    (h1 : ∀ e ∈ es.toList, ∃ x n, e.key = enc x ∧ ok x ∧ M x = some n ∧ e.val = .int .i64 n) (h2 : ∀ x n, M x = some n → ∃ e ∈ es.toList, e.key = enc x) :
    (M x = none ∧ (Instr.findKey k (enc x) es.toList).run Tryd.prog w = .ok none w ∧ ∀ e ∈ es.toList, e.key ≠ enc x) ∨ ∃ n j e, M x = some n ∧ (Instr.findKey k (enc x) es.toList).run Tryd.prog w = .ok (some (j, .int .i64 n)) w ∧ es.toList[j]? = some e ∧ e.key = enc x := by
  obtain ⟨l, hl⟩ := K.has x hx
  rcases K.keyed.find w hl es.toList (fun e he => by obtain ⟨y, n, hk, hy, _⟩ := h1 e he; rw [hk]; exact K.has y hy) with ⟨r1, r2⟩ | ⟨j, e, r1, r2, r3⟩
  · left
    refine ⟨?_, r1, r2⟩
    cases hM : M x with
    | none => rfl
    | some d =>
      obtain ⟨e, he, hk⟩ := h2 x d hM
      exact absurd hk (r2 e he)
  · right
    obtain ⟨y, n, hk, hy, hM, hv⟩ := h1 e (List.mem_of_getElem? r2)
    obtain rfl := K.inj _ _ (hk.symm.trans r3)
    exact ⟨n, j, e, hM, by rw [r1, hv], r2, r3⟩
theorem zero_iS (w : World) : (zeroValue 3).run Tryd.prog w = .ok (.int .i64 0) w := by kernel_rfl
theorem MapI.lookup (K : KI k t enc ok) (h : MapI enc ok w B M) {x : κ} (hx : ok x) (c : Bool) :
    (Instr.lookup t (.map (some B)) (enc x) c).run Tryd.prog w = .ok (if c then .tuple #[.int .i64 ((M x).getD 0), .bool (M x).isSome] else .int .i64 ((M x).getD 0)) w := by
  obtain ⟨es, clock, hB, h1, h2, _⟩ := h
  obtain ⟨l, hl⟩ := K.has x hx
  have hck := K.keyed.check w es.isEmpty hl
  have hz := zero_iS w
  rcases MapI.find (w := w) K hx h1 h2 with ⟨hM, hf, _⟩ | ⟨d, j, e, hM, hf, _, _⟩
  · cases c <;> simp [Instr.lookup, run_underlying K.und, Result.andThen, MapKept.run_getObj_map hB, hck, hf, hM, hz]
  · cases c <;> simp [Instr.lookup, run_underlying K.und, Result.andThen, MapKept.run_getObj_map hB, hck, hf, hM]
theorem MapI.update [DecidableEq κ] (K : KI k t enc ok) (h : MapI enc ok w B M) {x : κ} (hx : ok x) (n : Int) :
    ∃ w', (Instr.mapUpdate t (.map (some B)) (enc x) (.int .i64 n)).run Tryd.prog w = .ok () w' ∧ MapI enc ok w' B (updI M x n) ∧ w.grownBy w' (some B) := by
  obtain ⟨es, clock, hB, h1, h2, h3⟩ := h
  obtain ⟨l, hl⟩ := K.has x hx
  have hck := K.keyed.check w false hl
  have hst := K.keyed.stays w hl
  have hgr : ∀ o : Obj, w.grownBy { w with heap := w.heap.setIfInBounds B o } (some B) := fun o => ⟨rfl, rfl, rfl, by simp, fun k _ hk => (MapKept.heap_set hB).2 k (fun e => hk (by rw [e]))⟩
  rcases MapI.find (w := w) K hx h1 h2 with ⟨hM, hf, hne⟩ | ⟨d0, j, e, hM, hf, hj, hk⟩
  · refine ⟨_, by simp [Instr.mapUpdate, run_underlying K.und, Result.andThen, MapKept.run_getObj_map hB, hck, hf, MapKept.run_setObj_map _ hB]; rfl, ⟨_, _, (MapKept.heap_set hB).1, ?_, ?_, ?_⟩, hgr _⟩
    · intro e he
      simp only [Array.toList_push, List.mem_append, List.mem_singleton] at he
      rcases he with he | rfl
      · obtain ⟨y, d', hk, hy, hM', hv⟩ := h1 e he
        refine ⟨y, d', hk, hy, ?_, hv⟩
        unfold updI
        rw [if_neg (fun hc => by rw [hc, hM] at hM'; cases hM')]
        exact hM'
      · exact ⟨x, n, rfl, hx, by simp [updI], rfl⟩
    · intro y d' hM'
      simp only [Array.toList_push, List.mem_append, List.mem_singleton]
      by_cases hc : y = x
      · exact ⟨_, .inr rfl, by rw [hc]⟩
      · unfold updI at hM'
        rw [if_neg hc] at hM'
        obtain ⟨e, he, hk⟩ := h2 y d' hM'
        exact ⟨e, .inl he, hk⟩
    · simp only [Array.toList_push]
      rw [List.pairwise_append]
      exact ⟨h3, by simp, fun x hx y hy => by rw [List.mem_singleton.1 hy]; exact hne x hx⟩
  · have hes : es[j]? = some e := by simpa using hj
    have hjl : j < es.size := (Array.getElem?_eq_some_iff.1 hes).1
    have hm : (es.modify j fun e => { e with key := enc x, val := .int .i64 n }).toList = es.toList.set j { e with key := enc x, val := .int .i64 n } := by
      apply List.ext_getElem?
      intro i
      rw [← Array.getElem?_toList.symm]
      rw [List.getElem?_set]
      simp only [Array.getElem?_modify]
      by_cases hi : j = i
      · subst hi
        rw [if_pos rfl, if_pos rfl, hes]
        simp [hjl]
      · rw [if_neg hi, if_neg hi]
        simp
    refine ⟨_, by simp [Instr.mapUpdate, run_underlying K.und, Result.andThen, MapKept.run_getObj_map hB, hck, hf, hes, hk, hst, MapKept.run_setObj_map _ hB]; rfl, ⟨_, _, (MapKept.heap_set hB).1, ?_, ?_, ?_⟩, hgr _⟩
    · intro e' he'
      rw [hm] at he'
      obtain ⟨i, hi⟩ := List.getElem?_of_mem he'
      rw [List.getElem?_set] at hi
      by_cases hij : j = i
      · rw [if_pos hij] at hi
        split at hi
        · cases hi
          exact ⟨x, n, rfl, hx, by simp [updI], rfl⟩
        · cases hi
      · rw [if_neg hij] at hi
        obtain ⟨y, d', hk', hy, hM', hv⟩ := h1 e' (List.mem_of_getElem? hi)
        refine ⟨y, d', hk', hy, ?_, hv⟩
        unfold updI
        rw [if_neg]
        · exact hM'
        · rintro rfl
          have := List.pairwise_iff_getElem.1 h3
          obtain ⟨hjl', hje⟩ := List.getElem?_eq_some_iff.1 hj
          obtain ⟨hil', hie⟩ := List.getElem?_eq_some_iff.1 hi
          rcases Nat.lt_or_gt_of_ne hij with hlt' | hlt'
          · exact this j i hjl' hil' hlt' (by rw [hje, hie, hk, hk'])
          · exact this i j hil' hjl' hlt' (by rw [hje, hie, hk, hk'])
    · intro y d' hM'
      rw [hm]
      have hjl' : j < es.toList.length := (List.getElem?_eq_some_iff.1 hj).1
      by_cases hc : y = x
      · exact ⟨_, List.mem_iff_getElem?.2 ⟨j, by rw [List.getElem?_set, if_pos rfl, if_pos hjl']⟩, by rw [hc]⟩
      · unfold updI at hM'
        rw [if_neg hc] at hM'
        obtain ⟨e', he', hk'⟩ := h2 y d' hM'
        obtain ⟨i, hi⟩ := List.getElem?_of_mem he'
        refine ⟨e', List.mem_iff_getElem?.2 ⟨i, ?_⟩, hk'⟩
        rw [List.getElem?_set, if_neg]
        · exact hi
        · rintro rfl
          rw [hi] at hj
          cases hj
          exact hc (K.inj _ _ (hk'.symm.trans hk))
    · rw [hm]
      rw [List.pairwise_iff_getElem]
      intro i i' hi hi' hlt'
      have := List.pairwise_iff_getElem.1 h3
      obtain ⟨hjl', hje⟩ := List.getElem?_eq_some_iff.1 hj
      rw [List.length_set] at hi hi'
      have t := this i i' hi hi' hlt'
      rw [List.getElem_set, List.getElem_set]
      by_cases e1 : j = i
      · subst e1
        rw [if_pos rfl, if_neg (by omega)]
        rw [hje, hk] at t
        exact t
      · rw [if_neg e1]
        by_cases e2 : j = i'
        · subst e2
          rw [if_pos rfl]
          rw [hje, hk] at t
          exact t
        · rw [if_neg e2]
          exact t
theorem wpList_updateI [DecidableEq κ] {ops : Array Oper} {rest : List Oper} {o : Oper} {act : Act} {Q : Exit → Act → World → Prop} (K : KI k t enc ok) (w : World) (hg : o.guard = none) (m x v : Operand) (hop : o.op = Op.mapUpdate t m x v) (B : Nat) (M : κ → Option Int)
    (hm : act.eval m = .map (some B)) (hown : MapI enc ok w B M) (y : κ) (n : Int) (hx : act.eval x = enc y) (hv : act.eval v = .int .i64 n) (hy : ok y)
    (hK : ∀ w', MapI enc ok w' B (updI M y n) → w.grownBy w' (some B) → wpList Tryd.prog ops Q rest (act.put o.dst undef) w') : wpList Tryd.prog ops Q (o :: rest) act w := by
  refine wpList_plain hg fun K' hK' => ?_
  obtain ⟨w', hrun, r1, r2⟩ := hown.update K hy n
  unfold Oper.wp
  simp [execOp, hop, hm, hx, hv, hrun, Result.andThen]
  exact hK' _ _ (hK w' r1 r2)
end
/-! ## a function's name and how many names it has in brackets -/
def sgk (x : List UInt8 × Nat) : Value := .agg #[.string (bs x.1), .int .i64 (x.2 : Int)]
def sgo (x : List UInt8 × Nat) : Prop := x.1.length ≤ 4000 ∧ x.2 ≤ 4000
theorem sig_law : WideMaps.KeyLaw Tryd.prog 73 := deep_law_laid (by kernel_rfl) (m := 3) (by omega) (of_decide_eq_true (by kernel_rfl)) (by kernel_rfl) (by rw [Tryd.underlying73])
theorem keyLits_intS (d : Nat) {x : Int} (h1 : -9223372036854775808 ≤ x) (h2 : x ≤ 9223372036854775807) : Tryd.prog.keyLits (d + 1) 3 [.int .i64 x] = some [.int .i64 x] := by
  simp [Program.keyLits, Tryd.underlying3, WalkArith.wf_i64 ⟨h1, h2⟩]
theorem keyLits_strS (d : Nat) (s : ByteArray) (hs : s.size ≤ 4000) : Tryd.prog.keyLits (d + 1) 9 [.string s] = some [.string s.data.toList] := by
  have : s.size ≤ maxLen := by unfold maxLen; omega
  simp [Program.keyLits, Tryd.underlying9, this]
theorem sig_has (x : List UInt8 × Nat) (h : sgo x) : ∃ l, keyOf Tryd.prog 73 (sgk x) = some l := by
  obtain ⟨n, hn⟩ : ∃ n, Tryd.prog.types.size = n + 1 := ⟨Tryd.prog.types.size - 1, by have : 0 < Tryd.prog.types.size := of_decide_eq_true (by kernel_rfl); omega⟩
  have e1 := keyLits_strS n (bs x.1) (by rw [bs_size]; exact h.1)
  have e2 := keyLits_intS n (x := (x.2 : Int)) (by omega) (by have := h.2; omega)
  have k1 : Tryd.prog.keyType 73 = true := by kernel_rfl
  have k2 : Tryd.prog.cellsOf 73 = 2 := by kernel_rfl
  have k3 : Tryd.prog.cellsOf 3 = 1 := by kernel_rfl
  have k4 : Tryd.prog.cellsOf 9 = 1 := by kernel_rfl
  refine ⟨.string (keyBytes [.string (bs x.1).data.toList, .int .i64 (x.2 : Int)]), ?_⟩
  simp only [keyOf, Tryd.underlying73, k1, hn]
  rw [show (sgk x).formed Tryd.prog 73 = true by simp [sgk, Value.formed, Tryd.underlying73, k2]]
  have e3 : Tryd.prog.keyLits (n + 1 + 1) 73 [.string (bs x.1), .int .i64 (x.2 : Int)] = some [.string (bs x.1).data.toList, .int .i64 (x.2 : Int)] := by
    unfold Program.keyLits
    simp only [Tryd.underlying73]
    simp [k2, k3, k4, e1, e2]
  rw [show (sgk x).cells.toList = [.string (bs x.1), .int .i64 (x.2 : Int)] from rfl, e3]
  rfl
theorem sgk_inj (x y : List UInt8 × Nat) (h : sgk x = sgk y) : x = y := by
  unfold sgk at h
  simp only [Value.agg.injEq, Array.mk.injEq, List.cons.injEq, Value.int.injEq, Value.string.injEq] at h
  obtain ⟨h1, ⟨_, h2⟩, _⟩ := h
  have h3 := bs_inj h1
  cases x
  cases y
  simp only [Prod.mk.injEq] at h3 ⊢
  exact ⟨h3, by simp at h2; omega⟩
theorem sigK : KI 73 71 sgk sgo := ⟨Keyed.of_law sig_law, Tryd.underlying71, sig_has, sgk_inj⟩
/-! ## a name -/
def nmk (x : List UInt8) : Value := .string (bs x)
theorem namK : KI 9 34 nmk (fun x => x.length ≤ 4000) := ⟨string_keyed Tryd.underlying9, Tryd.underlying34, fun x hx => ⟨_, Go.WideMaps.keyOf_string_mk Tryd.underlying9 (by rw [bs_size]; unfold maxLen; omega)⟩, fun x y h => bs_inj (by unfold nmk at h; injection h)⟩

end Go.Proofs.YthpkcageimhgaaaDoor

namespace Go.Proofs.YthpkcageimhgaaaDoor
open Go.RowKit

/-- names that stand for something, in memory: the newest first -/
def ScP (w : World) : Value → List (List UInt8 × Int) → Prop
  | v, [] => v = .pointer none
  | v, x :: r => ∃ b u, v = .pointer (some ⟨b, 0, none⟩) ∧ w.heap[b]? = some (.cells #[.string (bs x.1), .int .i64 x.2, u] 103 (0, 0)) ∧ ScP w u r
theorem ScP.below {w w' : World} (hb : Below w.heap.size w w') : ∀ {v : Value} {l : List (List UInt8 × Int)}, ScP w v l → ScP w' v l
  | _, [], h => h
  | _, x :: r, h => by
    obtain ⟨b, u, h1, h2, h3⟩ := h
    exact ⟨b, u, h1, (hb.block _ (Array.getElem?_eq_some_iff.1 h2).1).trans h2, ScP.below hb h3⟩
theorem ScP.same {w : World} : ∀ {v : Value} {l m : List (List UInt8 × Int)}, ScP w v l → ScP w v m → l.length = m.length
  | _, [], [], _, _ => rfl
  | _, [], y :: s, h, k => by
    obtain ⟨b, u, h1, _⟩ := k
    have h' : _ = Value.pointer none := h
    rw [h'] at h1
    injection h1 with h1
    cases h1
  | _, x :: r, [], h, k => by
    obtain ⟨b, u, h1, _⟩ := h
    have k' : _ = Value.pointer none := k
    rw [k'] at h1
    injection h1 with h1
    cases h1
  | _, x :: r, y :: s, h, k => by
    obtain ⟨b, u, h1, h2, h3⟩ := h
    obtain ⟨c, t, k1, k2, k3⟩ := k
    rw [h1] at k1
    injection k1 with k1
    injection k1 with k1
    injection k1 with k1
    subst k1
    rw [h2] at k2
    injection k2 with k2
    injection k2 with k2
    simp only [Array.mk.injEq, List.cons.injEq] at k2
    obtain ⟨_, _, e, _⟩ := k2
    subst e
    simp [ScP.same h3 k3]
open Classical in
/-- how many they are -/
noncomputable def scl (w : World) (v : Value) : Nat := if h : ∃ l, ScP w v l then (Classical.choose h).length else 0
theorem scl_eq {w : World} {v : Value} {l : List (List UInt8 × Int)} (h : ScP w v l) : scl w v = l.length := by
  unfold scl
  have hx : ∃ l, ScP w v l := ⟨l, h⟩
  rw [dif_pos hx]
  exact ScP.same (Classical.choose_spec hx) h
theorem ScP.form {w : World} : ∀ {v : Value} {l : List (List UInt8 × Int)}, ScP w v l → ∃ a, v = .pointer a
  | _, [], h => ⟨none, h⟩
  | _, x :: r, h => by obtain ⟨b, u, h1, _⟩ := h; exact ⟨_, h1⟩
/-- where a name stands for something -/
def ScF (w : World) (e : Value) : Option (List UInt8 × Int) → Prop
  | none => e = .pointer none
  | some x => ∃ b u, e = .pointer (some ⟨b, 0, none⟩) ∧ w.heap[b]? = some (.cells #[.string (bs x.1), .int .i64 x.2, u] 103 (0, 0))

set_option maxRecDepth 100000 in
set_option maxHeartbeats 1000000 in
theorem find_any (nm : List UInt8) (v : Value) (l : List (List UInt8 × Int)) (w : World) (h : ScP w v l) :
    Calls Tryd.prog 42 #[v, .string (bs nm)] w fun e w' => w' = w ∧ ∃ u, e = .returned u ∧ ScF w u (l.find? (fun x => x.1 == nm)) := by
  obtain ⟨a, rfl⟩ := h.form
  have HL := hid h
  obtain ⟨q, hq⟩ : ∃ q, q = l.find? (fun x => x.1 == nm) := ⟨_, rfl⟩
  have HQ := hid hq
  rw [← hq]
  clear h hq
  obtain ⟨s, hs⟩ : ∃ s, s = bs nm := ⟨_, rfl⟩
  have HS : Hid (s.toList = nm) := by unfold Hid; rw [hs]; exact bs_list nm
  rw [← hs]
  clear hs
  go_enter Tryd.func42, Tryd.ntmps42
  go_wp2_with fail
  go_loop [0] (fun v => ∃ (r : List (List UInt8 × Int)), Hid (ScP w v r) ∧ Hid (q = r.find? (fun x => x.1 == nm))) (fun v => scl w v)
  case atStart => exact ⟨l, HL, HQ⟩
  case round =>
    obtain ⟨r, hr, hqr⟩ := hrel
    cases r with
    | nil =>
      have e1 : _ = Value.pointer none := hr.out
      subst e1
      go_wp2_with fail
      go_ret
      refine ⟨rfl, _, rfl, ?_⟩
      have hq2 := hqr.out
      simp at hq2
      subst hq2
      rfl
    | cons x r =>
      obtain ⟨b, u, rfl, h2, h3⟩ := hr.out
      have c0 : w.cell? ⟨b, 0, none⟩ = some (.string (bs x.1)) := by simp [World.cell?, h2]
      have c2 : w.cell? ⟨b, 2, none⟩ = some u := by simp [World.cell?, h2]
      have H2 := hid h2
      have H3 := hid h3
      have hls := bs_list x.1
      have hsl := HS.out
      have HSC := hid (scl_eq hr.out)
      obtain ⟨a2, rfl⟩ := h3.form
      clear h2 h3
      by_cases hx : x.1 = nm
      · have t1 : (x.1 == nm) = true := by simpa using hx
        have HX := hid hx
        clear hx
        go_wp2_with fail
        go_ret
        refine ⟨rfl, _, rfl, ?_⟩
        have hq2 := hqr.out
        rw [List.find?_cons, show (x.1 == nm) = true by simpa using HX.out] at hq2
        subst hq2
        exact ⟨b, _, rfl, H2.out⟩
      · have t1 : (x.1 == nm) = false := by simpa using hx
        have HX := hid hx
        clear hx
        go_wp2_with fail
        go_round
        case rel =>
          refine ⟨r, H3, ?_⟩
          have hq2 := hqr.out
          rw [List.find?_cons, show (x.1 == nm) = false by simpa using HX.out] at hq2
          exact hq2
        case measure =>
          rw [HSC.out, scl_eq H3.out]
          simp
theorem with_any (nm : ByteArray) (n : Int) (a : Option Addr) (w : World) : Calls Tryd.prog 32 #[.pointer a, .string nm, .int .i64 n] w fun e w' => e = .returned (.pointer (some ⟨w.heap.size, 0, none⟩)) ∧ w' = w.alloc (.cells #[.string nm, .int .i64 n, .pointer a] 103) := by
  go_enter Tryd.func32, Tryd.ntmps32
  go_wp2_with fail
  go_ret
  exact ⟨rfl, rfl⟩
theorem ScP.with {w : World} {a : Option Addr} {l : List (List UInt8 × Int)} (h : ScP w (.pointer a) l) (nm : List UInt8) (n : Int) : ScP (w.alloc (.cells #[.string (bs nm), .int .i64 n, .pointer a] 103)) (.pointer (some ⟨w.heap.size, 0, none⟩)) ((nm, n) :: l) :=
  ⟨w.heap.size, .pointer a, rfl, heap_alloc_new w _, h.below ((Below.refl _ _).alloc (Nat.le_refl _) _)⟩

end Go.Proofs.YthpkcageimhgaaaDoor
