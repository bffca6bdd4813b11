/- slices.BinarySearch at lists of numbers, by the library's own contract: laid for this program. A map of digests by groups, in memory. Package tree: isSize, isDigest, a group's lacks and parts, newWalk. Package tree: digestOf, elements. Trees: which groups are hidden, and what their root is worked out of. Plain. Trees: what Check is to answer, of the groups that are found. Plain. -/
import Derived.Shelf.Slices.SearchI
import Derived.Test.YtpgnabmkfkcogaaGreatDoorProg
import Derived.Test.YtpgnabmkfkcogaaGreatDoorSpgs
import Derived.Maps.OwnOps
import Derived.Maps.OwnSet
import Derived.DeepKeys4
import Derived.Laws.AppendOwn
import Derived.WalkArith
import Derived.Test.YtpgnabmkfkcogaaGreatDoorRefs
import Derived.Deep.RegionHeld3
import Derived.Test.YtpgnabmkfkcogaaGreatDoorTres
namespace Go.Proofs
open Go.Shelf

def Tryz.laysNm225_ren : Go.Shelf.Ren := ⟨fun | 25 => 225 | 31 => 242 | 32 => 260 | 37 => 269 | n => n, fun | 22 => 23 | 3 => 3 | 4 => 4 | 40 => 179 | 0 => 0 | n => n, fun | n => n⟩
theorem Tryz.laysNm225 : Go.Proofs.Lays2.n25 Tryz.prog Tryz.laysNm225_ren := {
  mixed := by kernel_rfl
  f25 := Tryz.func225.trans (congrArg some (by kernel_rfl))
  f31 := Tryz.func242.trans (congrArg some (by kernel_rfl))
  f32 := Tryz.func260.trans (congrArg some (by kernel_rfl))
  f37 := Tryz.func269.trans (congrArg some (by kernel_rfl))
  t0 := Tryz.underlying0
  a0 := Tryz.isAgg0
  z0 := Tryz.sizeOf0
  v0 := Tryz.zeroValue0
  t3 := Tryz.underlying3
  a3 := Tryz.isAgg3
  z3 := Tryz.sizeOf3
  v3 := Tryz.zeroValue3
  t4 := Tryz.underlying4
  a4 := Tryz.isAgg4
  z4 := Tryz.sizeOf4
  v4 := Tryz.zeroValue4
  t22 := Tryz.underlying23
  a22 := Tryz.isAgg23
  z22 := Tryz.sizeOf23
  v22 := Tryz.zeroValue23
  t40 := Tryz.underlying179
  a40 := Tryz.isAgg179
  z40 := Tryz.sizeOf179
  v40 := Tryz.zeroValue179 }

theorem Tryz.search_any (b off n c : Nat) (zs : List Int) (x : Int) (w : World) (hz : n ≤ zs.length) (hbig : n < 4611686018427387904) (hc : ∀ j, j < zs.length → w.cell? ⟨b, off + j, none⟩ = some (.int .i64 (zs.getD j 0))) (hs : (zs.take n).Pairwise (· ≤ ·)) :
    Calls Tryz.prog 225 #[.slice (some ⟨b, off, none⟩) n c, .int .i64 x] w fun e w' => e = .returned (.tuple #[.int .i64 ((zs.take n).countP (· < x) : Nat), .bool ((zs.take n).contains x)]) ∧ ∃ q, w' = w.drewN q :=
  Any.slices_BinarySearch_int Tryz.laysNm225 b off n c zs x w hz hbig hc hs
end Go.Proofs

namespace Go.Proofs.YtpgnabmkfkcogaaGreatDoor
open Go.RowKit

/-- a group, as a value -/
def gk (a b : Nat) : Value := .agg #[.int .i64 (a : Int), .int .i64 (b : Int)]
theorem gk_inj {a b c d : Nat} (h : gk a b = gk c d) : a = c ∧ b = d := by
  unfold gk at h
  simp only [Value.agg.injEq, Array.mk.injEq, List.cons.injEq, Value.int.injEq] at h
  omega

theorem laidOut : laidOutB Tryz.prog = true := by kernel_rfl
theorem grp_law : WideMaps.KeyLaw Tryz.prog 224 := deep_law_laid laidOut (m := 3) (by omega) (of_decide_eq_true (by kernel_rfl)) (by kernel_rfl) (by rw [Tryz.underlying224])
theorem wf_small {x : Int} (h1 : -9223372036854775808 ≤ x) (h2 : x ≤ 9223372036854775807) : (Lit.int .i64 x).wf = true := WalkArith.wf_i64 (by omega)
theorem keyLits_int (d : Nat) {x : Int} (h1 : -9223372036854775808 ≤ x) (h2 : x ≤ 9223372036854775807) : Tryz.prog.keyLits (d + 1) 3 [.int .i64 x] = some [.int .i64 x] := by
  simp [Program.keyLits, Tryz.underlying3, wf_small h1 h2]
theorem keyOf_gk {a b : Nat} (ha : a ≤ 1000000000) (hb : b ≤ 1000000000) : ∃ l, keyOf Tryz.prog 224 (gk a b) = some l := by
  obtain ⟨n, hn⟩ : ∃ n, Tryz.prog.types.size = n + 1 := ⟨Tryz.prog.types.size - 1, by have : 0 < Tryz.prog.types.size := of_decide_eq_true (by kernel_rfl); omega⟩
  have e1 := keyLits_int n (x := (a : Int)) (by omega) (by omega)
  have e2 := keyLits_int n (x := (b : Int)) (by omega) (by omega)
  have k1 : Tryz.prog.keyType 224 = true := by kernel_rfl
  have k2 : Tryz.prog.cellsOf 224 = 2 := by kernel_rfl
  have k3 : Tryz.prog.cellsOf 3 = 1 := by kernel_rfl
  refine ⟨.string (keyBytes [.int .i64 (a : Int), .int .i64 (b : Int)]), ?_⟩
  simp only [keyOf, Tryz.underlying224, k1, hn]
  rw [show (gk a b).formed Tryz.prog 224 = true by simp [gk, Value.formed, Tryz.underlying224, k2]]
  have e3 : Tryz.prog.keyLits (n + 1 + 1) 224 [.int .i64 (a : Int), .int .i64 (b : Int)] = some [.int .i64 (a : Int), .int .i64 (b : Int)] := by
    unfold Program.keyLits
    simp only [Tryz.underlying224]
    simp [k2, k3, e1, e2]
  rw [show (gk a b).cells.toList = [.int .i64 (a : Int), .int .i64 (b : Int)] from rfl, e3]
  rfl

/-- what a map of digests holds: the first of a list at a key is its own -/
def MapIs (w : World) (B : Nat) (M : Nat → Nat → Option (List Int)) : Prop :=
  ∃ es clock, w.heap[B]? = some (.map es clock) ∧ (∀ e ∈ es.toList, ∃ a b d, e.key = gk a b ∧ a ≤ 1000000000 ∧ b ≤ 1000000000 ∧ M a b = some d ∧ e.val = .agg (an 4 (zat d))) ∧ (∀ a b d, M a b = some d → ∃ e ∈ es.toList, e.key = gk a b) ∧ es.toList.Pairwise (fun x y => x.key ≠ y.key)

def upd (M : Nat → Nat → Option (List Int)) (a b : Nat) (d : List Int) : Nat → Nat → Option (List Int) := fun x y => if x = a ∧ y = b then some d else M x y
theorem upd_same (M : Nat → Nat → Option (List Int)) (a b : Nat) (d : List Int) : upd M a b d a b = some d := by simp [upd]
theorem upd_other {M : Nat → Nat → Option (List Int)} {a b x y : Nat} {d : List Int} (h : ¬ (x = a ∧ y = b)) : upd M a b d x y = M x y := by simp [upd, h]

theorem MapIs.lt {w : World} {B : Nat} {M : Nat → Nat → Option (List Int)} (h : MapIs w B M) : B < w.heap.size := by
  obtain ⟨es, clock, hb, _⟩ := h
  exact (Array.getElem?_eq_some_iff.1 hb).1
theorem MapIs.block {w w' : World} {B : Nat} {M : Nat → Nat → Option (List Int)} (h : MapIs w B M) (e : w'.heap[B]? = w.heap[B]?) : MapIs w' B M := by
  obtain ⟨es, clock, hb, r⟩ := h
  exact ⟨es, clock, e.trans hb, r⟩
theorem MapIs.below {w w' : World} {B n0 : Nat} {M : Nat → Nat → Option (List Int)} (h : MapIs w B M) (e : Below n0 w w') (hb : B < n0) : MapIs w' B M := h.block (e.block B hb)
theorem MapIs.new (w : World) : MapIs (w.alloc (.map #[] 0)) w.heap.size (fun _ _ => none) := ⟨#[], 0, (MapKept.heap_alloc w _).1, by simp, by simp, by simp⟩

/-- what a look-up finds -/
theorem MapIs.find {w : World} {M : Nat → Nat → Option (List Int)} {a b : Nat} (ha : a ≤ 1000000000) (hb : b ≤ 1000000000) {es : Array MapEntry}
    (h1 : ∀ e ∈ es.toList, ∃ a b d, e.key = gk a b ∧ a ≤ 1000000000 ∧ b ≤ 1000000000 ∧ M a b = some d ∧ e.val = .agg (an 4 (zat d))) (h2 : ∀ a b d, M a b = some d → ∃ e ∈ es.toList, e.key = gk a b) :
    (M a b = none ∧ (Instr.findKey 224 (gk a b) es.toList).run Tryz.prog w = .ok none w ∧ ∀ e ∈ es.toList, e.key ≠ gk a b) ∨ ∃ d j e, M a b = some d ∧ (Instr.findKey 224 (gk a b) es.toList).run Tryz.prog w = .ok (some (j, .agg (an 4 (zat d)))) w ∧ es.toList[j]? = some e ∧ e.key = gk a b := by
  obtain ⟨l, hl⟩ := keyOf_gk ha hb
  rcases grp_law.find w hl es.toList (fun e he => by obtain ⟨x, y, d, hk, hx, hy, _⟩ := h1 e he; rw [hk]; exact keyOf_gk hx hy) with ⟨r1, r2⟩ | ⟨j, e, r1, r2, r3⟩
  · left
    refine ⟨?_, r1, r2⟩
    cases hM : M a b with
    | none => rfl
    | some d =>
      obtain ⟨e, he, hk⟩ := h2 a b d hM
      exact absurd hk (r2 e he)
  · right
    obtain ⟨x, y, d, hk, hx, hy, hM, hv⟩ := h1 e (List.mem_of_getElem? r2)
    obtain ⟨rfl, rfl⟩ := gk_inj (hk.symm.trans r3)
    exact ⟨d, j, e, hM, by rw [r1, hv], r2, r3⟩

/-- what comes of a look-up -/
def gotv (M : Nat → Nat → Option (List Int)) (a b : Nat) : Nat → Int := match M a b with | some d => zat d | none => fun _ => 0
theorem MapIs.lookup {w : World} {B : Nat} {M : Nat → Nat → Option (List Int)} (h : MapIs w B M) {a b : Nat} (ha : a ≤ 1000000000) (hb : b ≤ 1000000000) (c : Bool) :
    (Instr.lookup 277 (.map (some B)) (gk a b) c).run Tryz.prog w = .ok (if c then .tuple #[.agg (an 4 (gotv M a b)), .bool (M a b).isSome] else .agg (an 4 (gotv M a b))) w := by
  obtain ⟨es, clock, hB, h1, h2, _⟩ := h
  obtain ⟨l, hl⟩ := keyOf_gk ha hb
  have hck := grp_law.check w es.isEmpty hl
  unfold gotv
  rcases MapIs.find (w := w) ha hb h1 h2 with ⟨hM, hf, _⟩ | ⟨d, j, e, hM, hf, _, _⟩
  · simp [Instr.lookup, run_underlying Tryz.underlying277, Result.andThen, MapKept.run_getObj_map hB, hck, hf, hM]
    rfl
  · simp [Instr.lookup, run_underlying Tryz.underlying277, Result.andThen, MapKept.run_getObj_map hB, hck, hf, hM]

theorem MapIs.update {w : World} {B : Nat} {M : Nat → Nat → Option (List Int)} (h : MapIs w B M) {a b : Nat} (ha : a ≤ 1000000000) (hb : b ≤ 1000000000) (d : List Int) :
    ∃ w', (Instr.mapUpdate 277 (.map (some B)) (gk a b) (.agg (an 4 (zat d)))).run Tryz.prog w = .ok () w' ∧ MapIs w' B (upd M a b d) ∧ w.grownBy w' (some B) := by
  obtain ⟨es, clock, hB, h1, h2, h3⟩ := h
  obtain ⟨l, hl⟩ := keyOf_gk ha hb
  have hck := grp_law.check w false hl
  have hst := grp_law.stays w hl
  have hlt : B < w.heap.size := (Array.getElem?_eq_some_iff.1 hB).1
  have hgr : ∀ o : Obj, w.grownBy { w with heap := w.heap.setIfInBounds B o } (some B) := fun o => ⟨rfl, rfl, rfl, by simp, fun k _ hk => (MapKept.heap_set hB).2 k (fun e => hk (by rw [e]))⟩
  rcases MapIs.find (w := w) ha hb h1 h2 with ⟨hM, hf, hne⟩ | ⟨d0, j, e, hM, hf, hj, hk⟩
  · refine ⟨_, by simp [Instr.mapUpdate, run_underlying Tryz.underlying277, Result.andThen, MapKept.run_getObj_map hB, hck, hf, MapKept.run_setObj_map _ hB]; rfl, ⟨_, _, (MapKept.heap_set hB).1, ?_, ?_, ?_⟩, hgr _⟩
    · intro e he
      simp only [Array.toList_push, List.mem_append, List.mem_singleton] at he
      rcases he with he | rfl
      · obtain ⟨x, y, d', hk, hx, hy, hM', hv⟩ := h1 e he
        refine ⟨x, y, d', hk, hx, hy, ?_, hv⟩
        rw [upd_other (fun hc => by rw [hc.1, hc.2, hM] at hM'; cases hM')]
        exact hM'
      · exact ⟨a, b, d, rfl, ha, hb, upd_same _ _ _ _, rfl⟩
    · intro x y d' hM'
      simp only [Array.toList_push, List.mem_append, List.mem_singleton]
      by_cases hc : x = a ∧ y = b
      · exact ⟨_, .inr rfl, by rw [hc.1, hc.2]⟩
      · rw [upd_other hc] at hM'
        obtain ⟨e, he, hk⟩ := h2 x y d' hM'
        exact ⟨e, .inl he, hk⟩
    · simp only [Array.toList_push]
      rw [List.pairwise_append]
      exact ⟨h3, by simp, fun x hx y hy => by rw [List.mem_singleton.1 hy]; exact hne x hx⟩
  · have hes : es[j]? = some e := by simpa using hj
    have hjl : j < es.size := (Array.getElem?_eq_some_iff.1 hes).1
    have hm : (es.modify j fun e => { e with key := gk a b, val := .agg (an 4 (zat d)) }).toList = es.toList.set j { e with key := gk a b, val := .agg (an 4 (zat d)) } := by
      apply List.ext_getElem?
      intro i
      rw [← Array.getElem?_toList.symm]
      rw [List.getElem?_set]
      simp only [Array.getElem?_modify]
      by_cases hi : j = i
      · subst hi
        rw [if_pos rfl, if_pos rfl, hes]
        simp [hjl]
      · rw [if_neg hi, if_neg hi]
        simp
    refine ⟨_, by simp [Instr.mapUpdate, run_underlying Tryz.underlying277, Result.andThen, MapKept.run_getObj_map hB, hck, hf, hes, hk, hst, MapKept.run_setObj_map _ hB]; rfl, ⟨_, _, (MapKept.heap_set hB).1, ?_, ?_, ?_⟩, hgr _⟩
    · intro e' he'
      rw [hm] at he'
      obtain ⟨i, hi⟩ := List.getElem?_of_mem he'
      rw [List.getElem?_set] at hi
      by_cases hij : j = i
      · rw [if_pos hij] at hi
        split at hi
        · cases hi
          exact ⟨a, b, d, rfl, ha, hb, upd_same _ _ _ _, rfl⟩
        · cases hi
      · rw [if_neg hij] at hi
        obtain ⟨x, y, d', hk', hx, hy, hM', hv⟩ := h1 e' (List.mem_of_getElem? hi)
        refine ⟨x, y, d', hk', hx, hy, ?_, hv⟩
        rw [upd_other]
        · exact hM'
        · rintro ⟨rfl, rfl⟩
          have := List.pairwise_iff_getElem.1 h3
          obtain ⟨hjl', hje⟩ := List.getElem?_eq_some_iff.1 hj
          obtain ⟨hil', hie⟩ := List.getElem?_eq_some_iff.1 hi
          rcases Nat.lt_or_gt_of_ne hij with hlt' | hlt'
          · exact this j i hjl' hil' hlt' (by rw [hje, hie, hk, hk'])
          · exact this i j hil' hjl' hlt' (by rw [hje, hie, hk, hk'])
    · intro x y d' hM'
      rw [hm]
      have hjl' : j < es.toList.length := (List.getElem?_eq_some_iff.1 hj).1
      by_cases hc : x = a ∧ y = b
      · exact ⟨_, List.mem_iff_getElem?.2 ⟨j, by rw [List.getElem?_set, if_pos rfl, if_pos hjl']⟩, by rw [hc.1, hc.2]⟩
      · rw [upd_other hc] at hM'
        obtain ⟨e', he', hk'⟩ := h2 x y d' hM'
        obtain ⟨i, hi⟩ := List.getElem?_of_mem he'
        refine ⟨e', List.mem_iff_getElem?.2 ⟨i, ?_⟩, hk'⟩
        rw [List.getElem?_set, if_neg]
        · exact hi
        · rintro rfl
          rw [hi] at hj
          cases hj
          exact hc (gk_inj (hk'.symm.trans hk))
    · rw [hm]
      rw [List.pairwise_iff_getElem]
      intro i i' hi hi' hlt'
      have := List.pairwise_iff_getElem.1 h3
      obtain ⟨hjl', hje⟩ := List.getElem?_eq_some_iff.1 hj
      rw [List.length_set] at hi hi'
      have t := this i i' hi hi' hlt'
      rw [List.getElem_set, List.getElem_set]
      by_cases e1 : j = i
      · subst e1
        rw [if_pos rfl, if_neg (by omega)]
        rw [hje, hk] at t
        exact t
      · rw [if_neg e1]
        by_cases e2 : j = i'
        · subst e2
          rw [if_pos rfl]
          rw [hje, hk] at t
          exact t
        · rw [if_neg e2]
          exact t

end Go.Proofs.YtpgnabmkfkcogaaGreatDoor

namespace Go.Proofs.YtpgnabmkfkcogaaGreatDoor
open Go.RowKit

/-- two cells -/
def duo (a b : Value) : Nat → Value
  | 0 => a
  | _ => b
theorem duo_new (w : World) (t : TypeId) (a b : Value) : (w.alloc (.cells #[a, b] t)).rowIs w.heap.size t 2 (duo a b) :=
  ⟨#[a, b], heap_alloc_new w _, rfl, fun i hi => by
    have : i = 0 ∨ i = 1 := by omega
    rcases this with rfl | rfl <;> rfl⟩
theorem duo_arr {W : World} {g : Nat} {t : TypeId} {a b : Value} (h : W.rowIs g t 2 (duo a b)) : W.heap[g]? = some (.cells #[a, b] t (0, 0)) := by
  obtain ⟨cs, h1, h2, h4⟩ := h
  rw [h1]
  have e : cs = #[a, b] := by
    apply Array.ext
    · simpa using h2
    · intro i hi hi2
      have h0 : i = 0 ∨ i = 1 := by simp at hi2; omega
      have h5 := h4 i (by omega)
      rw [Array.getElem?_eq_getElem hi] at h5
      have h6 := Option.some.inj h5
      rw [h6]
      rcases h0 with rfl | rfl <;> rfl
  rw [e]
theorem results_cc {P : Program} {fn : Func} {p r : Tmp} {ty : TypeId} (h : fn.results = #[.cell p ty, .cell r ty]) (tmps : Array Value) (w : World) (g g2 : Nat) (tt : TypeId) (cs cs2 : Array Value) (fr : Nat × Nat) (d : TypeDesc)
    (hp : tmps.getD p undef = .pointer (some ⟨g, 0, none⟩)) (hr : tmps.getD r undef = .pointer (some ⟨g2, 0, none⟩)) (hg : w.heap[g]? = some (.cells cs tt fr)) (hg2 : w.heap[g2]? = some (.cells cs2 tt fr))
    (hu : P.underlying ty = some d) (hd : (match d with | .struct _ | .array _ _ => true | _ => false) = true) (hi : (P.info? ty).map (·.size) = some cs.size) (hi2 : (P.info? ty).map (·.size) = some cs2.size) :
    (results fn tmps).run P w = .ok (.tuple #[.agg cs, .agg cs2]) w := by
  have hp' : tmps[p]?.getD undef = .pointer (some ⟨g, 0, none⟩) := by simpa using hp
  have hr' : tmps[r]?.getD undef = .pointer (some ⟨g2, 0, none⟩) := by simpa using hr
  simp [results, h, hp', hr', asAddr, run_loadVar_row w g tt ty cs fr d hg hu hd hi, run_loadVar_row w g2 tt ty cs2 fr d hg2 hu hd hi2]

theorem issize_any (x : Int) (w : World) : Calls Tryz.prog 176 #[.int .i64 x] w fun e w' => e = .returned (.bool (decide (1 ≤ x) && decide (x ≤ 65536))) ∧ w' = w := by
  by_cases h1 : 1 ≤ x
  · go_enter Tryz.func176, Tryz.ntmps176
    go_wp2
    go_ret
    exact ⟨by simp [h1], rfl⟩
  · go_enter Tryz.func176, Tryz.ntmps176
    go_wp2
    go_ret
    refine ⟨?_, rfl⟩
    rw [decide_eq_false (by omega : ¬ 1 ≤ x)]
    rfl

theorem lacks_any (a b : Nat) (x : Int) (w : World) : Calls Tryz.prog 178 #[gk a b, .int .i64 x] w fun e w' => e = .returned (.bool (decide (x < a) || decide ((b : Int) ≤ x))) ∧ Below w.heap.size w w' := by
  unfold gk
  by_cases h : x < (a : Int)
  · go_enter Tryz.func178, Tryz.ntmps178
    go_wp2
    go_ret
    exact ⟨by rw [decide_eq_true h]; rfl, (Below.refl _ _).alloc (Nat.le_refl _) _⟩
  · go_enter Tryz.func178, Tryz.ntmps178
    go_wp2
    go_ret
    exact ⟨by rw [decide_eq_false (by omega : ¬ x < (a : Int))]; rfl, (Below.refl _ _).alloc (Nat.le_refl _) _⟩

set_option maxRecDepth 100000 in
set_option maxHeartbeats 4000000 in
theorem parts_any (a b c : Nat) (hab : b = a + c) (hb : b ≤ 1000000) (w : World) : Calls Tryz.prog 224 #[gk a b] w fun e w' => e = .returned (.tuple #[gk a (a + lft c), gk (a + lft c) b]) ∧ Below w.heap.size w w' := by
  unfold gk
  have hsub : (b : Int) - (a : Int) = (c : Int) := by omega
  have hcb : c ≤ 1000000 := by omega
  have hlc : lft c ≤ 1000000 := by have := (lft_spec c).2; unfold lft at *; have := lftA_spec c 1 c (Nat.le_refl _) (by omega); omega
  have hal : a ≤ 1000000 := by omega
  clear hab
  go_enter Tryz.func224, Tryz.ntmps224
  go_wp2_with fail
  go_loop [4] (fun mv => ∃ (k m : Nat), mv = .int .i64 m ∧ 1 ≤ m ∧ m ≤ c + 1 ∧ c ≤ m + k ∧ Hid (lftA k m c = lft c)) (fun mv => c + 1 - (intOf mv).toNat)
  case atStart => exact ⟨c, 1, rfl, Nat.le_refl _, by omega, by omega, rfl⟩
  case round =>
    obtain ⟨k, m, rfl, h1, h2, h6, HI⟩ := hrel
    by_cases h : m * 2 < c
    · have e1 : 2 * (m : Int) < (c : Int) := by omega
      have hk : 0 < k := by omega
      obtain ⟨k', rfl⟩ : ∃ k', k = k' + 1 := ⟨k - 1, by omega⟩
      have HI2 : Hid (lftA k' (m * 2) c = lft c) := by
        have := HI.out
        rw [lftA, if_pos h] at this
        exact this
      go_wp2_with fail
      go_round
      case rel => exact ⟨k', m * 2, by go_num, by omega, by omega, by omega, HI2⟩
      case measure => simp [intOf]; omega
    · have e1 : ¬ 2 * (m : Int) < (c : Int) := by omega
      have HE : Hid (lft c = m) := by
        unfold Hid
        rw [← HI.out]
        cases k with
        | zero => rfl
        | succ k => rw [lftA, if_neg h]
      rw [HE.out] at hlc
      have hwr : IntKind.i64.wrap ((a : Int) + (m : Int)) = (a : Int) + (m : Int) := by rw [IntKind.wrap_i64]; omega
      go_wp2_with fail
      go_region_held3 (fun w' => w'.cell? ⟨w.heap.size, 0, none⟩ = some (.int .i64 (a : Int)) ∧ w'.cell? ⟨w.heap.size, 1, none⟩ = some (.int .i64 (b : Int))) (go_keep) (fail)
      have HG1 : Hid (∀ o1 o3 : Obj, (((w.alloc o1).alloc (.cells #[.int .i64 (a : Int), .int .i64 ((a : Int) + (m : Int))] 224)).alloc o3).drew.heap[w.heap.size + 1]? = some (.cells #[.int .i64 (a : Int), .int .i64 ((a : Int) + (m : Int))] 224 (0, 0))) := fun o1 o3 => by
        have := duo_arr ((duo_new (w.alloc o1) 224 (.int .i64 (a : Int)) (.int .i64 ((a : Int) + (m : Int)))).alloc o3)
        rwa [show (w.alloc o1).heap.size = w.heap.size + 1 from by simp] at this
      have HG2 : Hid (∀ o1 o2 : Obj, (((w.alloc o1).alloc o2).alloc (.cells #[.int .i64 ((a : Int) + (m : Int)), .int .i64 (b : Int)] 224)).drew.heap[w.heap.size + 1 + 1]? = some (.cells #[.int .i64 ((a : Int) + (m : Int)), .int .i64 (b : Int)] 224 (0, 0))) := fun o1 o2 => by
        have := duo_arr (duo_new ((w.alloc o1).alloc o2) 224 (.int .i64 ((a : Int) + (m : Int))) (.int .i64 (b : Int)))
        rwa [show ((w.alloc o1).alloc o2).heap.size = w.heap.size + 1 + 1 from by simp] at this
      have HB : Hid (∀ o1 o2 o3 : Obj, Below w.heap.size w (((w.alloc o1).alloc o2).alloc o3).drew) := fun o1 o2 o3 => ((((Below.refl _ _).alloc (Nat.le_refl _) _).alloc (by simp) _).alloc (by simp; omega) _).drew
      have HM : Hid (((a + lft c : Nat) : Int) = (a : Int) + (m : Int)) := by unfold Hid; rw [HE.out]; omega
      go_wp2_with fail
      refine bodyPost_ret (results_cc rfl _ _ (w.heap.size + 1) (w.heap.size + 1 + 1) 224 _ _ (0, 0) _ rfl rfl (HG1.out _ _) (HG2.out _ _) Tryz.underlying224 rfl (by kernel_rfl) (by kernel_rfl)) rfl ?_
      rw [HM.out]
      exact ⟨rfl, HB.out _ _ _⟩

/-- a walk, in memory -/
def WlkAt (w : World) (g B s : Nat) : Prop := w.heap[g]? = some (.cells #[.pointer (some ⟨s, 0, none⟩), .map (some B)] 279 (0, 0))
theorem WlkAt.block {w w' : World} {g B s : Nat} (h : WlkAt w g B s) (e : w'.heap[g]? = w.heap[g]?) : WlkAt w' g B s := e.trans h
theorem WlkAt.lt {w : World} {g B s : Nat} (h : WlkAt w g B s) : g < w.heap.size := (Array.getElem?_eq_some_iff.1 h).1
theorem WlkAt.c0 {w : World} {g B s : Nat} (h : WlkAt w g B s) : w.cell? ⟨g, 0, none⟩ = some (.pointer (some ⟨s, 0, none⟩)) := by
  unfold WlkAt at h
  simp [World.cell?, h]
theorem WlkAt.c1 {w : World} {g B s : Nat} (h : WlkAt w g B s) : w.cell? ⟨g, 1, none⟩ = some (.map (some B)) := by
  unfold WlkAt at h
  simp [World.cell?, h]

theorem newwalk_any (s : Nat) (w : World) : Calls Tryz.prog 182 #[.pointer (some ⟨s, 0, none⟩)] w fun e w' => e = .returned (.pointer (some ⟨w.heap.size + 1, 0, none⟩)) ∧ WlkAt w' (w.heap.size + 1) w.heap.size s ∧ MapIs w' w.heap.size (fun _ _ => none) ∧ w'.heap.size = w.heap.size + 2 ∧ Below w.heap.size w w' := by
  have hmm := @run_makeMap Tryz.prog
  go_enter Tryz.func182, Tryz.ntmps182
  go_wp2
  go_ret
  refine ⟨rfl, ?_, ?_, by simp, ((Below.refl _ _).alloc (Nat.le_refl _) _).alloc (by simp) _⟩
  · have := heap_alloc_new (w.alloc (.map #[] 0)) (.cells #[.pointer (some ⟨s, 0, none⟩), .map (some w.heap.size)] 279)
    rwa [show (w.alloc (.map #[] 0)).heap.size = w.heap.size + 1 from by simp] at this
  · refine (MapIs.new w).block ?_
    exact (MapKept.heap_alloc _ _).2 _ (by simp)

end Go.Proofs.YtpgnabmkfkcogaaGreatDoor

namespace Go.Proofs.YtpgnabmkfkcogaaGreatDoor
open Go.RowKit

set_option maxRecDepth 100000 in
set_option maxHeartbeats 1000000 in
theorem digestof_any (q b cap : Nat) (a : Option Addr) (l : List Int) (w : World) (h3 : 3 ≤ q) (hm : q ≤ 2147483647) (hp : w.cell? ⟨b, 0, none⟩ = some (.int .i64 q)) (hl : l.length = 4) (hfit : Fits l) (hrow : RowB w.heap.size w a l) :
    Calls Tryz.prog 235 #[.pointer (some ⟨b, 0, none⟩), .slice a 4 cap] w fun e w' => e = .returned (.agg (an 4 (fun j => zat l j % (q : Int)))) ∧ Below w.heap.size w w' := by
  have hbl : b < w.heap.size := heap_lt hp
  have HP := hid hp
  have HF := hid hfit
  have HR := hid hrow
  have HLN := hid hl
  clear hp hfit hrow hl
  go_enter Tryz.func235, Tryz.ntmps235
  go_wp2_with fail
  go_loopw [9] (fun iv wr => ∃ k : Nat, k ≤ 4 ∧ iv = .int .i64 k ∧ Hid (ArrI wr w.heap.size 236 4 (fll (fun j => zat l j % (q : Int)) (fun _ => 0) k) ∧ Below w.heap.size w wr))
    (fun iv _ => 4 - (intOf iv).toNat)
  case atStart =>
    refine ⟨0, by omega, rfl, ?_, (Below.refl _ _).alloc (Nat.le_refl _) _⟩
    rw [fll_zero]
    exact ArrI.new w 4 236 (fun _ => 0)
  case round =>
    obtain ⟨k, hk, rfl, hC⟩ := hrel
    obtain ⟨hA, hbel⟩ := hC.out
    by_cases hlt : k < 4
    · have hlt2 : (k : Int) < 4 := by omega
      have HE : Hid (ArrI (wr.setCell ⟨w.heap.size, k, none⟩ (.int .i64 (zat l k % (q : Int)))) w.heap.size 236 4 (fll (fun j => zat l j % (q : Int)) (fun _ => 0) (k + 1)) ∧ Below w.heap.size w (wr.setCell ⟨w.heap.size, k, none⟩ (.int .i64 (zat l k % (q : Int))))) :=
        ⟨hA.next, hbel.setCell (p := ⟨w.heap.size, k, none⟩) (by simp) _⟩
      have c1 := hA.cell hlt
      have y1 := hA.frozen k
      have hks : IntKind.i64.wrap ((k : Int) + 1) = (k : Int) + 1 := by rw [IntKind.wrap_i64]; omega
      obtain ⟨bl, ol, rfl, hbl', hcl⟩ := HR.out k (by rw [HLN.out]; exact hlt)
      have hcl2 := (hbel.cell (p := ⟨bl, ol + k, none⟩) hbl').trans hcl
      obtain ⟨hx1, hx2⟩ := HF.out k (by rw [HLN.out]; exact hlt)
      have HMx := hid (of_any q b (zat l k) wr h3 hm ((hbel.cell (p := ⟨b, 0, none⟩) hbl).trans HP.out) hx1 hx2)
      clear hA hbel hcl hbl' hC
      generalize zat l k % (q : Int) = x at *
      generalize zat l k = y at *
      go_wp2_with fail
      refine HMx.out.mono ?_
      rintro e w1 ⟨rfl, rfl⟩
      go_wp2_with fail
      go_roundw
      case rel => exact ⟨k + 1, by omega, by go_num, HE⟩
      case measure => simp [intOf]; omega
    · obtain rfl : k = 4 := by omega
      have HE : Hid (ArrI wr w.heap.size 236 4 (fun j => zat l j % (q : Int)) ∧ Below w.heap.size w wr) := ⟨hA.congr (fun j hj => fll_all hj), hbel⟩
      clear hA hbel hC
      have HA8 := hid HE.out.1
      go_wp2_with (first
        | (refine wpList_load_an rfl 236 _ rfl _ rfl _ _ _ _ _ HA8.out Tryz.underlying236 (by kernel_rfl) ?_)
        | (refine wpList_store_an rfl 236 _ _ rfl _ _ _ _ rfl rfl _ HA8.out (by kernel_rfl) ?_))
      refine bodyPost_ret (results_an rfl _ _ w.heap.size 236 4 _ _ (fun j => zat l j % (q : Int)) rfl (HA8.out.setRow _) Tryz.underlying236 (by kernel_rfl)) rfl ?_
      exact ⟨rfl, below_setRow HE.out.2 (by omega) _⟩

set_option maxRecDepth 100000 in
set_option maxHeartbeats 1000000 in
theorem elements_any (q b cap : Nat) (a : Option Addr) (l : List Int) (w : World) (h3 : 3 ≤ q) (hm : q ≤ 2147483647) (hp : w.cell? ⟨b, 0, none⟩ = some (.int .i64 q)) (hlen : l.length ≤ 17592186044400) (hfit : Fits l) (hrow : RowB w.heap.size w a l) :
    Calls Tryz.prog 181 #[.pointer (some ⟨b, 0, none⟩), .slice a l.length cap] w fun e w' => e = .returned (.slice (some ⟨w.heap.size, 0, none⟩) l.length l.length) ∧ ArrI w' w.heap.size 3 l.length (fun j => zat l j % (q : Int)) ∧ Below w.heap.size w w' := by
  have hbl : b < w.heap.size := heap_lt hp
  have HP := hid hp
  have HF := hid hfit
  have HR := hid hrow
  clear hp hfit hrow
  obtain ⟨len, hL⟩ : ∃ len, len = l.length := ⟨_, rfl⟩
  rw [← hL] at hlen ⊢
  have HLL := hid hL
  clear hL
  have hmk2 := fun w => run_make_row' (P := Tryz.prog) 23 3 (.int .i64 0) 8 Tryz.underlying23 Tryz.infoInt rfl .i64 .i64 len (by omega) (by omega) w
  go_enter Tryz.func181, Tryz.ntmps181
  go_wp2_with fail
  go_loopw [13] (fun iv wr => ∃ k : Nat, k ≤ len ∧ iv = .int .i64 k ∧ Hid (ArrI wr w.heap.size 3 len (fll (fun j => zat l j % (q : Int)) (fun _ => 0) k) ∧ Below w.heap.size w wr))
    (fun iv _ => len - (intOf iv).toNat)
  case atStart =>
    refine ⟨0, by omega, rfl, ?_, (Below.refl _ _).alloc (Nat.le_refl _) _⟩
    rw [fll_zero]
    exact World.rowIs_made _ _ _ _
  case round =>
    obtain ⟨k, hk, rfl, hC⟩ := hrel
    obtain ⟨hA, hbel⟩ := hC.out
    by_cases hlt : k < len
    · have hlt2 : (k : Int) < (len : Int) := by omega
      have HE : Hid (ArrI (wr.setCell ⟨w.heap.size, k, none⟩ (.int .i64 (zat l k % (q : Int)))) w.heap.size 3 len (fll (fun j => zat l j % (q : Int)) (fun _ => 0) (k + 1)) ∧ Below w.heap.size w (wr.setCell ⟨w.heap.size, k, none⟩ (.int .i64 (zat l k % (q : Int))))) :=
        ⟨hA.next, hbel.setCell (p := ⟨w.heap.size, k, none⟩) (by simp) _⟩
      have c1 := hA.cell hlt
      have y1 := hA.frozen k
      have hks : IntKind.i64.wrap ((k : Int) + 1) = (k : Int) + 1 := by rw [IntKind.wrap_i64]; omega
      obtain ⟨bl, ol, rfl, hbl', hcl⟩ := HR.out k (by rw [← HLL.out]; exact hlt)
      have hcl2 := (hbel.cell (p := ⟨bl, ol + k, none⟩) hbl').trans hcl
      obtain ⟨hx1, hx2⟩ := HF.out k (by rw [← HLL.out]; exact hlt)
      have HMx := hid (of_any q b (zat l k) wr h3 hm ((hbel.cell (p := ⟨b, 0, none⟩) hbl).trans HP.out) hx1 hx2)
      clear hA hbel hcl hbl' hC
      generalize zat l k % (q : Int) = x at *
      generalize zat l k = y at *
      go_wp2_with fail
      refine HMx.out.mono ?_
      rintro e w1 ⟨rfl, rfl⟩
      go_wp2_with fail
      go_roundw
      case rel => exact ⟨k + 1, by omega, by go_num, HE⟩
      case measure => simp [intOf]; omega
    · obtain rfl : k = len := by omega
      have HE : Hid (ArrI wr w.heap.size 3 k (fun j => zat l j % (q : Int)) ∧ Below w.heap.size w wr) := ⟨hA.congr (fun j hj => fll_all hj), hbel⟩
      clear hA hbel hC
      go_wp2_with fail
      go_ret
      exact ⟨rfl, HE.out.1, HE.out.2⟩

end Go.Proofs.YtpgnabmkfkcogaaGreatDoor

namespace Go.Proofs.YtpgnabmkfkcogaaGreatDoor
open Go.RowKit

/-- the places of a list in a group -/
def seg (ps : List Int) (a b : Int) : List Int := ps.filter (fun x => decide (a ≤ x ∧ x < b))
theorem seg_asc {ps : List Int} (h : Asc ps) (a b : Int) : Asc (seg ps a b) := h.filter _
theorem seg_mem {ps : List Int} {a b x : Int} : x ∈ seg ps a b ↔ x ∈ ps ∧ a ≤ x ∧ x < b := by simp [seg]
theorem seg_nil {ps : List Int} {a b : Int} : (seg ps a b).length = 0 ↔ smb ps a b = false := by
  unfold seg smb
  rw [List.length_eq_zero_iff, List.filter_eq_nil_iff, List.any_eq_false]
theorem asc_count : ∀ (l : List Int) (a : Int) (c : Nat), Asc l → (∀ x ∈ l, a ≤ x ∧ x < a + (c : Int)) → l.length ≤ c
  | [], _, _, _, _ => Nat.zero_le _
  | x :: l, a, c, h, hb => by
    obtain ⟨h1, h2⟩ := List.pairwise_cons.1 h
    have hx := hb x (by simp)
    have := asc_count l (x + 1) (a + (c : Int) - (x + 1)).toNat h2 (fun y hy => ⟨h1 y hy, by have := (hb y (by simp [hy])).2; omega⟩)
    simp only [List.length_cons]
    omega
theorem seg_le {ps : List Int} (h : Asc ps) (a : Int) (c : Nat) : (seg ps a (a + (c : Int))).length ≤ c := asc_count _ a c (seg_asc h _ _) (fun _ hx => (seg_mem.1 hx).2)
/-- an ascending list is those below a number, then the others -/
theorem asc_cut : ∀ (l : List Int) (m : Int), Asc l → l = l.filter (fun x => decide (x < m)) ++ l.filter (fun x => decide (m ≤ x))
  | [], _, _ => rfl
  | x :: l, m, h => by
    obtain ⟨h1, h2⟩ := List.pairwise_cons.1 h
    by_cases hx : x < m
    · rw [List.filter_cons_of_pos (by simpa using hx), List.filter_cons_of_neg (by simpa using hx), List.cons_append, ← asc_cut l m h2]
    · have e1 : l.filter (fun x => decide (x < m)) = [] := List.filter_eq_nil_iff.2 (fun y hy => by have := h1 y hy; simp; omega)
      have e2 : l.filter (fun x => decide (m ≤ x)) = l := List.filter_eq_self.2 (fun y hy => by have := h1 y hy; simp; omega)
      rw [List.filter_cons_of_neg (by simpa using hx), List.filter_cons_of_pos (by simpa using hx), e1, e2]
      rfl
theorem seg_left (ps : List Int) {a m b : Int} (h : m ≤ b) : (seg ps a b).filter (fun x => decide (x < m)) = seg ps a m := by
  unfold seg
  rw [List.filter_filter]
  congr 1
  funext x
  rw [Bool.eq_iff_iff]
  simp
  omega
theorem seg_right (ps : List Int) {a m b : Int} (h : a ≤ m) : (seg ps a b).filter (fun x => decide (m ≤ x)) = seg ps m b := by
  unfold seg
  rw [List.filter_filter]
  congr 1
  funext x
  rw [Bool.eq_iff_iff]
  simp
  omega
theorem seg_split {ps : List Int} (h : Asc ps) {a m b : Int} (h1 : a ≤ m) (h2 : m ≤ b) : seg ps a b = seg ps a m ++ seg ps m b := by
  have := asc_cut (seg ps a b) m (seg_asc h a b)
  rwa [seg_left ps h2, seg_right ps h1] at this

/-- the groups that nodes stand for -/
def hd2 (ps : List Int) : Nat → Nat → Nat → List (Nat × Nat)
  | 0, _, _ => []
  | k + 1, a, c => if smb ps (a : Int) ((a : Int) + (c : Int)) = false then [(a, a + c)] else if c = 1 then [] else hd2 ps k a (lft c) ++ hd2 ps k (a + lft c) (c - lft c)
theorem hd2_none {ps : List Int} {k a c : Nat} (h : smb ps (a : Int) ((a : Int) + (c : Int)) = false) : hd2 ps (k + 1) a c = [(a, a + c)] := by rw [hd2, if_pos h]
theorem hd2_full {ps : List Int} (h : Asc ps) : ∀ (k a c : Nat), 1 ≤ c → c ≤ k → (seg ps (a : Int) ((a : Int) + (c : Int))).length = c → hd2 ps k a c = []
  | 0, _, _, h1, h2, _ => by omega
  | k + 1, a, c, h1, h2, hs => by
    rw [hd2, if_neg (fun e => by have := seg_nil.2 e; omega)]
    by_cases hc : c = 1
    · rw [if_pos hc]
    · rw [if_neg hc]
      obtain ⟨_, l2, l3⟩ := lft_spec c
      have l3' := l3 (by omega)
      have e := congrArg List.length (seg_split h (a := (a : Int)) (m := (a : Int) + (lft c : Int)) (b := (a : Int) + (c : Int)) (by omega) (by omega))
      rw [hs, List.length_append] at e
      have e1 := seg_le h (a : Int) (lft c)
      have e2 := seg_le h ((a : Int) + (lft c : Int)) (c - lft c)
      rw [show (a : Int) + (lft c : Int) + ((c - lft c : Nat) : Int) = (a : Int) + (c : Int) by omega] at e2
      rw [hd2_full h k a (lft c) (by omega) (by omega) (by omega)]
      rw [hd2_full h k (a + lft c) (c - lft c) (by omega) (by omega) (by rw [show ((a + lft c : Nat) : Int) = (a : Int) + (lft c : Int) by omega, show (a : Int) + (lft c : Int) + ((c - lft c : Nat) : Int) = (a : Int) + (c : Int) by omega]; omega)]
      rfl
theorem hd2_part {ps : List Int} {k a c : Nat} (h : smb ps (a : Int) ((a : Int) + (c : Int)) ≠ false) (hc : c ≠ 1) : hd2 ps (k + 1) a c = hd2 ps k a (lft c) ++ hd2 ps k (a + lft c) (c - lft c) := by rw [hd2, if_neg h, if_neg hc]
theorem hd2_len (ps : List Int) : ∀ (k a c : Nat), 1 ≤ c → c ≤ k → (hd2 ps k a c).length ≤ c
  | 0, _, _, h1, h2 => by omega
  | k + 1, a, c, h1, h2 => by
    rw [hd2]
    split
    · simpa using h1
    · split
      · simp
      · obtain ⟨_, l2, l3⟩ := lft_spec c
        have l3' := l3 (by omega)
        have e1 := hd2_len ps k a (lft c) (by omega) (by omega)
        have e2 := hd2_len ps k (a + lft c) (c - lft c) (by omega) (by omega)
        rw [List.length_append]
        omega
/-- they lie in order beside one another, and have no place -/
theorem hd2_mem (ps : List Int) : ∀ (k a c : Nat), 1 ≤ c → c ≤ k → ∀ g ∈ hd2 ps k a c, a ≤ g.1 ∧ g.1 < g.2 ∧ g.2 ≤ a + c ∧ smb ps (g.1 : Int) (g.2 : Int) = false
  | 0, _, _, h1, h2 => by omega
  | k + 1, a, c, h1, h2 => by
    intro g hg
    rw [hd2] at hg
    split at hg
    · rename_i h
      rw [List.mem_singleton.1 hg]
      refine ⟨Nat.le_refl _, by show a < a + c; omega, Nat.le_refl _, ?_⟩
      rw [← h]
      congr 1
    · split at hg
      · cases hg
      · obtain ⟨_, l2, l3⟩ := lft_spec c
        have l3' := l3 (by omega)
        rcases List.mem_append.1 hg with hg | hg
        · have := hd2_mem ps k a (lft c) (by omega) (by omega) g hg
          exact ⟨this.1, this.2.1, by omega, this.2.2.2⟩
        · have := hd2_mem ps k (a + lft c) (c - lft c) (by omega) (by omega) g hg
          exact ⟨by omega, this.2.1, by omega, this.2.2.2⟩
/-- what a root is worked out of -/
inductive Rd (q n : Nat) (M : Nat → Nat → Option (List Int)) : Nat → Nat → List Int → Prop
  | found {a b : Nat} {d : List Int} : M a b = some d → Rd q n M a b d
  | node {a b : Nat} {da db : List Int} : M a b = none → 2 ≤ b - a → Rd q n M a (a + lft (b - a)) da → Rd q n M (a + lft (b - a)) b db → Rd q n M a b (digl q n (1 :: (da ++ db)))
open Classical in
noncomputable def DV (q n : Nat) (M : Nat → Nat → Option (List Int)) (a b : Nat) : List Int := if h : ∃ d, Rd q n M a b d then h.choose else [0, 0, 0, 0]
/-- what a walk can work out: each group is found, or both its parts are -/
inductive Rdy (q n : Nat) (D : Nat → Nat → List Int) (M : Nat → Nat → Option (List Int)) : Nat → Nat → Prop
  | found {a b : Nat} : M a b ≠ none → Rdy q n D M a b
  | node {a b : Nat} : 2 ≤ b - a → D a b = digl q n (1 :: (D a (a + lft (b - a)) ++ D (a + lft (b - a)) b)) → Rdy q n D M a (a + lft (b - a)) → Rdy q n D M (a + lft (b - a)) b → Rdy q n D M a b
/-- a digest: four elements -/
def Dgst (q : Nat) (d : List Int) : Prop := d.length = 4 ∧ ∀ j, j < 4 → 0 ≤ zat d j ∧ zat d j < (q : Int)
theorem Dgst.fits {q : Nat} {d : List Int} (h : Dgst q d) (h4 : q ≤ 2147483647) : Fits d := fun j hj => by
  have := h.2 j (by rw [← h.1]; exact hj)
  omega
theorem Dgst.elr {q : Nat} {d : List Int} (h : d.length = 4) (hq : 0 < q) : Dgst q (elr q d) := by
  refine ⟨by unfold Go.Proofs.YtpgnabmkfkcogaaGreatDoor.elr; rw [ls_len]; exact h, fun j hj => ?_⟩
  unfold Go.Proofs.YtpgnabmkfkcogaaGreatDoor.elr
  rw [ls_at _ _ _ (by omega)]
  exact ⟨Int.emod_nonneg _ (by omega), Int.emod_lt_of_pos _ (by omega)⟩
theorem Dgst.digl {q : Nat} (h3 : 3 ≤ q) (n : Nat) (l : List Int) : Dgst q (digl q n l) := by
  rw [← elr_digl h3 n l]
  exact Dgst.elr (digl_len _ _ _) (by omega)
theorem Dgst.zero {q : Nat} (hq : 0 < q) : Dgst q [0, 0, 0, 0] := ⟨rfl, fun j hj => by
  have : zat [0, 0, 0, 0] j = 0 := by
    rcases j with _ | _ | _ | _ | j <;> first | rfl | omega
  omega⟩
/-- what is put into a map, one after the other -/
def mput (l : List ((Nat × Nat) × List Int)) : Nat → Nat → Option (List Int) := l.foldl (fun M p => upd M p.1.1 p.1.2 p.2) (fun _ _ => none)
end Go.Proofs.YtpgnabmkfkcogaaGreatDoor

namespace Go.Proofs.YtpgnabmkfkcogaaGreatDoor
open Go.RowKit

theorem getDe {α : Type} (a : List α) (d : α) {i : Nat} (h : i < a.length) : a.getD i d = a[i] := by simp [List.getD_eq_getElem?_getD, h]
/-- the nodes, each at its group; the rows, each at its place -/
def L1 (q : Nat) (hd : List (Nat × Nat)) (nodes : List (List Int)) (k : Nat) : List ((Nat × Nat) × List Int) := (List.range k).map (fun i => (hd.getD i (0, 0), elr q (rat nodes i)))
def L2 (q n : Nat) (ps : List Int) (rows : List (List Int)) (k : Nat) : List ((Nat × Nat) × List Int) := (List.range k).map (fun i => (((zat ps i).toNat, (zat ps i).toNat + 1), digl q n (0 :: rat rows i)))
def M0 (q n : Nat) (N : Nat) (ps : List Int) (rows nodes : List (List Int)) : Nat → Nat → Option (List Int) := mput (L1 q (hd2 ps N 0 N) nodes (hd2 ps N 0 N).length ++ L2 q n ps rows ps.length)
theorem hd_at {ps : List Int} {N i : Nat} (h1 : 1 ≤ N) (hi : i < (hd2 ps N 0 N).length) : ((hd2 ps N 0 N).getD i (0, 0)).1 < ((hd2 ps N 0 N).getD i (0, 0)).2 ∧ ((hd2 ps N 0 N).getD i (0, 0)).2 ≤ N ∧ smb ps (((hd2 ps N 0 N).getD i (0, 0)).1 : Int) (((hd2 ps N 0 N).getD i (0, 0)).2 : Int) = false := by
  have me := hd2_mem ps N 0 N h1 (Nat.le_refl _) _ (List.getElem_mem hi)
  rw [getDe _ _ hi]
  exact ⟨me.2.1, by omega, me.2.2.2⟩
/-- what isShown tells -/
def shwn (N : Nat) (ps : List Int) (rows nodes : List (List Int)) : Prop := rows.length = ps.length ∧ AscN (N : Int) ps ∧ (∀ i, i < nodes.length → (rat nodes i).length = 4) ∧ nodes.length = (hd2 ps N 0 N).length
end Go.Proofs.YtpgnabmkfkcogaaGreatDoor
