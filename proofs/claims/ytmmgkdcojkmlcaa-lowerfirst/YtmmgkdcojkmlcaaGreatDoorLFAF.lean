/- Package source: functions in a row. A map to numbers, in memory, whatever its keys. Package source: names that stand for something. Package source: what is wrong with a part's own name. A round of a range over a function that goes on, or is left by a panic: a law of our own. Package source: all parts of an expression, gone through. -/
import Derived.Test.YtmmgkdcojkmlcaaGreatDoorLFAE
import Derived.Maps.OwnOps
import Derived.Maps.OwnSet
import Derived.DeepKeys4
import Derived.WalkArith
import Derived.StringKeys
import Derived.RangeFuncNested
import Derived.RangeFuncBound
import Derived.RangeFuncCalls
import Derived.RangeFuncLeaves
import Derived.Shelf.Abstract
import Derived.WalkKit
import Derived.OwnWalkIn
import Derived.TacticsInMore
import Derived.LoopNIn
import Derived.LoopIn
namespace Go.Proofs.YtmmgkdcojkmlcaaGreatDoor
open Go.RowKit

def NmB (B : Nat → Prop) (w : World) (a : Option Addr) (ts : List (List UInt8 × Nat)) : Prop := ∀ (i : Nat) x, ts[i]? = some x → ∃ g, a = some ⟨g, 0, none⟩ ∧ B g ∧ w.cell? ⟨g, i * 2, none⟩ = some (.string (bs x.1)) ∧ w.cell? ⟨g, i * 2 + 1, none⟩ = some (.int .i64 (x.2 : Int))
theorem NmB.keep {B B' : Nat → Prop} {w w' : World} {a : Option Addr} {ts : List (List UInt8 × Nat)} (h : NmB B w a ts) (hk : ∀ b, B b → b < w.heap.size → B' b ∧ w'.heap[b]? = w.heap[b]?) : NmB B' w' a ts := fun i x hx => by
  obtain ⟨g, h1, h2, h3, h4⟩ := h i x hx
  obtain ⟨k1, k2⟩ := hk g h2 (World.block_lt_of_cell? _ _ h3)
  exact ⟨g, h1, k1, (World.cell?_of_block (a := ⟨g, i * 2, none⟩) k2).trans h3, (World.cell?_of_block (a := ⟨g, i * 2 + 1, none⟩) k2).trans h4⟩
/-- a function's four cells -/
def FnB (B : Nat → Prop) (w : World) (xs : List Value) (i : Nat) (g : FnT) : Prop := ∃ a c b, xs[i * 4]? = some (.string (bs g.name)) ∧ xs[i * 4 + 1]? = some (.int .i64 (g.at' : Int)) ∧ xs[i * 4 + 2]? = some (.slice a g.more.length c) ∧ xs[i * 4 + 3]? = some (.pointer (some ⟨b, 0, none⟩)) ∧ NmB B w a g.more ∧ PTB B w g.body (.pointer (some ⟨b, 0, none⟩))
theorem FnB.keep {B B' : Nat → Prop} {w w' : World} {xs : List Value} {i : Nat} {g : FnT} (h : FnB B w xs i g) (hk : ∀ b, B b → b < w.heap.size → B' b ∧ w'.heap[b]? = w.heap[b]?) : FnB B' w' xs i g := by
  obtain ⟨a, c, b, h1, h2, h3, h4, h5, h6⟩ := h
  exact ⟨a, c, b, h1, h2, h3, h4, h5.keep hk, PTB.keep hk _ _ h6⟩
def FnRow (base : Nat) (w : World) (v : Value) (fs : List FnT) : Prop := ∃ xs : List Value, w.ownsRow base 72 4 v fs.length xs ∧ ∀ (i : Nat) g, fs[i]? = some g → FnB (fun b => base ≤ b ∧ some b ≠ v.ownBlock) w xs i g
theorem FnRow.fr {R base : Nat} {w w' : World} {v : Value} {fs : List FnT} (h : FnRow base w v fs) (f : Fr R w w') (hb : R < base) : FnRow base w' v fs := by
  obtain ⟨xs, h1, h2⟩ := h
  exact ⟨xs, ownsRow_fr h1 f hb, fun i g hg => (h2 i g hg).keep (fun b hB hl => ⟨hB, f.2 b hl (by omega)⟩)⟩
theorem FnRow.form {base : Nat} {w : World} {v : Value} {fs : List FnT} (h : FnRow base w v fs) : ∃ a c, v = .slice a fs.length c := by
  obtain ⟨xs, h1, _⟩ := h
  rcases h1.2 with ⟨rfl, h0⟩ | ⟨g, cap, cur, rfl, _⟩
  · exact ⟨none, 0, by rw [h0]⟩
  · exact ⟨_, _, rfl⟩
theorem FnRow.push {base : Nat} {W w2 : World} {v v' : Value} {fs : List FnT} {g : FnT} {a : Option Addr} {c b : Nat} {xs : List Value} (h1 : W.ownsRow base 72 4 v fs.length xs) (h2 : ∀ (i : Nat) g, fs[i]? = some g → FnB (fun b => base ≤ b ∧ some b ≠ v.ownBlock) W xs i g)
    (hn : NmB (fun b => base ≤ b ∧ some b ≠ v.ownBlock) W a g.more) (hp : PTB (fun b => base ≤ b ∧ some b ≠ v.ownBlock) W g.body (.pointer (some ⟨b, 0, none⟩)))
    (ho : w2.ownsRow base 72 4 v' (fs.length + 1) (xs ++ [.string (bs g.name), .int .i64 (g.at' : Int), .slice a g.more.length c, .pointer (some ⟨b, 0, none⟩)])) (hg : W.grownBy w2 v.ownBlock) (hw : v'.ownBlock = v.ownBlock ∨ v'.ownBlock = some W.heap.size) : FnRow base w2 v' (fs ++ [g]) := by
  have hk : ∀ b, (base ≤ b ∧ some b ≠ v.ownBlock) → b < W.heap.size → (base ≤ b ∧ some b ≠ v'.ownBlock) ∧ w2.heap[b]? = W.heap[b]? := fun b hB hl => by
    refine ⟨⟨hB.1, ?_⟩, hg.block b hl hB.2⟩
    rcases hw with e | e
    · rw [e]; exact hB.2
    · rw [e]; intro e2; injection e2; omega
  have hlen : xs.length = fs.length * 4 := h1.1
  refine ⟨_, by rw [List.length_append]; exact ho, fun i x hx => ?_⟩
  rcases Nat.lt_or_ge i fs.length with hi | hi
  · rw [List.getElem?_append_left hi] at hx
    obtain ⟨a', c', b', k1, k2, k3, k4, k5, k6⟩ := (h2 i x hx).keep hk
    exact ⟨a', c', b', by rw [List.getElem?_append_left (by omega)]; exact k1, by rw [List.getElem?_append_left (by omega)]; exact k2, by rw [List.getElem?_append_left (by omega)]; exact k3, by rw [List.getElem?_append_left (by omega)]; exact k4, k5, k6⟩
  · have hi2 : i = fs.length := by
      have : i < (fs ++ [g]).length := (List.getElem?_eq_some_iff.1 hx).1
      simp at this
      omega
    subst hi2
    simp at hx
    subst hx
    have e : ∀ j, (xs ++ [.string (bs g.name), .int .i64 (g.at' : Int), .slice a g.more.length c, .pointer (some ⟨b, 0, none⟩)])[fs.length * 4 + j]? = [Value.string (bs g.name), .int .i64 (g.at' : Int), .slice a g.more.length c, .pointer (some ⟨b, 0, none⟩)][j]? := fun j => by
      rw [List.getElem?_append_right (by omega), show fs.length * 4 + j - xs.length = j by omega]
    exact ⟨a, c, b, e 0, e 1, e 2, e 3, hn.keep hk, PTB.keep hk _ _ hp⟩
/-- functions in memory -/
def FnR (lo : Nat) (w : World) (a : Option Addr) (fs : List FnT) : Prop := ∀ (i : Nat) g, fs[i]? = some g → ∃ k a2 c b, a = some ⟨k, 0, none⟩ ∧ lo ≤ k ∧ w.cell? ⟨k, i * 4, none⟩ = some (.string (bs g.name)) ∧ w.cell? ⟨k, i * 4 + 1, none⟩ = some (.int .i64 (g.at' : Int)) ∧ w.cell? ⟨k, i * 4 + 2, none⟩ = some (.slice a2 g.more.length c) ∧ w.cell? ⟨k, i * 4 + 3, none⟩ = some (.pointer (some ⟨b, 0, none⟩)) ∧ NmR lo w a2 g.more ∧ PT lo w g.body (.pointer (some ⟨b, 0, none⟩))
theorem FnRow.vl {base : Nat} {w : World} {v : Value} {fs : List FnT} (h : FnRow base w v fs) : ∃ a c, v = .slice a fs.length c ∧ (fs.length ≤ c ∧ c ≤ maxLen) ∧ FnR base w a fs := by
  obtain ⟨xs, h1, h2⟩ := h
  rcases h1.2 with ⟨rfl, h0⟩ | ⟨k, cap, cur, rfl, hbs, _, hcap, hcm, _⟩
  · obtain rfl : fs = [] := List.length_eq_zero_iff.1 h0
    exact ⟨none, 0, rfl, ⟨Nat.le_refl _, Nat.zero_le _⟩, fun i x hx => by simp at hx⟩
  · refine ⟨_, _, rfl, ⟨hcap, hcm⟩, fun i g hg => ?_⟩
    obtain ⟨a2, c, b, k1, k2, k3, k4, k5, k6⟩ := h2 i g hg
    have hadd : ∀ j, (⟨k, 0, none⟩ : Addr).add j = ⟨k, j, none⟩ := fun j => by unfold Addr.add; split <;> simp_all
    have e1 := h1.cells (g := k) rfl _ _ k1
    have e2 := h1.cells (g := k) rfl _ _ k2
    have e3 := h1.cells (g := k) rfl _ _ k3
    have e4 := h1.cells (g := k) rfl _ _ k4
    rw [hadd] at e1 e2 e3 e4
    exact ⟨k, a2, c, b, rfl, hbs, e1, e2, e3, e4, NmB.keep k5 (fun b hB _ => ⟨hB.1, rfl⟩), PTB.keep (fun b hB _ => ⟨hB.1, rfl⟩) _ _ k6⟩
theorem cell_four_new (w : World) (x y z u : Value) (t : TypeId) : ∀ j v, [x, y, z, u][j]? = some v → (w.alloc (.cells #[x, y, z, u] t)).cell? ((⟨w.heap.size, 0, none⟩ : Addr).add j) = some v := by
  intro j v hj
  have hadd : (⟨w.heap.size, 0, none⟩ : Addr).add j = ⟨w.heap.size, j, none⟩ := by unfold Addr.add; split <;> simp_all
  rw [hadd]
  unfold World.cell?
  rw [heap_alloc_new]
  match j, hj with
  | 0, hj => simpa using hj
  | 1, hj => simpa using hj
  | 2, hj => simpa using hj
  | 3, hj => simpa using hj
  | n + 4, hj => simp at hj

end Go.Proofs.YtmmgkdcojkmlcaaGreatDoor

namespace Go.Proofs.YtmmgkdcojkmlcaaGreatDoor
open Go.RowKit Go.Maps

/-- keys of a map to numbers, as values -/
structure KI {κ : Type} (k t : TypeId) (enc : κ → Value) (ok : κ → Prop) : Prop where
  keyed : Keyed Tryz.prog k
  und : Tryz.prog.underlying t = some (.map k 3)
  has : ∀ x, ok x → ∃ l, keyOf Tryz.prog k (enc x) = some l
  inj : ∀ x y, enc x = enc y → x = y
/-- a map to numbers -/
def MapI {κ : Type} (enc : κ → Value) (ok : κ → Prop) (w : World) (B : Nat) (M : κ → Option Int) : Prop :=
  ∃ es clock, w.heap[B]? = some (.map es clock) ∧ (∀ e ∈ es.toList, ∃ x n, e.key = enc x ∧ ok x ∧ M x = some n ∧ e.val = .int .i64 n) ∧ (∀ x n, M x = some n → ∃ e ∈ es.toList, e.key = enc x) ∧ es.toList.Pairwise (fun x y => x.key ≠ y.key)
def updI {κ : Type} [DecidableEq κ] (M : κ → Option Int) (x : κ) (n : Int) : κ → Option Int := fun y => if y = x then some n else M y
section
variable {κ : Type} {k t : TypeId} {enc : κ → Value} {ok : κ → Prop} {w w' : World} {B : Nat} {M : κ → Option Int}
theorem MapI.lt (h : MapI enc ok w B M) : B < w.heap.size := by
  obtain ⟨es, clock, hb, _⟩ := h
  exact (Array.getElem?_eq_some_iff.1 hb).1
theorem MapI.block (h : MapI enc ok w B M) (e : w'.heap[B]? = w.heap[B]?) : MapI enc ok w' B M := by
  obtain ⟨es, clock, hb, r⟩ := h
  exact ⟨es, clock, e.trans hb, r⟩
theorem MapI.below (h : MapI enc ok w B M) (e : Below w.heap.size w w') : MapI enc ok w' B M := h.block (e.block B h.lt)
theorem MapI.new (w : World) : MapI enc ok (w.alloc (.map #[] 0)) w.heap.size (fun _ => none) := ⟨#[], 0, (MapKept.heap_alloc w _).1, by simp, by simp, by simp⟩
/-- what a look-up finds -/
theorem MapI.find (K : KI k t enc ok) {x : κ} (hx : ok x) {es : Array MapEntry}
    (h1 : ∀ e ∈ es.toList, ∃ x n, e.key = enc x ∧ ok x ∧ M x = some n ∧ e.val = .int .i64 n) (h2 : ∀ x n, M x = some n → ∃ e ∈ es.toList, e.key = enc x) :
    (M x = none ∧ (Instr.findKey k (enc x) es.toList).run Tryz.prog w = .ok none w ∧ ∀ e ∈ es.toList, e.key ≠ enc x) ∨ ∃ n j e, M x = some n ∧ (Instr.findKey k (enc x) es.toList).run Tryz.prog w = .ok (some (j, .int .i64 n)) w ∧ es.toList[j]? = some e ∧ e.key = enc x := by
  obtain ⟨l, hl⟩ := K.has x hx
  rcases K.keyed.find w hl es.toList (fun e he => by obtain ⟨y, n, hk, hy, _⟩ := h1 e he; rw [hk]; exact K.has y hy) with ⟨r1, r2⟩ | ⟨j, e, r1, r2, r3⟩
  · left
    refine ⟨?_, r1, r2⟩
    cases hM : M x with
    | none => rfl
    | some d =>
      obtain ⟨e, he, hk⟩ := h2 x d hM
      exact absurd hk (r2 e he)
  · right
    obtain ⟨y, n, hk, hy, hM, hv⟩ := h1 e (List.mem_of_getElem? r2)
    obtain rfl := K.inj _ _ (hk.symm.trans r3)
    exact ⟨n, j, e, hM, by rw [r1, hv], r2, r3⟩
theorem zero_iS (w : World) : (zeroValue 3).run Tryz.prog w = .ok (.int .i64 0) w := by kernel_rfl
theorem MapI.lookup (K : KI k t enc ok) (h : MapI enc ok w B M) {x : κ} (hx : ok x) (c : Bool) :
    (Instr.lookup t (.map (some B)) (enc x) c).run Tryz.prog w = .ok (if c then .tuple #[.int .i64 ((M x).getD 0), .bool (M x).isSome] else .int .i64 ((M x).getD 0)) w := by
  obtain ⟨es, clock, hB, h1, h2, _⟩ := h
  obtain ⟨l, hl⟩ := K.has x hx
  have hck := K.keyed.check w es.isEmpty hl
  have hz := zero_iS w
  rcases MapI.find (w := w) K hx h1 h2 with ⟨hM, hf, _⟩ | ⟨d, j, e, hM, hf, _, _⟩
  · cases c <;> simp [Instr.lookup, run_underlying K.und, Result.andThen, MapKept.run_getObj_map hB, hck, hf, hM, hz]
  · cases c <;> simp [Instr.lookup, run_underlying K.und, Result.andThen, MapKept.run_getObj_map hB, hck, hf, hM]
theorem MapI.update [DecidableEq κ] (K : KI k t enc ok) (h : MapI enc ok w B M) {x : κ} (hx : ok x) (n : Int) :
    ∃ w', (Instr.mapUpdate t (.map (some B)) (enc x) (.int .i64 n)).run Tryz.prog w = .ok () w' ∧ MapI enc ok w' B (updI M x n) ∧ w.grownBy w' (some B) := by
  obtain ⟨es, clock, hB, h1, h2, h3⟩ := h
  obtain ⟨l, hl⟩ := K.has x hx
  have hck := K.keyed.check w false hl
  have hst := K.keyed.stays w hl
  have hgr : ∀ o : Obj, w.grownBy { w with heap := w.heap.setIfInBounds B o } (some B) := fun o => ⟨rfl, rfl, rfl, by simp, fun k _ hk => (MapKept.heap_set hB).2 k (fun e => hk (by rw [e]))⟩
  rcases MapI.find (w := w) K hx h1 h2 with ⟨hM, hf, hne⟩ | ⟨d0, j, e, hM, hf, hj, hk⟩
  · refine ⟨_, by simp [Instr.mapUpdate, run_underlying K.und, Result.andThen, MapKept.run_getObj_map hB, hck, hf, MapKept.run_setObj_map _ hB]; rfl, ⟨_, _, (MapKept.heap_set hB).1, ?_, ?_, ?_⟩, hgr _⟩
    · intro e he
      simp only [Array.toList_push, List.mem_append, List.mem_singleton] at he
      rcases he with he | rfl
      · obtain ⟨y, d', hk, hy, hM', hv⟩ := h1 e he
        refine ⟨y, d', hk, hy, ?_, hv⟩
        unfold updI
        rw [if_neg (fun hc => by rw [hc, hM] at hM'; cases hM')]
        exact hM'
      · exact ⟨x, n, rfl, hx, by simp [updI], rfl⟩
    · intro y d' hM'
      simp only [Array.toList_push, List.mem_append, List.mem_singleton]
      by_cases hc : y = x
      · exact ⟨_, .inr rfl, by rw [hc]⟩
      · unfold updI at hM'
        rw [if_neg hc] at hM'
        obtain ⟨e, he, hk⟩ := h2 y d' hM'
        exact ⟨e, .inl he, hk⟩
    · simp only [Array.toList_push]
      rw [List.pairwise_append]
      exact ⟨h3, by simp, fun x hx y hy => by rw [List.mem_singleton.1 hy]; exact hne x hx⟩
  · have hes : es[j]? = some e := by simpa using hj
    have hjl : j < es.size := (Array.getElem?_eq_some_iff.1 hes).1
    have hm : (es.modify j fun e => { e with key := enc x, val := .int .i64 n }).toList = es.toList.set j { e with key := enc x, val := .int .i64 n } := by
      apply List.ext_getElem?
      intro i
      rw [← Array.getElem?_toList.symm]
      rw [List.getElem?_set]
      simp only [Array.getElem?_modify]
      by_cases hi : j = i
      · subst hi
        rw [if_pos rfl, if_pos rfl, hes]
        simp [hjl]
      · rw [if_neg hi, if_neg hi]
        simp
    refine ⟨_, by simp [Instr.mapUpdate, run_underlying K.und, Result.andThen, MapKept.run_getObj_map hB, hck, hf, hes, hk, hst, MapKept.run_setObj_map _ hB]; rfl, ⟨_, _, (MapKept.heap_set hB).1, ?_, ?_, ?_⟩, hgr _⟩
    · intro e' he'
      rw [hm] at he'
      obtain ⟨i, hi⟩ := List.getElem?_of_mem he'
      rw [List.getElem?_set] at hi
      by_cases hij : j = i
      · rw [if_pos hij] at hi
        split at hi
        · cases hi
          exact ⟨x, n, rfl, hx, by simp [updI], rfl⟩
        · cases hi
      · rw [if_neg hij] at hi
        obtain ⟨y, d', hk', hy, hM', hv⟩ := h1 e' (List.mem_of_getElem? hi)
        refine ⟨y, d', hk', hy, ?_, hv⟩
        unfold updI
        rw [if_neg]
        · exact hM'
        · rintro rfl
          have := List.pairwise_iff_getElem.1 h3
          obtain ⟨hjl', hje⟩ := List.getElem?_eq_some_iff.1 hj
          obtain ⟨hil', hie⟩ := List.getElem?_eq_some_iff.1 hi
          rcases Nat.lt_or_gt_of_ne hij with hlt' | hlt'
          · exact this j i hjl' hil' hlt' (by rw [hje, hie, hk, hk'])
          · exact this i j hil' hjl' hlt' (by rw [hje, hie, hk, hk'])
    · intro y d' hM'
      rw [hm]
      have hjl' : j < es.toList.length := (List.getElem?_eq_some_iff.1 hj).1
      by_cases hc : y = x
      · exact ⟨_, List.mem_iff_getElem?.2 ⟨j, by rw [List.getElem?_set, if_pos rfl, if_pos hjl']⟩, by rw [hc]⟩
      · unfold updI at hM'
        rw [if_neg hc] at hM'
        obtain ⟨e', he', hk'⟩ := h2 y d' hM'
        obtain ⟨i, hi⟩ := List.getElem?_of_mem he'
        refine ⟨e', List.mem_iff_getElem?.2 ⟨i, ?_⟩, hk'⟩
        rw [List.getElem?_set, if_neg]
        · exact hi
        · rintro rfl
          rw [hi] at hj
          cases hj
          exact hc (K.inj _ _ (hk'.symm.trans hk))
    · rw [hm]
      rw [List.pairwise_iff_getElem]
      intro i i' hi hi' hlt'
      have := List.pairwise_iff_getElem.1 h3
      obtain ⟨hjl', hje⟩ := List.getElem?_eq_some_iff.1 hj
      rw [List.length_set] at hi hi'
      have t := this i i' hi hi' hlt'
      rw [List.getElem_set, List.getElem_set]
      by_cases e1 : j = i
      · subst e1
        rw [if_pos rfl, if_neg (by omega)]
        rw [hje, hk] at t
        exact t
      · rw [if_neg e1]
        by_cases e2 : j = i'
        · subst e2
          rw [if_pos rfl]
          rw [hje, hk] at t
          exact t
        · rw [if_neg e2]
          exact t
theorem wpList_updateI [DecidableEq κ] {ops : Array Oper} {rest : List Oper} {o : Oper} {act : Act} {Q : Exit → Act → World → Prop} (K : KI k t enc ok) (w : World) (hg : o.guard = none) (m x v : Operand) (hop : o.op = Op.mapUpdate t m x v) (B : Nat) (M : κ → Option Int)
    (hm : act.eval m = .map (some B)) (hown : MapI enc ok w B M) (y : κ) (n : Int) (hx : act.eval x = enc y) (hv : act.eval v = .int .i64 n) (hy : ok y)
    (hK : ∀ w', MapI enc ok w' B (updI M y n) → w.grownBy w' (some B) → wpList Tryz.prog ops Q rest (act.put o.dst undef) w') : wpList Tryz.prog ops Q (o :: rest) act w := by
  refine wpList_plain hg fun K' hK' => ?_
  obtain ⟨w', hrun, r1, r2⟩ := hown.update K hy n
  unfold Oper.wp
  simp [execOp, hop, hm, hx, hv, hrun, Result.andThen]
  exact hK' _ _ (hK w' r1 r2)
end
/-! ## a function's name and how many names it has in brackets -/
def sgk (x : List UInt8 × Nat) : Value := .agg #[.string (bs x.1), .int .i64 (x.2 : Int)]
def sgo (x : List UInt8 × Nat) : Prop := x.1.length ≤ 4000 ∧ x.2 ≤ 4000
theorem sig_law : WideMaps.KeyLaw Tryz.prog 150 := deep_law_laid (by kernel_rfl) (m := 3) (by omega) (of_decide_eq_true (by kernel_rfl)) (by kernel_rfl) (by rw [Tryz.underlying150])
theorem keyLits_intS (d : Nat) {x : Int} (h1 : -9223372036854775808 ≤ x) (h2 : x ≤ 9223372036854775807) : Tryz.prog.keyLits (d + 1) 3 [.int .i64 x] = some [.int .i64 x] := by
  simp [Program.keyLits, Tryz.underlying3, WalkArith.wf_i64 ⟨h1, h2⟩]
theorem keyLits_strS (d : Nat) (s : ByteArray) (hs : s.size ≤ 4000) : Tryz.prog.keyLits (d + 1) 9 [.string s] = some [.string s.data.toList] := by
  have : s.size ≤ maxLen := by unfold maxLen; omega
  simp [Program.keyLits, Tryz.underlying9, this]
theorem sig_has (x : List UInt8 × Nat) (h : sgo x) : ∃ l, keyOf Tryz.prog 150 (sgk x) = some l := by
  obtain ⟨n, hn⟩ : ∃ n, Tryz.prog.types.size = n + 1 := ⟨Tryz.prog.types.size - 1, by have : 0 < Tryz.prog.types.size := of_decide_eq_true (by kernel_rfl); omega⟩
  have e1 := keyLits_strS n (bs x.1) (by rw [bs_size]; exact h.1)
  have e2 := keyLits_intS n (x := (x.2 : Int)) (by omega) (by have := h.2; omega)
  have k1 : Tryz.prog.keyType 150 = true := by kernel_rfl
  have k2 : Tryz.prog.cellsOf 150 = 2 := by kernel_rfl
  have k3 : Tryz.prog.cellsOf 3 = 1 := by kernel_rfl
  have k4 : Tryz.prog.cellsOf 9 = 1 := by kernel_rfl
  refine ⟨.string (keyBytes [.string (bs x.1).data.toList, .int .i64 (x.2 : Int)]), ?_⟩
  simp only [keyOf, Tryz.underlying150, k1, hn]
  rw [show (sgk x).formed Tryz.prog 150 = true by simp [sgk, Value.formed, Tryz.underlying150, k2]]
  have e3 : Tryz.prog.keyLits (n + 1 + 1) 150 [.string (bs x.1), .int .i64 (x.2 : Int)] = some [.string (bs x.1).data.toList, .int .i64 (x.2 : Int)] := by
    unfold Program.keyLits
    simp only [Tryz.underlying150]
    simp [k2, k3, k4, e1, e2]
  rw [show (sgk x).cells.toList = [.string (bs x.1), .int .i64 (x.2 : Int)] from rfl, e3]
  rfl
theorem sgk_inj (x y : List UInt8 × Nat) (h : sgk x = sgk y) : x = y := by
  unfold sgk at h
  simp only [Value.agg.injEq, Array.mk.injEq, List.cons.injEq, Value.int.injEq, Value.string.injEq] at h
  obtain ⟨h1, ⟨_, h2⟩, _⟩ := h
  have h3 := bs_inj h1
  cases x
  cases y
  simp only [Prod.mk.injEq] at h3 ⊢
  exact ⟨h3, by simp at h2; omega⟩
theorem sigK : KI 150 148 sgk sgo := ⟨Keyed.of_law sig_law, Tryz.underlying148, sig_has, sgk_inj⟩
/-! ## a name -/
def nmk (x : List UInt8) : Value := .string (bs x)
theorem namK : KI 9 66 nmk (fun x => x.length ≤ 4000) := ⟨string_keyed Tryz.underlying9, Tryz.underlying66, fun x hx => ⟨_, Go.WideMaps.keyOf_string_mk Tryz.underlying9 (by rw [bs_size]; unfold maxLen; omega)⟩, fun x y h => bs_inj (by unfold nmk at h; injection h)⟩

end Go.Proofs.YtmmgkdcojkmlcaaGreatDoor

namespace Go.Proofs.YtmmgkdcojkmlcaaGreatDoor
open Go.RowKit

/-- names that stand for something, in memory: the newest first -/
def ScP (w : World) : Value → List (List UInt8 × Int) → Prop
  | v, [] => v = .pointer none
  | v, x :: r => ∃ b u, v = .pointer (some ⟨b, 0, none⟩) ∧ w.heap[b]? = some (.cells #[.string (bs x.1), .int .i64 x.2, u] 198 (0, 0)) ∧ ScP w u r
theorem ScP.below {w w' : World} (hb : Below w.heap.size w w') : ∀ {v : Value} {l : List (List UInt8 × Int)}, ScP w v l → ScP w' v l
  | _, [], h => h
  | _, x :: r, h => by
    obtain ⟨b, u, h1, h2, h3⟩ := h
    exact ⟨b, u, h1, (hb.block _ (Array.getElem?_eq_some_iff.1 h2).1).trans h2, ScP.below hb h3⟩
theorem ScP.same {w : World} : ∀ {v : Value} {l m : List (List UInt8 × Int)}, ScP w v l → ScP w v m → l.length = m.length
  | _, [], [], _, _ => rfl
  | _, [], y :: s, h, k => by
    obtain ⟨b, u, h1, _⟩ := k
    have h' : _ = Value.pointer none := h
    rw [h'] at h1
    injection h1 with h1
    cases h1
  | _, x :: r, [], h, k => by
    obtain ⟨b, u, h1, _⟩ := h
    have k' : _ = Value.pointer none := k
    rw [k'] at h1
    injection h1 with h1
    cases h1
  | _, x :: r, y :: s, h, k => by
    obtain ⟨b, u, h1, h2, h3⟩ := h
    obtain ⟨c, t, k1, k2, k3⟩ := k
    rw [h1] at k1
    injection k1 with k1
    injection k1 with k1
    injection k1 with k1
    subst k1
    rw [h2] at k2
    injection k2 with k2
    injection k2 with k2
    simp only [Array.mk.injEq, List.cons.injEq] at k2
    obtain ⟨_, _, e, _⟩ := k2
    subst e
    simp [ScP.same h3 k3]
open Classical in
/-- how many they are -/
noncomputable def scl (w : World) (v : Value) : Nat := if h : ∃ l, ScP w v l then (Classical.choose h).length else 0
theorem scl_eq {w : World} {v : Value} {l : List (List UInt8 × Int)} (h : ScP w v l) : scl w v = l.length := by
  unfold scl
  have hx : ∃ l, ScP w v l := ⟨l, h⟩
  rw [dif_pos hx]
  exact ScP.same (Classical.choose_spec hx) h
theorem ScP.form {w : World} : ∀ {v : Value} {l : List (List UInt8 × Int)}, ScP w v l → ∃ a, v = .pointer a
  | _, [], h => ⟨none, h⟩
  | _, x :: r, h => by obtain ⟨b, u, h1, _⟩ := h; exact ⟨_, h1⟩
/-- where a name stands for something -/
def ScF (w : World) (e : Value) : Option (List UInt8 × Int) → Prop
  | none => e = .pointer none
  | some x => ∃ b u, e = .pointer (some ⟨b, 0, none⟩) ∧ w.heap[b]? = some (.cells #[.string (bs x.1), .int .i64 x.2, u] 198 (0, 0))

set_option maxRecDepth 100000 in
set_option maxHeartbeats 1000000 in
theorem find_any (nm : List UInt8) (v : Value) (l : List (List UInt8 × Int)) (w : World) (h : ScP w v l) :
    Calls Tryz.prog 83 #[v, .string (bs nm)] w fun e w' => w' = w ∧ ∃ u, e = .returned u ∧ ScF w u (l.find? (fun x => x.1 == nm)) := by
  obtain ⟨a, rfl⟩ := h.form
  have HL := hid h
  obtain ⟨q, hq⟩ : ∃ q, q = l.find? (fun x => x.1 == nm) := ⟨_, rfl⟩
  have HQ := hid hq
  rw [← hq]
  clear h hq
  obtain ⟨s, hs⟩ : ∃ s, s = bs nm := ⟨_, rfl⟩
  have HS : Hid (s.toList = nm) := by unfold Hid; rw [hs]; exact bs_list nm
  rw [← hs]
  clear hs
  go_enter Tryz.func83, Tryz.ntmps83
  go_wp2_with fail
  go_loop [0] (fun v => ∃ (r : List (List UInt8 × Int)), Hid (ScP w v r) ∧ Hid (q = r.find? (fun x => x.1 == nm))) (fun v => scl w v)
  case atStart => exact ⟨l, HL, HQ⟩
  case round =>
    obtain ⟨r, hr, hqr⟩ := hrel
    cases r with
    | nil =>
      have e1 : _ = Value.pointer none := hr.out
      subst e1
      go_wp2_with fail
      go_ret
      refine ⟨rfl, _, rfl, ?_⟩
      have hq2 := hqr.out
      simp at hq2
      subst hq2
      rfl
    | cons x r =>
      obtain ⟨b, u, rfl, h2, h3⟩ := hr.out
      have c0 : w.cell? ⟨b, 0, none⟩ = some (.string (bs x.1)) := by simp [World.cell?, h2]
      have c2 : w.cell? ⟨b, 2, none⟩ = some u := by simp [World.cell?, h2]
      have H2 := hid h2
      have H3 := hid h3
      have hls := bs_list x.1
      have hsl := HS.out
      have HSC := hid (scl_eq hr.out)
      obtain ⟨a2, rfl⟩ := h3.form
      clear h2 h3
      by_cases hx : x.1 = nm
      · have t1 : (x.1 == nm) = true := by simpa using hx
        have HX := hid hx
        clear hx
        go_wp2_with fail
        go_ret
        refine ⟨rfl, _, rfl, ?_⟩
        have hq2 := hqr.out
        rw [List.find?_cons, show (x.1 == nm) = true by simpa using HX.out] at hq2
        subst hq2
        exact ⟨b, _, rfl, H2.out⟩
      · have t1 : (x.1 == nm) = false := by simpa using hx
        have HX := hid hx
        clear hx
        go_wp2_with fail
        go_round
        case rel =>
          refine ⟨r, H3, ?_⟩
          have hq2 := hqr.out
          rw [List.find?_cons, show (x.1 == nm) = false by simpa using HX.out] at hq2
          exact hq2
        case measure =>
          rw [HSC.out, scl_eq H3.out]
          simp
theorem with_any (nm : ByteArray) (n : Int) (a : Option Addr) (w : World) : Calls Tryz.prog 84 #[.pointer a, .string nm, .int .i64 n] w fun e w' => e = .returned (.pointer (some ⟨w.heap.size, 0, none⟩)) ∧ w' = w.alloc (.cells #[.string nm, .int .i64 n, .pointer a] 198) := by
  go_enter Tryz.func84, Tryz.ntmps84
  go_wp2_with fail
  go_ret
  exact ⟨rfl, rfl⟩
theorem ScP.with {w : World} {a : Option Addr} {l : List (List UInt8 × Int)} (h : ScP w (.pointer a) l) (nm : List UInt8) (n : Int) : ScP (w.alloc (.cells #[.string (bs nm), .int .i64 n, .pointer a] 198)) (.pointer (some ⟨w.heap.size, 0, none⟩)) ((nm, n) :: l) :=
  ⟨w.heap.size, .pointer a, rfl, heap_alloc_new w _, h.below ((Below.refl _ _).alloc (Nat.le_refl _) _)⟩

end Go.Proofs.YtmmgkdcojkmlcaaGreatDoor

namespace Go.Proofs.YtmmgkdcojkmlcaaGreatDoor
open Go.RowKit

/-- what is wrong with a name, where some names stand for something -/
def onf (sig : List UInt8 → Nat → Bool) (k : Nat) (nm : List UInt8) (n : Nat) (known : List (List UInt8)) : Nat :=
  if k = 9 then (if nm ∈ known then 4 else 0) else if k = 1 then (if nm ∈ known then 0 else 6) else if k = 2 then (if sig nm n then 0 else 6) else 0
theorem belNS (w : World) (n : Nat) : Below w.heap.size w (w.drewN n) := ⟨rfl, rfl, rfl, Nat.le_refl _, fun _ _ => rfl⟩
theorem find_mem (l : List (List UInt8 × Int)) (nm : List UInt8) : (l.find? (fun x => x.1 == nm) = none ∧ ¬ nm ∈ l.map (·.1)) ∨ ∃ x, l.find? (fun x => x.1 == nm) = some x ∧ nm ∈ l.map (·.1) := by
  cases h : l.find? (fun x => x.1 == nm) with
  | none =>
    refine .inl ⟨rfl, fun hm => ?_⟩
    rw [List.find?_eq_none] at h
    obtain ⟨x, hx, rfl⟩ := List.mem_map.1 hm
    exact h x hx (by simp)
  | some x =>
    refine .inr ⟨x, rfl, ?_⟩
    have h1 := List.mem_of_find?_eq_some h
    have h2 := List.find?_some h
    simp at h2
    exact List.mem_map.2 ⟨x, h1, h2⟩

set_option maxRecDepth 100000 in
set_option maxHeartbeats 1000000 in
theorem nameFault_any (sig : List UInt8 → Nat → Bool) (b B k at' n nk : Nat) (nm : List UInt8) (av a : Option Addr) (c : Nat) (l : List (List UInt8 × Int)) (M : List UInt8 × Nat → Option Int) (w : World)
    (hP : w.heap[b]? = some (.cells #[.int .i64 (k : Int), .string (bs nm), .int .i64 (at' : Int), .int .i64 (n : Int), .slice av nk c] 190 (0, 0))) (hS : ScP w (.pointer a) l) (hM : MapI sgk sgo w B M) (hsig : ∀ x, sgo x → (M x).isSome = sig x.1 x.2) (ho : sgo (nm, nk)) :
    Calls Tryz.prog 86 #[.pointer (some ⟨b, 0, none⟩), .pointer a, .map (some B)] w fun e w' => e = .returned (.int .i64 (onf sig k nm nk (l.map (·.1)) : Nat)) ∧ Below w.heap.size w w' := by
  have hnot : ∀ (x : Bool) (w : World), (Op.unary .not (.bool x)).run Tryz.prog w = .ok (.bool (!x)) w := fun _ _ => rfl
  have c0 : w.cell? ⟨b, 0, none⟩ = some (.int .i64 (k : Int)) := by simp [World.cell?, hP]
  have c1 : w.cell? ⟨b, 1, none⟩ = some (.string (bs nm)) := by simp [World.cell?, hP]
  have c4 : w.cell? ⟨b, 4, none⟩ = some (.slice av nk c) := by simp [World.cell?, hP]
  have HF := hid (find_any nm _ l w hS)
  have HFM := hid (find_mem l nm)
  have HSG := hid (hsig _ ho)
  have HLK := hid (fun (W : World) (h : W.heap[B]? = w.heap[B]?) => (hM.block h).lookup sigK ho true)
  unfold onf
  clear hP hS hM hsig ho
  by_cases h9 : k = 9
  · rw [if_pos h9]
    have q9 : ((k : Int) == 9) = true := by rw [h9]; rfl
    rcases HFM.out with ⟨hf, hm⟩ | ⟨x, hf, hm⟩
    · rw [if_neg hm]
      rw [hf] at HF
      clear h9 hm hf HFM HLK
      go_enter Tryz.func86, Tryz.ntmps86
      go_wp2_with fail
      refine HF.out.mono ?_
      rintro e w1 ⟨rfl, u, rfl, hu⟩
      have hu' : u = .pointer none := hu
      subst hu'
      go_wp2_with fail
      go_ret
      exact ⟨rfl, Below.refl _ _⟩
    · rw [if_pos hm]
      rw [hf] at HF
      clear h9 hm hf HFM HLK
      go_enter Tryz.func86, Tryz.ntmps86
      go_wp2_with fail
      refine HF.out.mono ?_
      rintro e w1 ⟨rfl, u, rfl, b2, u2, rfl, _⟩
      go_wp2_with fail
      go_ret
      exact ⟨rfl, Below.refl _ _⟩
  · rw [if_neg h9]
    have q9 : ((k : Int) == 9) = false := by simp; omega
    by_cases h1 : k = 1
    · rw [if_pos h1]
      have q1 : ((k : Int) == 1) = true := by rw [h1]; rfl
      rcases HFM.out with ⟨hf, hm⟩ | ⟨x, hf, hm⟩
      · rw [if_neg hm]
        rw [hf] at HF
        clear h9 h1 hm hf HFM HLK
        go_enter Tryz.func86, Tryz.ntmps86
        go_wp2_with fail
        refine HF.out.mono ?_
        rintro e w1 ⟨rfl, u, rfl, hu⟩
        have hu' : u = .pointer none := hu
        subst hu'
        go_wp2_with fail
        go_ret
        exact ⟨rfl, Below.refl _ _⟩
      · rw [if_pos hm]
        rw [hf] at HF
        clear h9 h1 hm hf HFM HLK
        go_enter Tryz.func86, Tryz.ntmps86
        go_wp2_with fail
        refine HF.out.mono ?_
        rintro e w1 ⟨rfl, u, rfl, b2, u2, rfl, _⟩
        go_wp2_with fail
        go_ret
        exact ⟨rfl, Below.refl _ _⟩
    · rw [if_neg h1]
      have q1 : ((k : Int) == 1) = false := by simp; omega
      by_cases h2 : k = 2
      · rw [if_pos h2]
        have q2 : ((k : Int) == 2) = true := by rw [h2]; rfl
        obtain ⟨mv, hmv⟩ : ∃ mv, M (nm, nk) = mv := ⟨_, rfl⟩
        have hs2 := HSG.out
        rw [hmv] at HLK hs2
        have HL2 : Hid (∀ (W : World), W.heap[B]? = w.heap[B]? → (Instr.lookup 148 (.map (some B)) (.agg #[.string (bs nm), .int .i64 (nk : Int)]) true).run Tryz.prog W = .ok (.tuple #[.int .i64 (mv.getD 0), .bool (sig nm nk)]) W) := fun W h => by
          have := HLK.out W h
          rw [hs2] at this
          exact this
        generalize mv.getD 0 = z at HL2
        have hlk : ∀ d, (Instr.lookup 148 (.map (some B)) (.agg #[.string (bs nm), .int .i64 (nk : Int)]) true).run Tryz.prog (w.drewN d) = .ok (.tuple #[.int .i64 z, .bool (sig nm nk)]) (w.drewN d) := fun d => HL2.out _ rfl
        clear h9 h1 h2 HF HFM HLK hs2 hmv HSG HL2
        cases hsg : sig nm nk
        all_goals
          rw [hsg] at hlk
          clear hsg
          go_enter Tryz.func86, Tryz.ntmps86
          go_wp2_with fail
          go_quiet (fail)
          go_wp2_with fail
          go_ret
          exact ⟨rfl, belNS w _⟩
      · rw [if_neg h2]
        have q2 : ((k : Int) == 2) = false := by simp; omega
        clear h9 h1 h2 HF HFM HLK
        go_enter Tryz.func86, Tryz.ntmps86
        go_wp2_with fail
        go_ret
        exact ⟨rfl, Below.refl _ _⟩

end Go.Proofs.YtmmgkdcojkmlcaaGreatDoor

namespace Go.Proofs.YtmmgkdcojkmlcaaGreatDoor
open Go.RowKit Go.Shelf

/-- what is asked at a round's end: it goes on, or it panics -/
def rndPost (P : Program) (l : Nat) (R : Ending → World → Prop) : Exit → Act → World → Prop
  | .normal, _, w => ∃ v w', (Instr.endRound l none).run P w = .ok v w' ∧ R (.returned v) w'
  | .panic c, a, w => a.defers = [] ∧ R (.panicked c) w
  | _, _, _ => False

theorem round_of_wp {F : Fence} {n : Nat} {P : Program} {l f : Nat} {fnv : Func} {tmps : Array Value} {assign body : Code} {w : World} {R : Ending → World → Prop} (hF : F.fn f) (hfn : P.funcs[f]? = some fnv)
    (h : assign.wpIn (F.inRound l) n P (Exit.then (fun a₁ w₁ => ∃ w₂, (Instr.beginRound l).run P w₁ = .ok () w₂ ∧ body.wpIn (F.inRound l) n P (rndPost P l R) a₁ w₂) (fun _ _ _ => False))
      { tmps := tmps, defers := [] } w) :
    RoundIn F n P l f tmps assign body w R := by
  refine ⟨hF, fun c cs hr => ?_⟩
  let b : Frame := { (default : Frame) with fn := f, kind := .normal, roundOf := some l }
  have hb0 : Frame.round l f tmps assign body .normal = b.atR { tmps := tmps, defers := [] } [.code assign, .beginRound, .code body] := by
    simp [Frame.round, Frame.atR, b]
  have hr' : (F.inRound l).room ((c :: cs).length + 1 + n) := hr
  have hF' : (F.inRound l).fn b.fn := hF
  obtain ⟨e, a₁, w₁, hq, harr⟩ := h b [.beginRound, .code body] (c :: cs) rfl hF' hr'
  rw [← hb0] at harr
  cases e with
  | normal =>
    obtain ⟨w₂, hbr, hbody⟩ := hq
    have s1 : StepsIn (Machine.fenced P (F.inRound l)) P (lone (b.atR a₁ [.beginRound, .code body]) (c :: cs) w₁) (lone (b.atR a₁ [.code body]) (c :: cs) w₂) :=
      .one (fenced_calm (fr := b.atR a₁ [.beginRound, .code body]) hF' hr' rfl) (stepR_beginRound rfl hbr)
    obtain ⟨e₂, a₂, w₃, hq₂, harr₂⟩ := hbody b [] (c :: cs) rfl hF' hr'
    cases e₂ with
    | normal =>
      obtain ⟨v, w₄, hend, hR⟩ := hq₂
      exact ⟨.returned v, w₄, hR, (StepsIn.trans harr s1).trans (StepsIn.trans harr₂ (.one (fenced_calm (fr := b.atR a₂ []) hF' hr' rfl) (stepR_round_end rfl rfl hend)))⟩
    | panic chain =>
      obtain ⟨hd, hR⟩ := hq₂
      obtain ⟨todo, hs⟩ := harr₂
      have hlv : ({ b.atR a₂ todo with mode := .panicking chain } : Frame).leaving P w₃ (.panicked chain) := ⟨rfl, hd, fnv, hfn⟩
      exact ⟨.panicked chain, w₃, hR, (StepsIn.trans harr s1).trans (StepsIn.trans hs (.one (fenced_leaving (F := F.inRound l) (n := n) hF' hr' hlv) (step_leave_panicked hlv)))⟩
    | ret => exact hq₂.elim
    | exit id => exact hq₂.elim
    | goto t => exact hq₂.elim
    | outgrown => exact hq₂.elim
  | exit id => exact hq.elim
  | goto t => exact hq.elim
  | ret => exact hq.elim
  | panic chain => exact hq.elim
  | outgrown => exact hq.elim

/-- a call of yield, where the loop's record is ready: the round goes on, and the record is as it was; or it panics -/
theorem yield_of {n : Nat} {P : Program} {l : Nat} {rec : Loop} {fnv : Func} {args : Array Value} {W : World} {R : Ending → World → Prop} {a₁ : Act} (hl : W.heap[l]? = some (.loop rec)) (hst : rec.state = .ready) (hpe : rec.pending = none) (hs : args.size = rec.params.size) (hfn : P.funcs[rec.fn]? = some fnv)
    (hassign : ∀ (K : Act → World → Prop), K a₁ W → rec.assign.wpIn (Fence.wide.inRound l) n P (Exit.then K (fun _ _ _ => False)) { tmps := (rec.params.zip args).foldl (fun t (p, v) => t.setIfInBounds p v) rec.tmps, defers := [] } W)
    (hbody : rec.body.wpIn (Fence.wide.inRound l) n P (fun e a W3 => match e with
      | .normal => W3.heap[l]? = some (.loop { rec with state := .busy }) ∧ R (.returned (.bool true)) (W3.putObj l (.loop rec))
      | .panic c => a.defers = [] ∧ R (.panicked c) W3
      | _ => False) a₁ (W.putObj l (.loop { rec with state := .busy }))) :
    YieldAt Fence.wide n P l args W R := by
  refine ⟨rec.fn, _, rec.assign, rec.body, run_yield hl hs, round_of_wp trivial hfn (hassign _ ⟨_, run_beginRound hl hst, wpIn_mono hbody ?_⟩)⟩
  intro e a W3 he
  cases e with
  | normal =>
    obtain ⟨h1, h2⟩ := he
    refine ⟨_, _, run_endRound none h1, ?_⟩
    have : ({ { rec with state := LoopState.busy } with state := if (none : Option Code).isNone then .ready else .done, pending := none } : Loop) = rec := by
      cases rec
      simp at hst hpe ⊢
      exact ⟨hst.symm, hpe.symm⟩
    rw [this]
    exact h2
  | panic c => exact he
  | ret => exact he
  | exit id => exact he
  | goto t => exact he
  | outgrown => exact he

end Go.Proofs.YtmmgkdcojkmlcaaGreatDoor

namespace Go.Proofs.YtmmgkdcojkmlcaaGreatDoor
open Go.RowKit Go.Shelf

attribute [local go_sem] Oper.semAt_some

mutual
def tsz : Tr → Nat
  | .node _ _ _ _ kids => 1 + tszs kids
def tszs : List Tr → Nat
  | [] => 0
  | t :: r => tsz t + tszs r
end
theorem kid_lt : ∀ (kids : List Tr) (i : Nat) (t : Tr), kids[i]? = some t → tsz t ≤ tszs kids
  | [], i, t, h => by simp at h
  | x :: r, 0, t, h => by simp at h; subst h; rw [tszs]; omega
  | x :: r, i + 1, t, h => by
    have := kid_lt r i t (by simpa using h)
    rw [tszs]; omega
mutual
/-- the first fault of names of an expression, where some names stand for something: which, and where -/
def lk (sig : List UInt8 → Nat → Bool) : Tr → List (List UInt8) → Option (Nat × Nat)
  | .node k nm at' _ kids, known => if onf sig k nm kids.length known ≠ 0 then some (onf sig k nm kids.length known, at') else lks sig k nm known kids 0
def lks (sig : List UInt8 → Nat → Bool) (k : Nat) (nm : List UInt8) (known : List (List UInt8)) : List Tr → Nat → Option (Nat × Nat)
  | [], _ => none
  | t :: r, i => match lk sig t (if k = 9 ∧ i = 1 then nm :: known else known) with
    | some e => some e
    | none => lks sig k nm known r (i + 1)
end
mutual
/-- names and parts that are few enough -/
def TOk : Tr → Prop
  | .node _ nm _ _ kids => nm.length ≤ 4000 ∧ kids.length ≤ 4000 ∧ TOks kids
def TOks : List Tr → Prop
  | [] => True
  | t :: r => TOk t ∧ TOks r
end
theorem TOks.at : ∀ {kids : List Tr} {i : Nat} {t : Tr}, TOks kids → kids[i]? = some t → TOk t
  | [], i, t, _, h => by simp at h
  | x :: r, 0, t, hk, h => by simp at h; subst h; exact hk.1
  | x :: r, i + 1, t, hk, h => TOks.at hk.2 (by simpa using h)
theorem PTBs.at {B : Nat → Prop} {w : World} {a : Option Addr} : ∀ {kids : List Tr} {i j : Nat} {t : Tr}, PTBs B w a kids j → kids[i]? = some t → ∃ g v, a = some ⟨g, 0, none⟩ ∧ B g ∧ w.cell? ⟨g, j + i, none⟩ = some v ∧ PTB B w t v
  | [], i, j, t, _, h => by simp at h
  | x :: r, 0, j, t, hk, h => by simp at h; subst h; exact hk.1
  | x :: r, i + 1, j, t, hk, h => by
    obtain ⟨g, v, h1, h2, h3, h4⟩ := PTBs.at hk.2 (i := i) (t := t) (by simpa using h)
    exact ⟨g, v, h1, h2, by rw [show j + (i + 1) = j + 1 + i by omega]; exact h3, h4⟩
/-- how going through an expression ends -/
def LkP (l : Nat) (W : World) (r : Option (Nat × Nat)) (e : Ending) (W' : World) : Prop := match r with
  | none => e = .returned (.bool true) ∧ Below W.heap.size W W'
  | some x => e = pncF x.2 x.1 ∧ Fr l W W'

set_option maxRecDepth 100000 in
set_option maxHeartbeats 2000000 in
theorem walkX (sig : List UInt8 → Nat → Bool) (l : Nat) (Ctx : World → Prop) (hCtx : ∀ W W', Ctx W → Below W.heap.size W W' → Ctx W' ∧ l < W.heap.size)
    (hY : ∀ (W : World) (b k at' n nk c : Nat) (nm : List UInt8) (av a : Option Addr) (sc : List (List UInt8 × Int)), Ctx W → W.heap[b]? = some (.cells #[.int .i64 (k : Int), .string (bs nm), .int .i64 (at' : Int), .int .i64 (n : Int), .slice av nk c] 190 (0, 0)) → ScP W (.pointer a) sc → sgo (nm, nk) →
      YieldAt Fence.wide 0 Tryz.prog l #[.pointer (some ⟨b, 0, none⟩), .pointer a] W (LkP l W (if onf sig k nm nk (sc.map (·.1)) ≠ 0 then some (onf sig k nm nk (sc.map (·.1)), at') else none))) :
    ∀ (N : Nat) (t : Tr) (v : Value) (a : Option Addr) (sc : List (List UInt8 × Int)) (W : World) (m : Nat), tsz t ≤ N → Ctx W → PT 0 W t v → ScP W (.pointer a) sc → TOk t →
      CallsIn Fence.wide m Tryz.prog 106 #[v, .pointer a, .func (.yield l) #[] #[]] W (LkP l W (lk sig t (sc.map (·.1))))
  | 0, .node k nm at' n kids, v, a, sc, W, m, hN, _, _, _, _ => by rw [tsz] at hN; omega
  | N + 1, .node k nm at' n kids, v, a, sc, W, m, hN, hC, hP, hS, hO => by
    have ih := walkX sig l Ctx hCtx hY N
    have hnot : ∀ (x : Bool) (w : World), (Op.unary .not (.bool x)).run Tryz.prog w = .ok (.bool (!x)) w := fun _ _ => rfl
    obtain ⟨b, av, c, rfl, _, hb, hks⟩ := hP
    rw [tsz] at hN
    have HIH := hid ih
    have HCT := hid hCtx
    have HKS := hid hks
    have HS := hid hS
    have HB := hid hb
    have HC := hid hC
    have HO : Hid (nm.length ≤ 4000 ∧ kids.length ≤ 4000 ∧ TOks kids) := hO
    have HN := hid hN
    have hy := hY W b k at' n kids.length c nm av a sc hC hb hS ⟨HO.out.1, HO.out.2.1⟩
    obtain ⟨fn, tmps, assign, body, hyr, hR⟩ := hy
    have HR := hid hR
    rw [lk]
    clear hR ih hCtx hks hS hb hC hO hN
    by_cases ho : onf sig k nm kids.length (sc.map (·.1)) = 0
    · rw [if_neg (by simp [ho])]
      rw [if_neg (by simp [ho])] at HR
      have HL : ∃ res, Hid (res = lks sig k nm (sc.map (·.1)) kids 0) := ⟨_, rfl⟩
      obtain ⟨res, HL⟩ := HL
      rw [← HL.out]
      refine callsIn_of_wp Tryz.func106 rfl trivial ?_ rfl
      simp only [Tryz.ntmps106, List.size_toArray, List.length_cons, List.length_nil, Nat.reduceAdd, Nat.reduceSub, Array.replicate_succ, Array.replicate_zero, List.push_toArray, List.append_toArray, List.nil_append, List.cons_append]
      gi_wp2
      refine ⟨by simp [Fence.wide], RoundIn.mono ⟨HR.out.1, fun c cs _ => HR.out.2 c cs (room_wide _)⟩ ?_⟩
      rintro e W1 ⟨rfl, hB1⟩
      have HB1 := hid hB1
      have hb1 := (hB1.block _ (Array.getElem?_eq_some_iff.1 HB.out).1).trans HB.out
      have c4 : W1.cell? ⟨b, 4, none⟩ = some (.slice av kids.length c) := by simp [World.cell?, hb1]
      clear hB1 hb1
      gi_wp2
      gi_loopw [20] (fun iv wr => ∃ i : Nat, i ≤ kids.length ∧ iv = .int .i64 i ∧ Hid (res = lks sig k nm (sc.map (·.1)) (kids.drop i) i) ∧ Hid (Below W.heap.size W wr))
        (fun iv _ => kids.length - (intOf iv).toNat)
      case atStart => exact ⟨0, Nat.zero_le _, rfl, HL, HB1⟩
      case round =>
        obtain ⟨i, hi, rfl, hres, hbel⟩ := hrel
        have hkl := HO.out.2.1
        by_cases hlt : i < kids.length
        · have hlt2 : (i : Int) < (kids.length : Int) := by omega
          have hks : IntKind.i64.wrap ((i : Int) + 1) = (i : Int) + 1 := by rw [IntKind.wrap_i64]; omega
          have hq : kids[i]? = some kids[i] := List.getElem?_eq_getElem hlt
          obtain ⟨g, v, rfl, _, hcv, hpt⟩ := PTBs.at HKS.out hq
          rw [Nat.zero_add] at hcv
          have hcv2 := (hbel.out.cell (p := ⟨g, i, none⟩) (cell_lt hcv)).trans hcv
          have hbW := (hbel.out.block _ (Array.getElem?_eq_some_iff.1 HB.out).1).trans HB.out
          have c0 : wr.cell? ⟨b, 0, none⟩ = some (.int .i64 (k : Int)) := by simp [World.cell?, hbW]
          have c1 : wr.cell? ⟨b, 1, none⟩ = some (.string (bs nm)) := by simp [World.cell?, hbW]
          have HPT := hid (PT.below hpt hbel.out)
          have HSz : Hid (tsz kids[i] ≤ N) := by have := kid_lt kids i _ hq; have := HN.out; unfold Hid; omega
          have HOk : Hid (TOk kids[i]) := TOks.at HO.out.2.2 hq
          have hstep := hres.out
          rw [List.drop_eq_getElem_cons hlt, lks] at hstep
          have HST := hid hstep
          clear hstep hres hbW hcv hpt hkl c4
          obtain ⟨vb, rfl⟩ := PT.form HPT.out
          have Hmain : ∀ (sc2 : List (List UInt8 × Int)) (a2 : Option Addr) (W2 : World), Hid (sc2.map (·.1) = if k = 9 ∧ i = 1 then nm :: sc.map (·.1) else sc.map (·.1)) → Below W.heap.size W W2 → Below wr.heap.size wr W2 → ScP W2 (.pointer a2) sc2 →
              ∀ m', CallsIn Fence.wide m' Tryz.prog 106 #[.pointer (some ⟨vb, 0, none⟩), .pointer a2, .func (.yield l) #[] #[]] W2 (fun e W3 =>
                (e = .returned (.bool true) ∧ Hid (res = lks sig k nm (sc.map (·.1)) (kids.drop (i + 1)) (i + 1)) ∧ Hid (Below W.heap.size W W3)) ∨ (∃ x, Hid (res = some x) ∧ e = pncF x.2 x.1 ∧ Fr l W W3)) := by
            intro sc2 a2 W2 hk2 hb2 hb3 hs2 m'
            have hc2 : Ctx W2 := (HCT.out W W2 HC.out hb2).1
            refine (HIH.out _ _ a2 sc2 W2 m' HSz.out hc2 (PT.below HPT.out hb3) hs2 HOk.out).mono ?_
            intro e W3 he
            have hst := HST.out
            rw [← hk2.out] at hst
            cases hlk : lk sig kids[i] (sc2.map (·.1)) with
            | none =>
              rw [hlk] at he hst
              obtain ⟨rfl, hb4⟩ := he
              exact .inl ⟨rfl, hst, hb2.trans (hb4.mono hb2.size)⟩
            | some x =>
              rw [hlk] at he hst
              obtain ⟨rfl, hf⟩ := he
              exact .inr ⟨x, hst, rfl, (Fr.below hb2 (Nat.le_of_lt (HCT.out W W HC.out (Below.refl _ _)).2)).trans hf⟩
          have HM := hid Hmain
          clear Hmain
          by_cases h91 : k = 9 ∧ i = 1
          · obtain ⟨rfl, rfl⟩ := h91
            rw [if_pos ⟨rfl, rfl⟩] at HM
            clear hks hlt2
            have hlt2 : (1 : Int) < (kids.length : Int) := by omega
            gi_wp2
            refine ⟨trivial, by simp [Fence.wide], callsIn_wide.2 ((with_any (bs nm) 0 a wr).mono ?_)⟩
            rintro e w5 ⟨rfl, rfl⟩
            have hbA : Below wr.heap.size wr (wr.alloc (.cells #[.string (bs nm), .int .i64 0, .pointer a] 198)) := (Below.refl _ _).alloc (Nat.le_refl _) _
            have HM2 := hid (HM.out ((nm, 0) :: sc) (some ⟨wr.heap.size, 0, none⟩) _ rfl (hbel.out.trans (hbA.mono hbel.out.size)) hbA (ScP.with (HS.out.below hbel.out) nm 0))
            clear HM hbA
            generalize wr.alloc (.cells #[.string (bs nm), .int .i64 0, .pointer a] 198) = w5 at *
            gi_wp2
            refine ⟨trivial, by simp [Fence.wide], (HM2.out _).mono ?_⟩
            rintro e W3 (⟨rfl, hr3, hb3⟩ | ⟨x, hx, rfl, hf⟩)
            · gi_wp2
              go_roundw
              case rel => exact ⟨2, by omega, rfl, hr3, hb3⟩
              case measure => simp [intOf]; omega
            · refine ⟨rfl, ?_⟩
              rw [hx.out]
              exact ⟨rfl, hf⟩
          · rw [if_neg h91] at HM
            have HM2 := hid (HM.out sc a wr rfl hbel.out (Below.refl _ _) (HS.out.below hbel.out))
            clear HM
            by_cases h9 : k = 9
            · have q9 : ((k : Int) == 9) = true := by rw [h9]; rfl
              have q1 : ((i : Int) == 1) = false := by simp; omega
              clear h9 h91
              gi_wp2
              refine ⟨trivial, by simp [Fence.wide], (HM2.out _).mono ?_⟩
              rintro e W3 (⟨rfl, hr3, hb3⟩ | ⟨x, hx, rfl, hf⟩)
              · gi_wp2
                go_roundw
                case rel => exact ⟨i + 1, by omega, by go_num, hr3, hb3⟩
                case measure => simp [intOf]; omega
              · refine ⟨rfl, ?_⟩
                rw [hx.out]
                exact ⟨rfl, hf⟩
            · have q9 : ((k : Int) == 9) = false := by simp; omega
              clear h9 h91
              gi_wp2
              refine ⟨trivial, by simp [Fence.wide], (HM2.out _).mono ?_⟩
              rintro e W3 (⟨rfl, hr3, hb3⟩ | ⟨x, hx, rfl, hf⟩)
              · gi_wp2
                go_roundw
                case rel => exact ⟨i + 1, by omega, by go_num, hr3, hb3⟩
                case measure => simp [intOf]; omega
              · refine ⟨rfl, ?_⟩
                rw [hx.out]
                exact ⟨rfl, hf⟩
        · obtain rfl : i = kids.length := by omega
          have h0 := hres.out
          rw [List.drop_length, lks] at h0
          subst h0
          gi_wp2
          go_ret
          exact ⟨rfl, hbel.out⟩
    · rw [if_pos ho]
      rw [if_pos ho] at HR
      refine callsIn_of_wp Tryz.func106 rfl trivial ?_ rfl
      simp only [Tryz.ntmps106, List.size_toArray, List.length_cons, List.length_nil, Nat.reduceAdd, Nat.reduceSub, Array.replicate_succ, Array.replicate_zero, List.push_toArray, List.append_toArray, List.nil_append, List.cons_append]
      gi_wp2
      refine ⟨by simp [Fence.wide], RoundIn.mono ⟨HR.out.1, fun c cs _ => HR.out.2 c cs (room_wide _)⟩ ?_⟩
      rintro e W1 ⟨rfl, hB1⟩
      exact ⟨rfl, rfl, hB1⟩

end Go.Proofs.YtmmgkdcojkmlcaaGreatDoor
