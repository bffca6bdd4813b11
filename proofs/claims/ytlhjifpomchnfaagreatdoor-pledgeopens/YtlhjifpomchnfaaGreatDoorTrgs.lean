/- slices.BinarySearch at lists of numbers, by the library's own contract: laid for this program. A map of digests by groups, in memory. Package tree: isSize, isDigest, a group's lacks and parts, newWalk. Package tree: digestOf, elements. Trees: which groups are hidden, and what their root is worked out of. Plain. Trees: what Check is to answer, of the groups that are found. Plain. -/
import Derived.Shelf.Slices.SearchI
import Derived.Test.YtlhjifpomchnfaaGreatDoorProg
import Derived.Test.YtlhjifpomchnfaaGreatDoorSpgs
import Derived.Maps.OwnOps
import Derived.Maps.OwnSet
import Derived.DeepKeys4
import Derived.Laws.AppendOwn
import Derived.WalkArith
import Derived.Test.YtlhjifpomchnfaaGreatDoorRefs
import Derived.Deep.RegionHeld3
import Derived.Test.YtlhjifpomchnfaaGreatDoorTres
namespace Go.Proofs
open Go.Shelf

end Go.Proofs

namespace Go.Proofs.YtlhjifpomchnfaaGreatDoor
open Go.RowKit

/-- a group, as a value -/
def gk (a b : Nat) : Value := .agg #[.int .i64 (a : Int), .int .i64 (b : Int)]
theorem gk_inj {a b c d : Nat} (h : gk a b = gk c d) : a = c ∧ b = d := by
  unfold gk at h
  simp only [Value.agg.injEq, Array.mk.injEq, List.cons.injEq, Value.int.injEq] at h
  omega

theorem laidOut : laidOutB Tryz.prog = true := by kernel_rfl
theorem grp_law : WideMaps.KeyLaw Tryz.prog 201 := deep_law_laid laidOut (m := 3) (by omega) (of_decide_eq_true (by kernel_rfl)) (by kernel_rfl) (by rw [Tryz.underlying201])
theorem wf_small {x : Int} (h1 : -9223372036854775808 ≤ x) (h2 : x ≤ 9223372036854775807) : (Lit.int .i64 x).wf = true := WalkArith.wf_i64 (by omega)
theorem keyLits_int (d : Nat) {x : Int} (h1 : -9223372036854775808 ≤ x) (h2 : x ≤ 9223372036854775807) : Tryz.prog.keyLits (d + 1) 3 [.int .i64 x] = some [.int .i64 x] := by
  simp [Program.keyLits, Tryz.underlying3, wf_small h1 h2]
theorem keyOf_gk {a b : Nat} (ha : a ≤ 1000000000) (hb : b ≤ 1000000000) : ∃ l, keyOf Tryz.prog 201 (gk a b) = some l := by
  obtain ⟨n, hn⟩ : ∃ n, Tryz.prog.types.size = n + 1 := ⟨Tryz.prog.types.size - 1, by have : 0 < Tryz.prog.types.size := of_decide_eq_true (by kernel_rfl); omega⟩
  have e1 := keyLits_int n (x := (a : Int)) (by omega) (by omega)
  have e2 := keyLits_int n (x := (b : Int)) (by omega) (by omega)
  have k1 : Tryz.prog.keyType 201 = true := by kernel_rfl
  have k2 : Tryz.prog.cellsOf 201 = 2 := by kernel_rfl
  have k3 : Tryz.prog.cellsOf 3 = 1 := by kernel_rfl
  refine ⟨.string (keyBytes [.int .i64 (a : Int), .int .i64 (b : Int)]), ?_⟩
  simp only [keyOf, Tryz.underlying201, k1, hn]
  rw [show (gk a b).formed Tryz.prog 201 = true by simp [gk, Value.formed, Tryz.underlying201, k2]]
  have e3 : Tryz.prog.keyLits (n + 1 + 1) 201 [.int .i64 (a : Int), .int .i64 (b : Int)] = some [.int .i64 (a : Int), .int .i64 (b : Int)] := by
    unfold Program.keyLits
    simp only [Tryz.underlying201]
    simp [k2, k3, e1, e2]
  rw [show (gk a b).cells.toList = [.int .i64 (a : Int), .int .i64 (b : Int)] from rfl, e3]
  rfl

/-- what a map of digests holds: the first of a list at a key is its own -/
def MapIs (w : World) (B : Nat) (M : Nat → Nat → Option (List Int)) : Prop :=
  ∃ es clock, w.heap[B]? = some (.map es clock) ∧ (∀ e ∈ es.toList, ∃ a b d, e.key = gk a b ∧ a ≤ 1000000000 ∧ b ≤ 1000000000 ∧ M a b = some d ∧ e.val = .agg (an 4 (zat d))) ∧ (∀ a b d, M a b = some d → ∃ e ∈ es.toList, e.key = gk a b) ∧ es.toList.Pairwise (fun x y => x.key ≠ y.key)

def upd (M : Nat → Nat → Option (List Int)) (a b : Nat) (d : List Int) : Nat → Nat → Option (List Int) := fun x y => if x = a ∧ y = b then some d else M x y
theorem upd_same (M : Nat → Nat → Option (List Int)) (a b : Nat) (d : List Int) : upd M a b d a b = some d := by simp [upd]
theorem upd_other {M : Nat → Nat → Option (List Int)} {a b x y : Nat} {d : List Int} (h : ¬ (x = a ∧ y = b)) : upd M a b d x y = M x y := by simp [upd, h]

theorem MapIs.lt {w : World} {B : Nat} {M : Nat → Nat → Option (List Int)} (h : MapIs w B M) : B < w.heap.size := by
  obtain ⟨es, clock, hb, _⟩ := h
  exact (Array.getElem?_eq_some_iff.1 hb).1
theorem MapIs.block {w w' : World} {B : Nat} {M : Nat → Nat → Option (List Int)} (h : MapIs w B M) (e : w'.heap[B]? = w.heap[B]?) : MapIs w' B M := by
  obtain ⟨es, clock, hb, r⟩ := h
  exact ⟨es, clock, e.trans hb, r⟩
theorem MapIs.below {w w' : World} {B n0 : Nat} {M : Nat → Nat → Option (List Int)} (h : MapIs w B M) (e : Below n0 w w') (hb : B < n0) : MapIs w' B M := h.block (e.block B hb)
theorem MapIs.new (w : World) : MapIs (w.alloc (.map #[] 0)) w.heap.size (fun _ _ => none) := ⟨#[], 0, (MapKept.heap_alloc w _).1, by simp, by simp, by simp⟩

/-- what a look-up finds -/
theorem MapIs.find {w : World} {M : Nat → Nat → Option (List Int)} {a b : Nat} (ha : a ≤ 1000000000) (hb : b ≤ 1000000000) {es : Array MapEntry}
    (h1 : ∀ e ∈ es.toList, ∃ a b d, e.key = gk a b ∧ a ≤ 1000000000 ∧ b ≤ 1000000000 ∧ M a b = some d ∧ e.val = .agg (an 4 (zat d))) (h2 : ∀ a b d, M a b = some d → ∃ e ∈ es.toList, e.key = gk a b) :
    (M a b = none ∧ (Instr.findKey 201 (gk a b) es.toList).run Tryz.prog w = .ok none w ∧ ∀ e ∈ es.toList, e.key ≠ gk a b) ∨ ∃ d j e, M a b = some d ∧ (Instr.findKey 201 (gk a b) es.toList).run Tryz.prog w = .ok (some (j, .agg (an 4 (zat d)))) w ∧ es.toList[j]? = some e ∧ e.key = gk a b := by
  obtain ⟨l, hl⟩ := keyOf_gk ha hb
  rcases grp_law.find w hl es.toList (fun e he => by obtain ⟨x, y, d, hk, hx, hy, _⟩ := h1 e he; rw [hk]; exact keyOf_gk hx hy) with ⟨r1, r2⟩ | ⟨j, e, r1, r2, r3⟩
  · left
    refine ⟨?_, r1, r2⟩
    cases hM : M a b with
    | none => rfl
    | some d =>
      obtain ⟨e, he, hk⟩ := h2 a b d hM
      exact absurd hk (r2 e he)
  · right
    obtain ⟨x, y, d, hk, hx, hy, hM, hv⟩ := h1 e (List.mem_of_getElem? r2)
    obtain ⟨rfl, rfl⟩ := gk_inj (hk.symm.trans r3)
    exact ⟨d, j, e, hM, by rw [r1, hv], r2, r3⟩

end Go.Proofs.YtlhjifpomchnfaaGreatDoor

namespace Go.Proofs.YtlhjifpomchnfaaGreatDoor
open Go.RowKit

/-- two cells -/
def duo (a b : Value) : Nat → Value
  | 0 => a
  | _ => b
/-- a walk, in memory -/
def WlkAt (w : World) (g B s : Nat) : Prop := w.heap[g]? = some (.cells #[.pointer (some ⟨s, 0, none⟩), .map (some B)] 249 (0, 0))
theorem WlkAt.block {w w' : World} {g B s : Nat} (h : WlkAt w g B s) (e : w'.heap[g]? = w.heap[g]?) : WlkAt w' g B s := e.trans h
theorem WlkAt.lt {w : World} {g B s : Nat} (h : WlkAt w g B s) : g < w.heap.size := (Array.getElem?_eq_some_iff.1 h).1
theorem WlkAt.c0 {w : World} {g B s : Nat} (h : WlkAt w g B s) : w.cell? ⟨g, 0, none⟩ = some (.pointer (some ⟨s, 0, none⟩)) := by
  unfold WlkAt at h
  simp [World.cell?, h]
theorem WlkAt.c1 {w : World} {g B s : Nat} (h : WlkAt w g B s) : w.cell? ⟨g, 1, none⟩ = some (.map (some B)) := by
  unfold WlkAt at h
  simp [World.cell?, h]

end Go.Proofs.YtlhjifpomchnfaaGreatDoor

namespace Go.Proofs.YtlhjifpomchnfaaGreatDoor
open Go.RowKit

end Go.Proofs.YtlhjifpomchnfaaGreatDoor

namespace Go.Proofs.YtlhjifpomchnfaaGreatDoor
open Go.RowKit

/-- the groups that nodes stand for -/
def hd2 (ps : List Int) : Nat → Nat → Nat → List (Nat × Nat)
  | 0, _, _ => []
  | k + 1, a, c => if smb ps (a : Int) ((a : Int) + (c : Int)) = false then [(a, a + c)] else if c = 1 then [] else hd2 ps k a (lft c) ++ hd2 ps k (a + lft c) (c - lft c)
/-- they lie in order beside one another, and have no place -/
theorem hd2_mem (ps : List Int) : ∀ (k a c : Nat), 1 ≤ c → c ≤ k → ∀ g ∈ hd2 ps k a c, a ≤ g.1 ∧ g.1 < g.2 ∧ g.2 ≤ a + c ∧ smb ps (g.1 : Int) (g.2 : Int) = false
  | 0, _, _, h1, h2 => by omega
  | k + 1, a, c, h1, h2 => by
    intro g hg
    rw [hd2] at hg
    split at hg
    · rename_i h
      rw [List.mem_singleton.1 hg]
      refine ⟨Nat.le_refl _, by show a < a + c; omega, Nat.le_refl _, ?_⟩
      rw [← h]
      congr 1
    · split at hg
      · cases hg
      · obtain ⟨_, l2, l3⟩ := lft_spec c
        have l3' := l3 (by omega)
        rcases List.mem_append.1 hg with hg | hg
        · have := hd2_mem ps k a (lft c) (by omega) (by omega) g hg
          exact ⟨this.1, this.2.1, by omega, this.2.2.2⟩
        · have := hd2_mem ps k (a + lft c) (c - lft c) (by omega) (by omega) g hg
          exact ⟨by omega, this.2.1, by omega, this.2.2.2⟩
/-- what a root is worked out of -/
inductive Rd (q n : Nat) (M : Nat → Nat → Option (List Int)) : Nat → Nat → List Int → Prop
  | found {a b : Nat} {d : List Int} : M a b = some d → Rd q n M a b d
  | node {a b : Nat} {da db : List Int} : M a b = none → 2 ≤ b - a → Rd q n M a (a + lft (b - a)) da → Rd q n M (a + lft (b - a)) b db → Rd q n M a b (digl q n (1 :: (da ++ db)))
theorem Rd.det {q n : Nat} {M : Nat → Nat → Option (List Int)} {a b : Nat} {d d' : List Int} (h : Rd q n M a b d) : Rd q n M a b d' → d = d' := by
  induction h generalizing d' with
  | found e =>
    intro h'
    cases h' with
    | found e' => rw [e] at e'; cases e'; rfl
    | node e' => rw [e] at e'; cases e'
  | node e _ _ _ ih1 ih2 =>
    intro h'
    cases h' with
    | found e' => rw [e] at e'; cases e'
    | node _ _ r1 r2 => rw [ih1 r1, ih2 r2]

open Classical in
noncomputable def DV (q n : Nat) (M : Nat → Nat → Option (List Int)) (a b : Nat) : List Int := if h : ∃ d, Rd q n M a b d then h.choose else [0, 0, 0, 0]
theorem DV_eq {q n : Nat} {M : Nat → Nat → Option (List Int)} {a b : Nat} {d : List Int} (h : Rd q n M a b d) : DV q n M a b = d := by
  unfold DV
  rw [dif_pos ⟨d, h⟩]
  exact (Exists.choose_spec (⟨d, h⟩ : ∃ d, Rd q n M a b d)).det h

/-- what a walk can work out: each group is found, or both its parts are -/
inductive Rdy (q n : Nat) (D : Nat → Nat → List Int) (M : Nat → Nat → Option (List Int)) : Nat → Nat → Prop
  | found {a b : Nat} : M a b ≠ none → Rdy q n D M a b
  | node {a b : Nat} : 2 ≤ b - a → D a b = digl q n (1 :: (D a (a + lft (b - a)) ++ D (a + lft (b - a)) b)) → Rdy q n D M a (a + lft (b - a)) → Rdy q n D M (a + lft (b - a)) b → Rdy q n D M a b
/-- a digest: four elements -/
def Dgst (q : Nat) (d : List Int) : Prop := d.length = 4 ∧ ∀ j, j < 4 → 0 ≤ zat d j ∧ zat d j < (q : Int)
theorem Dgst.elr {q : Nat} {d : List Int} (h : d.length = 4) (hq : 0 < q) : Dgst q (elr q d) := by
  refine ⟨by unfold Go.Proofs.YtlhjifpomchnfaaGreatDoor.elr; rw [ls_len]; exact h, fun j hj => ?_⟩
  unfold Go.Proofs.YtlhjifpomchnfaaGreatDoor.elr
  rw [ls_at _ _ _ (by omega)]
  exact ⟨Int.emod_nonneg _ (by omega), Int.emod_lt_of_pos _ (by omega)⟩
theorem Dgst.digl {q : Nat} (h3 : 3 ≤ q) (n : Nat) (l : List Int) : Dgst q (digl q n l) := by
  rw [← elr_digl h3 n l]
  exact Dgst.elr (digl_len _ _ _) (by omega)
theorem Dgst.zero {q : Nat} (hq : 0 < q) : Dgst q [0, 0, 0, 0] := ⟨rfl, fun j hj => by
  have : zat [0, 0, 0, 0] j = 0 := by
    rcases j with _ | _ | _ | _ | j <;> first | rfl | omega
  omega⟩
/-- what is put into a map, one after the other -/
def mput (l : List ((Nat × Nat) × List Int)) : Nat → Nat → Option (List Int) := l.foldl (fun M p => upd M p.1.1 p.1.2 p.2) (fun _ _ => none)
theorem fput_mem : ∀ (l : List ((Nat × Nat) × List Int)) (M : Nat → Nat → Option (List Int)) (a b : Nat) (d : List Int), l.foldl (fun M p => upd M p.1.1 p.1.2 p.2) M a b = some d → ((a, b), d) ∈ l ∨ M a b = some d
  | [], _, _, _, _, h => .inr h
  | p :: l, M, a, b, d, h => by
    rcases fput_mem l _ a b d h with h | h
    · exact .inl (List.mem_cons_of_mem _ h)
    · replace h : upd M p.1.1 p.1.2 p.2 a b = some d := h
      by_cases hc : a = p.1.1 ∧ b = p.1.2
      · rw [hc.1, hc.2, upd_same] at h
        cases h
        rw [hc.1, hc.2]
        exact .inl (by simp)
      · rw [upd_other hc] at h
        exact .inr h
theorem mput_mem (l : List ((Nat × Nat) × List Int)) (a b : Nat) (d : List Int) (h : mput l a b = some d) : ((a, b), d) ∈ l := (fput_mem l _ a b d h).resolve_right (by simp)
end Go.Proofs.YtlhjifpomchnfaaGreatDoor

namespace Go.Proofs.YtlhjifpomchnfaaGreatDoor
open Go.RowKit

theorem getDe {α : Type} (a : List α) (d : α) {i : Nat} (h : i < a.length) : a.getD i d = a[i] := by simp [List.getD_eq_getElem?_getD, h]
/-- the nodes, each at its group; the rows, each at its place -/
def L1 (q : Nat) (hd : List (Nat × Nat)) (nodes : List (List Int)) (k : Nat) : List ((Nat × Nat) × List Int) := (List.range k).map (fun i => (hd.getD i (0, 0), elr q (rat nodes i)))
def L2 (q n : Nat) (ps : List Int) (rows : List (List Int)) (k : Nat) : List ((Nat × Nat) × List Int) := (List.range k).map (fun i => (((zat ps i).toNat, (zat ps i).toNat + 1), digl q n (0 :: rat rows i)))
def M0 (q n : Nat) (N : Nat) (ps : List Int) (rows nodes : List (List Int)) : Nat → Nat → Option (List Int) := mput (L1 q (hd2 ps N 0 N) nodes (hd2 ps N 0 N).length ++ L2 q n ps rows ps.length)
theorem hd_at {ps : List Int} {N i : Nat} (h1 : 1 ≤ N) (hi : i < (hd2 ps N 0 N).length) : ((hd2 ps N 0 N).getD i (0, 0)).1 < ((hd2 ps N 0 N).getD i (0, 0)).2 ∧ ((hd2 ps N 0 N).getD i (0, 0)).2 ≤ N ∧ smb ps (((hd2 ps N 0 N).getD i (0, 0)).1 : Int) (((hd2 ps N 0 N).getD i (0, 0)).2 : Int) = false := by
  have me := hd2_mem ps N 0 N h1 (Nat.le_refl _) _ (List.getElem_mem hi)
  rw [getDe _ _ hi]
  exact ⟨me.2.1, by omega, me.2.2.2⟩
theorem M0_none {q n N : Nat} {ps : List Int} {rows nodes : List (List Int)} (h1 : 1 ≤ N) {x y : Nat} (hxy : 2 ≤ y - x) (hs : smb ps (x : Int) (y : Int) = true) : M0 q n N ps rows nodes x y = none := by
  cases e : M0 q n N ps rows nodes x y with
  | none => rfl
  | some d =>
    rcases List.mem_append.1 (mput_mem _ _ _ _ e) with hd' | hd'
    · obtain ⟨i, hi, e⟩ := List.mem_map.1 hd'
      have hh := (hd_at (ps := ps) h1 (List.mem_range.1 hi)).2.2
      simp only [Prod.mk.injEq] at e
      rw [e.1, hs] at hh
      cases hh
    · obtain ⟨i, hi, e⟩ := List.mem_map.1 hd'
      simp only [Prod.mk.injEq] at e
      omega
/-- what isShown tells -/
def shwn (N : Nat) (ps : List Int) (rows nodes : List (List Int)) : Prop := rows.length = ps.length ∧ AscN (N : Int) ps ∧ (∀ i, i < nodes.length → (rat nodes i).length = 4) ∧ nodes.length = (hd2 ps N 0 N).length
end Go.Proofs.YtlhjifpomchnfaaGreatDoor
