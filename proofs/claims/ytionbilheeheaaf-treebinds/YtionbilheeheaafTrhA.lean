/- slices.BinarySearch of any ascending list; what Collide answers. -/
import Derived.Test.YtionbilheeheaafTrgZ
import Derived.Test.YtionbilheeheaafTrgX
namespace Go.Proofs.Ytionbilheeheaaf
open Go.RowKit

set_option maxRecDepth 100000 in
set_option maxHeartbeats 1000000 in
theorem search0 (ap : Option Addr) (cap : Nat) (x : Int) (w : World) : Calls Try.prog 33 #[.slice ap 0 cap, .int .i64 x] w fun e w' => e = .returned (.tuple #[.int .i64 0, .bool false]) ∧ Below w.heap.size w w' := by
  go_enter Try.func33, Try.ntmps33
  go_wp2_with fail
  refine wp_loop_rounds 1 ?_
  rw [rounds_succ]
  go_wp2_with fail
  go_ret2
  exact ⟨rfl, Below.refl _ _⟩

theorem asc_at {ps : List Int} (h : Asc ps) {x : Int} (hc : ps.contains x = true) : ps.countP (fun y => decide (y < x)) < ps.length ∧ zat ps (ps.countP (fun y => decide (y < x))) = x := by
  have hmem : x ∈ ps := by simpa using hc
  have hcut := asc_cut ps x h
  have hl : ps.countP (fun y => decide (y < x)) = (ps.filter (fun y => decide (y < x))).length := List.countP_eq_length_filter
  have hmem2 : x ∈ ps.filter (fun y => decide (x ≤ y)) := List.mem_filter.2 ⟨hmem, by simp⟩
  cases hf : ps.filter (fun y => decide (x ≤ y)) with
  | nil => rw [hf] at hmem2; cases hmem2
  | cons z zs =>
    have hz : z = x := by
      have hz1 : x ≤ z := by
        have : z ∈ ps.filter (fun y => decide (x ≤ y)) := by rw [hf]; simp
        simpa using (List.mem_filter.1 this).2
      have hasc : Asc (z :: zs) := by rw [← hf]; exact h.filter _
      rw [hf] at hmem2
      rcases List.mem_cons.1 hmem2 with e | e
      · exact e.symm
      · have := (List.pairwise_cons.1 hasc).1 x e
        omega
    rw [hf] at hcut
    rw [hl]
    constructor
    · have := congrArg List.length hcut
      rw [List.length_append, List.length_cons] at this
      omega
    · have e := congrArg (fun l => zat l (ps.filter (fun y => decide (y < x))).length) hcut
      refine e.trans ?_
      rw [← hz]
      simp [zat]

/-- slices.BinarySearch of any ascending list: whether it is there, and where -/
theorem search_asc (ap : Option Addr) (cap : Nat) (ps : List Int) (x : Int) (w : World) (h : Asc ps) (hpl : ps.length ≤ 281474976710656) (hp : Lst w.heap.size w ap cap ps) :
    Calls Try.prog 33 #[.slice ap ps.length cap, .int .i64 x] w fun e w' => (∃ k : Nat, e = .returned (.tuple #[.int .i64 (k : Int), .bool (ps.contains x)]) ∧ (ps.contains x = true → k < ps.length ∧ zat ps k = x)) ∧ Below w.heap.size w w' := by
  by_cases h0 : ps.length = 0
  · rw [h0]
    refine (search0 ap cap x w).mono ?_
    rintro e w' ⟨rfl, hb⟩
    have hc : ps.contains x = false := by rw [List.length_eq_zero_iff.1 h0]; rfl
    rw [hc]
    exact ⟨⟨0, rfl, fun h => by cases h⟩, hb⟩
  · obtain ⟨bb, oo, hav, _⟩ := hp.row 0 (by omega)
    subst hav
    have := Try.search_any bb oo ps.length cap ps x w (Nat.le_refl _) (by omega) (fun j hj => by
      obtain ⟨b', o', e1, e2, e3⟩ := hp.row j hj
      cases e1
      rw [e3, zat_cf]) (by rw [List.take_length]; exact h.imp (fun h => Int.le_of_lt h))
    rw [List.take_length] at this
    refine this.mono ?_
    rintro e w' ⟨rfl, qq, rfl⟩
    exact ⟨⟨_, rfl, fun hc => asc_at h hc⟩, rfl, rfl, rfl, Nat.le_refl _, fun _ _ => rfl⟩

/-- rows that are unlike at a place that both show -/
def Apart (q : Nat) (psA : List Int) (rowsA : List (List Int)) (psB : List Int) (rowsB : List (List Int)) : Prop := ∃ i j, i < psA.length ∧ j < psB.length ∧ zat psA i = zat psB j ∧ elr q (rat rowsA i) ≠ elr q (rat rowsB j)
/-- what Collide answers -/
def CollR (q n : Nat) (tt : Prop) (w : World) (e : Ending) (w' : World) : Prop :=
  ((e = .returned (.tuple #[.slice none 0 0, .slice none 0 0, .bool false]) ∧ ¬ tt) ∨ (∃ v1 v2 U V, e = .returned (.tuple #[v1, v2, .bool true]) ∧ LstV w' v1 U ∧ LstV w' v2 V ∧ Clash q n U V ∧ tt)) ∧ Below w.heap.size w w'

end Go.Proofs.Ytionbilheeheaaf
