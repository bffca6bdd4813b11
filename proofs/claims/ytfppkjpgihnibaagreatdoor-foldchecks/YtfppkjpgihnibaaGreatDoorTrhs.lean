/- Package tree: a walk's pairList. slices.Equal; package tree: rowList. Trees: on the way down to a place. Plain. Package tree: parting. slices.BinarySearch of any ascending list; what Collide answers. -/
import Derived.Test.YtfppkjpgihnibaaGreatDoorTrgx
namespace Go.Proofs.YtfppkjpgihnibaaGreatDoor
open Go.RowKit

end Go.Proofs.YtfppkjpgihnibaaGreatDoor

namespace Go.Proofs.YtfppkjpgihnibaaGreatDoor
open Go.RowKit

theorem eq_of_zat {x y : List Int} (hl : x.length = y.length) (h : ∀ j, j < x.length → zat x j = zat y j) : x = y := by
  apply List.ext_getElem hl
  intro i h1 h2
  have := h i h1
  simpa [zat, h1, h2] using this

set_option maxRecDepth 100000 in
set_option maxHeartbeats 2000000 in
theorem equal_any (c1 c2 : Nat) (a1 a2 : Option Addr) (x y : List Int) (w : World) (hx : x.length ≤ 281474976710656) (h1 : RowB w.heap.size w a1 x) (h2 : RowB w.heap.size w a2 y) :
    Calls Tryz.prog 183 #[.slice a1 x.length c1, .slice a2 y.length c2] w fun e w' => e = .returned (.bool (decide (x = y))) ∧ Below w.heap.size w w' := by
  have H1 := hid h1
  have H2 := hid h2
  clear h1 h2
  by_cases hl : x.length = y.length
  · obtain ⟨n, hn⟩ : ∃ n, n = x.length := ⟨_, rfl⟩
    have HN := hid hn
    have HLY : Hid (y.length = n) := by rw [hn]; exact hl.symm
    rw [← hl, ← hn]
    rw [← hn] at hx
    clear hn hl
    go_enter Tryz.func183, Tryz.ntmps183
    go_wp2_with fail
    go_loopw [13] (fun iv wr => ∃ k : Nat, k ≤ n ∧ iv = .int .i64 k ∧ Hid ((∀ j, j < k → zat x j = zat y j) ∧ Below w.heap.size w wr)) (fun iv _ => n - (intOf iv).toNat)
    case atStart => exact ⟨0, by omega, rfl, fun j hj => by omega, Below.refl _ _⟩
    case round =>
      obtain ⟨k, hk, rfl, hC⟩ := hrel
      by_cases hlt : k < n
      · have hlt2 : (k : Int) < (n : Int) := by omega
        have hks : IntKind.i64.wrap ((k : Int) + 1) = (k : Int) + 1 := by rw [IntKind.wrap_i64]; omega
        obtain ⟨b1, o1, rfl, hb1, hc1⟩ := H1.out k (by rw [← HN.out]; exact hlt)
        obtain ⟨b2, o2, rfl, hb2, hc2⟩ := H2.out k (by rw [HLY.out]; exact hlt)
        have k1 := (hC.out.2.cell (p := ⟨b1, o1 + k, none⟩) hb1).trans hc1
        have k2 := (hC.out.2.cell (p := ⟨b2, o2 + k, none⟩) hb2).trans hc2
        have HB := hid hC.out.2
        have HP := hid hC.out.1
        clear hC hc1 hc2 hb1 hb2
        by_cases he : zat x k = zat y k
        · have HE : Hid ((∀ j, j < k + 1 → zat x j = zat y j) ∧ Below w.heap.size w wr.drew) := ⟨fun j hj => by
            rcases Nat.lt_or_ge j k with h' | h'
            · exact HP.out j h'
            · rw [show j = k by omega]; exact he, HB.out.drew⟩
          rw [he] at k1
          generalize zat y k = v at *
          clear he
          go_wp2_with fail
          go_region_held3 (fun W => W.cell? ⟨b1, o1 + k, none⟩ = some (.int .i64 v) ∧ W.cell? ⟨b2, o2 + k, none⟩ = some (.int .i64 v)) (go_keep) (fail)
          go_wp2_with fail
          go_roundw
          case rel => exact ⟨k + 1, by omega, by go_num, HE⟩
          case measure => simp [intOf]; omega
        · have HNE : Hid (¬ x = y) := fun e => he (by rw [e])
          have hne : (zat x k != zat y k) = true := by simpa using he
          generalize zat x k = u at *
          generalize zat y k = v at *
          go_wp2_with fail
          go_region_held3 (fun W => W.cell? ⟨b1, o1 + k, none⟩ = some (.int .i64 u) ∧ W.cell? ⟨b2, o2 + k, none⟩ = some (.int .i64 v)) (go_keep) (fail)
          go_wp2_with fail
          go_ret
          exact ⟨by rw [decide_eq_false HNE.out]; rfl, HB.out.drew⟩
      · obtain rfl : k = n := by omega
        have HE := hC
        clear hC
        go_wp2_with fail
        go_ret
        refine ⟨?_, HE.out.2⟩
        rw [decide_eq_true (eq_of_zat (by rw [← HN.out]; exact HLY.out.symm) (fun j hj => HE.out.1 j (by rw [HN.out]; exact hj)))]
        rfl
  · have hne : ((x.length : Int) != (y.length : Int)) = true := by simp; omega
    have HNE : Hid (¬ x = y) := fun e => hl (by rw [e])
    clear hl
    go_enter Tryz.func183, Tryz.ntmps183
    go_wp2_with fail
    go_ret
    exact ⟨by rw [decide_eq_false HNE.out]; rfl, Below.refl _ _⟩

end Go.Proofs.YtfppkjpgihnibaaGreatDoor

namespace Go.Proofs.YtfppkjpgihnibaaGreatDoor
open Go.RowKit

/-- what holds of a group on the way down in one walk -/
structure Way (q n N : Nat) (ps : List Int) (rows nodes : List (List Int)) (M' : Nat → Nat → Option (List Int)) (a b : Nat) : Prop where
  rd : Rd q n (M0 q n N ps rows nodes) a b (DV q n (M0 q n N ps rows nodes) a b)
  found : M' a b ≠ none

theorem Way.down {q n N : Nat} {ps : List Int} {rows nodes : List (List Int)} {M' : Nat → Nat → Option (List Int)} {a b j : Nat} (h : Way q n N ps rows nodes M' a b) (h1 : 1 ≤ N) (hj : j < ps.length) (ha : (a : Int) ≤ zat ps j) (hb : zat ps j < (b : Int)) (h2 : 2 ≤ b - a)
    (hcl : ClM (M0 q n N ps rows nodes) M') : Way q n N ps rows nodes M' a (a + lft (b - a)) ∧ Way q n N ps rows nodes M' (a + lft (b - a)) b ∧ DV q n (M0 q n N ps rows nodes) a b = digl q n (1 :: (DV q n (M0 q n N ps rows nodes) a (a + lft (b - a)) ++ DV q n (M0 q n N ps rows nodes) (a + lft (b - a)) b)) := by
  have hno : M0 q n N ps rows nodes a b = none := M0_none h1 h2 (smb_iff.2 ⟨j, hj, ha, hb⟩)
  have hr := h.rd
  generalize hD : DV q n (M0 q n N ps rows nodes) a b = D at hr
  cases hr with
  | found e => rw [hno] at e; cases e
  | node _ _ r1 r2 =>
    rcases hcl a b h.found with hc | ⟨_, c1, c2⟩
    · exact absurd hno hc
    · refine ⟨⟨by rw [DV_eq r1]; exact r1, c1⟩, ⟨by rw [DV_eq r2]; exact r2, c2⟩, ?_⟩
      rw [DV_eq r1, DV_eq r2]

end Go.Proofs.YtfppkjpgihnibaaGreatDoor

namespace Go.Proofs.YtfppkjpgihnibaaGreatDoor
open Go.RowKit

/-- a list, as a value -/
def LstV (W : World) (v : Value) (U : List Int) : Prop := ∃ a c, v = .slice a U.length c ∧ Lst W.heap.size W a c U
theorem LstV.keep {W W' : World} {v : Value} {U : List Int} (h : LstV W v U) (hb : Below W.heap.size W W') : LstV W' v U := by
  obtain ⟨a, c, rfl, hl⟩ := h
  exact ⟨a, c, rfl, (hl.below hb).mono hb.size⟩
theorem LstV.of {W : World} {base : Nat} {v : Value} {U : List Int} (h : W.ownsRow base 3 1 v U.length (U.map (Value.int .i64))) : LstV W v U := by
  obtain ⟨a, c, rfl, hl⟩ := lst_of_owns h
  exact ⟨a, c, rfl, hl⟩
/-- the state of the way down -/
structure PSt (q n N : Nat) (psA psB : List Int) (rowsA nodesA rowsB nodesB : List (List Int)) (MA MB : Nat → Nat → Option (List Int)) (w : World) (a b : Nat) (wr : World) : Prop where
  row : wr.rowIs w.heap.size 212 2 (duo (.int .i64 (a : Int)) (.int .i64 (b : Int)))
  below : Below w.heap.size w wr
  wayA : Way q n N psA rowsA nodesA MA a b
  wayB : Way q n N psB rowsB nodesB MB a b
  same : DV q n (M0 q n N psA rowsA nodesA) a b = DV q n (M0 q n N psB rowsB nodesB) a b

end Go.Proofs.YtfppkjpgihnibaaGreatDoor

namespace Go.Proofs.YtfppkjpgihnibaaGreatDoor
open Go.RowKit

set_option maxRecDepth 100000 in
set_option maxHeartbeats 1000000 in
theorem search0 (ap : Option Addr) (cap : Nat) (x : Int) (w : World) : Calls Tryz.prog 112 #[.slice ap 0 cap, .int .i64 x] w fun e w' => e = .returned (.tuple #[.int .i64 0, .bool false]) ∧ Below w.heap.size w w' := by
  go_enter Tryz.func112, Tryz.ntmps112
  go_wp2_with fail
  refine wp_loop_rounds 1 ?_
  rw [rounds_succ]
  go_wp2_with fail
  go_ret2
  exact ⟨rfl, Below.refl _ _⟩

theorem asc_at {ps : List Int} (h : Asc ps) {x : Int} (hc : ps.contains x = true) : ps.countP (fun y => decide (y < x)) < ps.length ∧ zat ps (ps.countP (fun y => decide (y < x))) = x := by
  have hmem : x ∈ ps := by simpa using hc
  have hcut := asc_cut ps x h
  have hl : ps.countP (fun y => decide (y < x)) = (ps.filter (fun y => decide (y < x))).length := List.countP_eq_length_filter
  have hmem2 : x ∈ ps.filter (fun y => decide (x ≤ y)) := List.mem_filter.2 ⟨hmem, by simp⟩
  cases hf : ps.filter (fun y => decide (x ≤ y)) with
  | nil => rw [hf] at hmem2; cases hmem2
  | cons z zs =>
    have hz : z = x := by
      have hz1 : x ≤ z := by
        have : z ∈ ps.filter (fun y => decide (x ≤ y)) := by rw [hf]; simp
        simpa using (List.mem_filter.1 this).2
      have hasc : Asc (z :: zs) := by rw [← hf]; exact h.filter _
      rw [hf] at hmem2
      rcases List.mem_cons.1 hmem2 with e | e
      · exact e.symm
      · have := (List.pairwise_cons.1 hasc).1 x e
        omega
    rw [hf] at hcut
    rw [hl]
    constructor
    · have := congrArg List.length hcut
      rw [List.length_append, List.length_cons] at this
      omega
    · have e := congrArg (fun l => zat l (ps.filter (fun y => decide (y < x))).length) hcut
      refine e.trans ?_
      rw [← hz]
      simp [zat]

/-- slices.BinarySearch of any ascending list: whether it is there, and where -/
theorem search_asc (ap : Option Addr) (cap : Nat) (ps : List Int) (x : Int) (w : World) (h : Asc ps) (hpl : ps.length ≤ 281474976710656) (hp : Lst w.heap.size w ap cap ps) :
    Calls Tryz.prog 112 #[.slice ap ps.length cap, .int .i64 x] w fun e w' => (∃ k : Nat, e = .returned (.tuple #[.int .i64 (k : Int), .bool (ps.contains x)]) ∧ (ps.contains x = true → k < ps.length ∧ zat ps k = x)) ∧ Below w.heap.size w w' := by
  by_cases h0 : ps.length = 0
  · rw [h0]
    refine (search0 ap cap x w).mono ?_
    rintro e w' ⟨rfl, hb⟩
    have hc : ps.contains x = false := by rw [List.length_eq_zero_iff.1 h0]; rfl
    rw [hc]
    exact ⟨⟨0, rfl, fun h => by cases h⟩, hb⟩
  · obtain ⟨bb, oo, hav, _⟩ := hp.row 0 (by omega)
    subst hav
    have := Tryz.search_any bb oo ps.length cap ps x w (Nat.le_refl _) (by omega) (fun j hj => by
      obtain ⟨b', o', e1, e2, e3⟩ := hp.row j hj
      cases e1
      rw [e3, zat_cf]) (by rw [List.take_length]; exact h.imp (fun h => Int.le_of_lt h))
    rw [List.take_length] at this
    refine this.mono ?_
    rintro e w' ⟨rfl, qq, rfl⟩
    exact ⟨⟨_, rfl, fun hc => asc_at h hc⟩, rfl, rfl, rfl, Nat.le_refl _, fun _ _ => rfl⟩

/-- rows that are unlike at a place that both show -/
def Apart (q : Nat) (psA : List Int) (rowsA : List (List Int)) (psB : List Int) (rowsB : List (List Int)) : Prop := ∃ i j, i < psA.length ∧ j < psB.length ∧ zat psA i = zat psB j ∧ elr q (rat rowsA i) ≠ elr q (rat rowsB j)
end Go.Proofs.YtfppkjpgihnibaaGreatDoor
