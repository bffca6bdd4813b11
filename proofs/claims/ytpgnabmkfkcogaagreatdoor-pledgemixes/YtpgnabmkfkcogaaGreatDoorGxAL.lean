/- Package tree: checked, where it is right by its form. Package tree: Check. slices.Sorted of slices.Values, slices.Compact: the places once each, ascending. -/
import Derived.Test.YtpgnabmkfkcogaaGreatDoorGxAK
import Derived.Shelf.Slices.In.SortNone
import Derived.Lib.SlKeysI
import Derived.Test.YtpgnabmkfkcogaaGreatDoorGxAD
import Derived.Test.YtpgnabmkfkcogaaGreatDoorGxAB
namespace Go.Proofs.YtpgnabmkfkcogaaGreatDoor
open Go.RowKit

theorem gcs_at : ∀ (l : List (Nat × Nat)) (k : Nat), k < l.length → (gcs l)[k * 2]? = some (.int .i64 ((l.getD k (0, 0)).1 : Int)) ∧ (gcs l)[k * 2 + 1]? = some (.int .i64 ((l.getD k (0, 0)).2 : Int))
  | [], _, h => by simp at h
  | g :: l, 0, _ => by simp [gcs]
  | g :: l, k + 1, h => by
    have := gcs_at l k (by simpa using h)
    simp only [gcs, List.flatMap_cons] at this ⊢
    rw [show (k + 1) * 2 = (k * 2) + 2 by omega, show (k * 2) + 2 + 1 = (k * 2 + 1) + 2 by omega]
    simpa using this
theorem ownG_cells {base : Nat} {w : World} {v : Value} {l : List (Nat × Nat)} (h : OwnG base w v l) {k : Nat} (hk : k < l.length) : ∃ gv, v = .slice (some ⟨gv, 0, none⟩) l.length (match v with | .slice _ _ c => c | _ => 0) ∧ base ≤ gv ∧ gv < w.heap.size ∧ w.cell? ⟨gv, k * 2, none⟩ = some (.int .i64 ((l.getD k (0, 0)).1 : Int)) ∧ w.cell? ⟨gv, k * 2 + 1, none⟩ = some (.int .i64 ((l.getD k (0, 0)).2 : Int)) := by
  rcases h.2 with ⟨_, h0⟩ | ⟨g, cap, cur, rfl, hb, hg, hn, hm, hs, ht⟩
  · omega
  · obtain ⟨e1, e2⟩ := gcs_at l k hk
    rw [← ht, List.getElem?_take, if_pos (by omega)] at e1 e2
    refine ⟨g, rfl, hb, (Array.getElem?_eq_some_iff.1 hg).1, ?_, ?_⟩
    · simp only [World.cell?, hg]
      simpa using e1
    · simp only [World.cell?, hg]
      simpa using e2
/-- what stands while a walk goes on -/
structure CkW (w : World) (g B s : Nat) (opn : Array Value) (W : World) (M : Nat → Nat → Option (List Int)) : Prop where
  below : Below w.heap.size w W
  opn : W.heap[w.heap.size]? = some (.cells opn 49 (0, 0))
  wlk : WlkAt W g B s
  map : MapIs W B M
theorem CkW.gb {w : World} {g B s : Nat} {opn : Array Value} {W W' : World} {M M' : Nat → Nat → Option (List Int)} (h : CkW w g B s opn W M) (hB : w.heap.size < B) (e : W.grownBy W' (some B)) (hM : MapIs W' B M') : CkW w g B s opn W' M' := by
  have hBg : g ≠ B := fun e' => by
    obtain ⟨es, ck, h1, _⟩ := h.map
    have h2 := h.wlk
    unfold WlkAt at h2
    rw [e', h1] at h2
    cases h2
  refine ⟨⟨e.os.trans h.below.os, e.tape.trans h.below.tape, e.output.trans h.below.output, Nat.le_trans h.below.size e.size, fun k hk => (gb_blk e (by have := h.below.size; omega) (by omega)).trans (h.below.block k hk)⟩, (gb_blk e (Array.getElem?_eq_some_iff.1 h.opn).1 (by omega)).trans h.opn, h.wlk.block (gb_blk e h.wlk.lt hBg), hM⟩
theorem CkW.bl {w : World} {g B s : Nat} {opn : Array Value} {W W' : World} {M : Nat → Nat → Option (List Int)} (h : CkW w g B s opn W M) (e : Below W.heap.size W W') : CkW w g B s opn W' M :=
  ⟨h.below.trans (e.mono h.below.size), (e.block _ (Array.getElem?_eq_some_iff.1 h.opn).1).trans h.opn, h.wlk.block (e.block _ h.wlk.lt), h.map.below e h.map.lt⟩

/-- a walk that has come to its root -/
def WlkDone (q n N : Nat) (ps : List Int) (rows nodes : List (List Int)) (w : World) (g B s : Nat) (w' : World) : Prop :=
  w.heap.size < B ∧ WlkAt w' g B s ∧ Below w.heap.size w w' ∧ ∃ M', MapIs w' B M' ∧ Snd M' (DV q n (M0 q n N ps rows nodes)) ∧ ClM (M0 q n N ps rows nodes) M' ∧ M' 0 N ≠ none
theorem CkW.done {q n N : Nat} {ps : List Int} {rows nodes : List (List Int)} {w : World} {g B s : Nat} {opn : Array Value} {W : World} (hB : w.heap.size < B) (h : ∃ M', CkW w g B s opn W M' ∧ Snd M' (DV q n (M0 q n N ps rows nodes)) ∧ ClM (M0 q n N ps rows nodes) M' ∧ M' 0 N ≠ none) : WlkDone q n N ps rows nodes w g B s W := by
  obtain ⟨M', h1, h2, h3, h4⟩ := h
  exact ⟨hB, h1.wlk, h1.below, M', h1.map, h2, h3, h4⟩

end Go.Proofs.YtpgnabmkfkcogaaGreatDoor

namespace Go.Proofs.YtpgnabmkfkcogaaGreatDoor
open Go.RowKit

end Go.Proofs.YtpgnabmkfkcogaaGreatDoor

namespace Go.Proofs.YtpgnabmkfkcogaaGreatDoor
open Go.RowKit Go.Sort

/-! ## plain -/
theorem cmp_succ (d : Array Int) (m : Nat) : Lib.compactUpTo d (m + 1) = Lib.compactUpTo d m ++ (if Lib.keeps d m then [d[m]!] else []) := by
  unfold Lib.compactUpTo
  rw [List.range_succ, List.filter_append, List.map_append]
  congr 1
  cases h : Lib.keeps d m <;> simp [h]
theorem cmp_facts (d : Array Int) (hs : ∀ i j, i ≤ j → j < d.size → d[i]! ≤ d[j]!) : ∀ m, m ≤ d.size → (Lib.compactUpTo d m).Pairwise (· < ·) ∧ (∀ x, x ∈ Lib.compactUpTo d m ↔ ∃ j, j < m ∧ d[j]! = x)
  | 0, _ => ⟨by simp [Lib.compactUpTo], fun x => by simp [Lib.compactUpTo]⟩
  | m + 1, h => by
    obtain ⟨h1, h2⟩ := cmp_facts d hs m (by omega)
    rw [cmp_succ]
    have hmem : ∀ x, (∃ j, j < m + 1 ∧ d[j]! = x) ↔ (∃ j, j < m ∧ d[j]! = x) ∨ d[m]! = x := fun x => by
      constructor
      · rintro ⟨j, hj, e⟩
        rcases Nat.lt_or_ge j m with h' | h'
        · exact .inl ⟨j, h', e⟩
        · rw [show j = m by omega] at e
          exact .inr e
      · rintro (⟨j, hj, e⟩ | e)
        · exact ⟨j, by omega, e⟩
        · exact ⟨m, by omega, e⟩
    cases hk : Lib.keeps d m with
    | true =>
      refine ⟨?_, fun x => ?_⟩
      · simp only [if_true]
        refine List.pairwise_append.2 ⟨h1, by simp, fun a ha b hb => ?_⟩
        simp only [List.mem_singleton] at hb
        subst hb
        obtain ⟨j, hj, rfl⟩ := (h2 a).1 ha
        have hne : d[m]! ≠ d[m - 1]! := fun e => by
          rw [Lib.keeps_neg (by omega) e] at hk
          cases hk
        have a1 := hs j (m - 1) (by omega) (by omega)
        have a2 := hs (m - 1) m (by omega) (by omega)
        omega
      · simp only [if_true, List.mem_append, List.mem_singleton]
        rw [hmem, h2]
        constructor
        · rintro (h | h)
          · exact .inl h
          · exact .inr h.symm
        · rintro (h | h)
          · exact .inl h
          · exact .inr h.symm
    | false =>
      have hm : 0 < m := by
        rcases Nat.eq_zero_or_pos m with e | e
        · rw [e, Lib.keeps_lt_one d 0 (by omega)] at hk
          cases hk
        · exact e
      have he : d[m]! = d[m - 1]! := by
        rcases Classical.em (d[m]! = d[m - 1]!) with e | e
        · exact e
        · rw [Lib.keeps_pos e] at hk
          cases hk
      refine ⟨by simpa using h1, fun x => ?_⟩
      simp only [Bool.false_eq_true, if_false, List.append_nil]
      rw [hmem, h2]
      constructor
      · exact .inl
      · rintro (h | h)
        · exact h
        · exact ⟨m - 1, by omega, by rw [← he]; exact h⟩
/-- what is sorted, each but once -/
theorem once_compact (ps : List Int) : OnceIs ps (Lib.compact (ps.mergeSort fun x y => decide (x ≤ y))) := by
  have hp := List.mergeSort_perm ps (fun x y => decide (x ≤ y))
  have hs : (ps.mergeSort fun x y => decide (x ≤ y)).Pairwise (fun x y => decide (x ≤ y) = true) := List.pairwise_mergeSort (fun a b c h1 h2 => by simp at *; omega) (fun a b => by simp; omega) ps
  generalize (ps.mergeSort fun x y => decide (x ≤ y)) = zs at *
  have hs2 : ∀ i j, i ≤ j → j < zs.toArray.size → zs.toArray[i]! ≤ zs.toArray[j]! := fun i j hij hj => by
    have hj' : j < zs.length := by simpa using hj
    rcases Nat.lt_or_ge i j with h | h
    · have := List.pairwise_iff_getElem.1 hs i j (by omega) hj' h
      simp at this
      simp [List.getElem!_eq_getElem?_getD, List.getElem?_eq_getElem hj', List.getElem?_eq_getElem (show i < zs.length by omega)]
      exact this
    · rw [show i = j by omega]
      exact Int.le_refl _
  obtain ⟨h1, h2⟩ := cmp_facts zs.toArray hs2 zs.length (by simp)
  refine ⟨h1, fun x => (h2 x).trans ?_⟩
  rw [← hp.mem_iff]
  constructor
  · rintro ⟨j, hj, rfl⟩
    simp [List.getElem!_eq_getElem?_getD, List.getElem?_eq_getElem hj]
  · intro h
    obtain ⟨j, hj, e⟩ := List.getElem_of_mem h
    exact ⟨j, hj, by simp [List.getElem!_eq_getElem?_getD, List.getElem?_eq_getElem hj, e]⟩
theorem cmp_len (zs : List Int) : (Lib.compact zs).length ≤ zs.length := by
  unfold Lib.compact Lib.compactUpTo
  rw [List.length_map]
  exact Nat.le_trans (List.length_filter_le _ _) (by simp)
theorem owns_take {w : World} {base g n cap k : Nat} {e : TypeId} {xs : List Value} (h : w.ownsRow base e 1 (.slice (some ⟨g, 0, none⟩) n cap) n xs) (hk : k ≤ n) : w.ownsRow base e 1 (.slice (some ⟨g, 0, none⟩) k cap) k (xs.take k) := by
  obtain ⟨h1, h2⟩ := h
  rcases h2 with ⟨e1, _⟩ | ⟨g', cap', cur, e1, r1, r2, r3, r4, r5, r6⟩
  · cases e1
  · cases e1
    refine ⟨by rw [List.length_take]; omega, .inr ⟨g, cap, cur, rfl, r1, r2, by omega, r4, r5, ?_⟩⟩
    rw [← r6, List.take_take]
    congr 1
    omega

/-! ## slices.Sorted -/
set_option maxRecDepth 100000 in
set_option maxHeartbeats 1000000 in
theorem sorted_any (Bs cap : Nat) (a : Option Addr) (zs : List Int) (w : World) (hlen : zs.length ≤ 17592186044400) (hc : w.cell? ⟨Bs, 0, none⟩ = some (.slice a zs.length cap)) (hI : RowB w.heap.size w a zs) :
    Calls Tryz.prog 179 #[.func (.func 223) #[] #[.pointer (some ⟨Bs, 0, none⟩)]] w fun e w' => ∃ v, e = .returned v ∧ w'.ownsRow w.heap.size 3 1 v zs.length ((zs.mergeSort fun x y => decide (x ≤ y)).map (Value.int .i64)) ∧ Below w.heap.size w w' := by
  have HA := hid (collect_any Bs cap a zs w hlen hc hI)
  clear hc hI
  go_enter Tryz.func179, Tryz.ntmps179
  go_wp2_with fail
  refine HA.out.mono ?_
  rintro e w1 ⟨v, rfl, hrow, hnil, hb⟩
  have HB := hid hb
  clear HA hb
  rcases hrow.2 with ⟨rfl, hz⟩ | ⟨gb, cap', cur, rfl, hbase, hgb, r1, r2, r3, r4⟩
  · obtain rfl : zs = [] := hnil.1 rfl
    have HS := hid (Any.slices_Sort_int_none Tryz.lays189 none 0 w1)
    have HR := hid hrow
    clear hrow hnil hz
    go_wp2_with fail
    refine HS.out.mono ?_
    rintro e w2 ⟨rfl, rfl⟩
    go_wp2_with fail
    go_ret
    exact ⟨_, rfl, by simpa using HR.out, HB.out⟩
  · have hH : Holds (Value.int .i64) w1 gb 0 zs.toArray := holds_of_block_i hgb (by simpa using r4)
    have HS := hid (Tryz.sort_any gb 0 cap' zs w1 hH (Array.getElem?_eq_some_iff.1 hgb).1 (by omega))
    have HE : Hid (∀ (n : Nat) (os : Array Obj), (grow (putRow (Value.int .i64) (Sort.ahead w1 n) gb 0 (zs.mergeSort fun x y => decide (x ≤ y)).toArray) os).ownsRow w.heap.size 3 1 (.slice (some ⟨gb, 0, none⟩) zs.length cap') zs.length ((zs.mergeSort fun x y => decide (x ≤ y)).map (Value.int .i64)) ∧ Below w.heap.size w (grow (putRow (Value.int .i64) (Sort.ahead w1 n) gb 0 (zs.mergeSort fun x y => decide (x ≤ y)).toArray) os)) := fun n os =>
      ⟨ownsRow_sorted_i (by simp) hbase hgb r1 r2 r3, HB.out.grown (grownBy_sorted_i _) HB.out.size (fun j hj => by cases hj; exact hbase)⟩
    clear hrow hnil hbase hgb r1 r2 r3 r4 hH
    go_wp2_with fail
    refine HS.out.mono ?_
    rintro e w2 ⟨rfl, n, os, rfl⟩
    have HE2 := hid (HE.out n os)
    generalize grow (putRow (Value.int .i64) (Sort.ahead w1 n) gb 0 (zs.mergeSort fun x y => decide (x ≤ y)).toArray) os = W2 at *
    go_wp2_with fail
    go_ret
    exact ⟨_, rfl, HE2.out.1, HE2.out.2⟩

/-! ## slices.Compact -/
set_option maxRecDepth 100000 in
set_option maxHeartbeats 1000000 in
theorem compact_nil (w : World) : Calls Tryz.prog 137 #[.slice none 0 0] w fun e w' => e = .returned (.slice none 0 0) ∧ w' = w := by
  go_enter Tryz.func137, Tryz.ntmps137
  go_wp2
  go_ret
  exact ⟨rfl, rfl⟩
theorem compact_own (base : Nat) (v : Value) (zs : List Int) (w : World) (hlen : zs.length ≤ 17592186044400) (hv : w.ownsRow base 3 1 v zs.length (zs.map (Value.int .i64))) (hbw : base ≤ w.heap.size) :
    Calls Tryz.prog 137 #[v] w fun e w' => ∃ v', e = .returned v' ∧ w'.ownsRow base 3 1 v' (Lib.compact zs).length ((Lib.compact zs).map (Value.int .i64)) ∧ Below base w w' := by
  rcases hv.2 with ⟨rfl, hz⟩ | ⟨gb, cap', cur, rfl, hbase, hgb, r1, r2, r3, r4⟩
  · obtain rfl : zs = [] := List.eq_nil_of_length_eq_zero hz
    refine (compact_nil w).mono ?_
    rintro e w' ⟨rfl, rfl⟩
    exact ⟨_, rfl, hv, Below.refl _ _⟩
  · have hH : Holds (Value.int .i64) w gb 0 zs.toArray := holds_of_block_i hgb (by simpa using r4)
    refine (Tryz.compact_any gb 0 cap' zs w hH (by omega) r1).mono ?_
    rintro e w' ⟨rfl, q, rfl⟩
    have hl : (Lib.compact zs ++ List.replicate (zs.length - (Lib.compact zs).length) 0).length = zs.length := by
      have := cmp_len zs
      simp
      omega
    have ho := ownsRow_sorted_i (n := q) (os := #[]) hl hbase hgb r1 r2 r3
    have hg := grownBy_sorted_i (w := w) (g := gb) (n := q) (os := #[]) (Lib.compact zs ++ List.replicate (zs.length - (Lib.compact zs).length) 0).toArray
    rw [grow_empty] at ho hg
    refine ⟨_, rfl, ?_, (Below.refl _ _).grown hg hbw (fun j hj => by cases hj; exact hbase)⟩
    have := owns_take ho (cmp_len zs)
    rwa [← List.map_take, List.take_left'  rfl] at this

end Go.Proofs.YtpgnabmkfkcogaaGreatDoor
