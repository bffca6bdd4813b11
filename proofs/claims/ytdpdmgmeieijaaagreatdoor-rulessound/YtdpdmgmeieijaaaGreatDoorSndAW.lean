/- slices.Sorted of slices.Values, slices.Compact: the places once each, ascending. Package rules: all cells of the steps that rows show, ascending, each once. Package rules: holes. Package rules: fillHoles. Package rules and its reference: what shows that something is not 0. Package rules: a row that shows one step. -/
import Derived.Shelf.Slices.In.SortNone
import Derived.Lib.SlKeysI
import Derived.Test.YtdpdmgmeieijaaaGreatDoorSndAS
import Derived.Test.YtdpdmgmeieijaaaGreatDoorSndAV
import Derived.Test.YtdpdmgmeieijaaaGreatDoorSndAR
import Derived.Test.YtdpdmgmeieijaaaGreatDoorFld
import Derived.Test.YtdpdmgmeieijaaaGreatDoorSndAO
import Derived.Laws.CopyOwn
import Derived.Deep.RegionLaw
namespace Go.Proofs.YtdpdmgmeieijaaaGreatDoor
open Go.RowKit Go.Sort

/-! ## plain -/
theorem cmp_succ (d : Array Int) (m : Nat) : Lib.compactUpTo d (m + 1) = Lib.compactUpTo d m ++ (if Lib.keeps d m then [d[m]!] else []) := by
  unfold Lib.compactUpTo
  rw [List.range_succ, List.filter_append, List.map_append]
  congr 1
  cases h : Lib.keeps d m <;> simp [h]
theorem cmp_facts (d : Array Int) (hs : ∀ i j, i ≤ j → j < d.size → d[i]! ≤ d[j]!) : ∀ m, m ≤ d.size → (Lib.compactUpTo d m).Pairwise (· < ·) ∧ (∀ x, x ∈ Lib.compactUpTo d m ↔ ∃ j, j < m ∧ d[j]! = x)
  | 0, _ => ⟨by simp [Lib.compactUpTo], fun x => by simp [Lib.compactUpTo]⟩
  | m + 1, h => by
    obtain ⟨h1, h2⟩ := cmp_facts d hs m (by omega)
    rw [cmp_succ]
    have hmem : ∀ x, (∃ j, j < m + 1 ∧ d[j]! = x) ↔ (∃ j, j < m ∧ d[j]! = x) ∨ d[m]! = x := fun x => by
      constructor
      · rintro ⟨j, hj, e⟩
        rcases Nat.lt_or_ge j m with h' | h'
        · exact .inl ⟨j, h', e⟩
        · rw [show j = m by omega] at e
          exact .inr e
      · rintro (⟨j, hj, e⟩ | e)
        · exact ⟨j, by omega, e⟩
        · exact ⟨m, by omega, e⟩
    cases hk : Lib.keeps d m with
    | true =>
      refine ⟨?_, fun x => ?_⟩
      · simp only [if_true]
        refine List.pairwise_append.2 ⟨h1, by simp, fun a ha b hb => ?_⟩
        simp only [List.mem_singleton] at hb
        subst hb
        obtain ⟨j, hj, rfl⟩ := (h2 a).1 ha
        have hne : d[m]! ≠ d[m - 1]! := fun e => by
          rw [Lib.keeps_neg (by omega) e] at hk
          cases hk
        have a1 := hs j (m - 1) (by omega) (by omega)
        have a2 := hs (m - 1) m (by omega) (by omega)
        omega
      · simp only [if_true, List.mem_append, List.mem_singleton]
        rw [hmem, h2]
        constructor
        · rintro (h | h)
          · exact .inl h
          · exact .inr h.symm
        · rintro (h | h)
          · exact .inl h
          · exact .inr h.symm
    | false =>
      have hm : 0 < m := by
        rcases Nat.eq_zero_or_pos m with e | e
        · rw [e, Lib.keeps_lt_one d 0 (by omega)] at hk
          cases hk
        · exact e
      have he : d[m]! = d[m - 1]! := by
        rcases Classical.em (d[m]! = d[m - 1]!) with e | e
        · exact e
        · rw [Lib.keeps_pos e] at hk
          cases hk
      refine ⟨by simpa using h1, fun x => ?_⟩
      simp only [Bool.false_eq_true, if_false, List.append_nil]
      rw [hmem, h2]
      constructor
      · exact .inl
      · rintro (h | h)
        · exact h
        · exact ⟨m - 1, by omega, by rw [← he]; exact h⟩
/-- what is sorted, each but once -/
theorem once_compact (ps : List Int) : OnceIs ps (Lib.compact (ps.mergeSort fun x y => decide (x ≤ y))) := by
  have hp := List.mergeSort_perm ps (fun x y => decide (x ≤ y))
  have hs : (ps.mergeSort fun x y => decide (x ≤ y)).Pairwise (fun x y => decide (x ≤ y) = true) := List.pairwise_mergeSort (fun a b c h1 h2 => by simp at *; omega) (fun a b => by simp; omega) ps
  generalize (ps.mergeSort fun x y => decide (x ≤ y)) = zs at *
  have hs2 : ∀ i j, i ≤ j → j < zs.toArray.size → zs.toArray[i]! ≤ zs.toArray[j]! := fun i j hij hj => by
    have hj' : j < zs.length := by simpa using hj
    rcases Nat.lt_or_ge i j with h | h
    · have := List.pairwise_iff_getElem.1 hs i j (by omega) hj' h
      simp at this
      simp [List.getElem!_eq_getElem?_getD, List.getElem?_eq_getElem hj', List.getElem?_eq_getElem (show i < zs.length by omega)]
      exact this
    · rw [show i = j by omega]
      exact Int.le_refl _
  obtain ⟨h1, h2⟩ := cmp_facts zs.toArray hs2 zs.length (by simp)
  refine ⟨h1, fun x => (h2 x).trans ?_⟩
  rw [← hp.mem_iff]
  constructor
  · rintro ⟨j, hj, rfl⟩
    simp [List.getElem!_eq_getElem?_getD, List.getElem?_eq_getElem hj]
  · intro h
    obtain ⟨j, hj, e⟩ := List.getElem_of_mem h
    exact ⟨j, hj, by simp [List.getElem!_eq_getElem?_getD, List.getElem?_eq_getElem hj, e]⟩
theorem cmp_len (zs : List Int) : (Lib.compact zs).length ≤ zs.length := by
  unfold Lib.compact Lib.compactUpTo
  rw [List.length_map]
  exact Nat.le_trans (List.length_filter_le _ _) (by simp)
theorem owns_take {w : World} {base g n cap k : Nat} {e : TypeId} {xs : List Value} (h : w.ownsRow base e 1 (.slice (some ⟨g, 0, none⟩) n cap) n xs) (hk : k ≤ n) : w.ownsRow base e 1 (.slice (some ⟨g, 0, none⟩) k cap) k (xs.take k) := by
  obtain ⟨h1, h2⟩ := h
  rcases h2 with ⟨e1, _⟩ | ⟨g', cap', cur, e1, r1, r2, r3, r4, r5, r6⟩
  · cases e1
  · cases e1
    refine ⟨by rw [List.length_take]; omega, .inr ⟨g, cap, cur, rfl, r1, r2, by omega, r4, r5, ?_⟩⟩
    rw [← r6, List.take_take]
    congr 1
    omega

/-! ## slices.Compact -/
set_option maxRecDepth 100000 in
set_option maxHeartbeats 1000000 in
theorem compact_nil (w : World) : Calls Tryz.prog 61 #[.slice none 0 0] w fun e w' => e = .returned (.slice none 0 0) ∧ w' = w := by
  go_enter Tryz.func61, Tryz.ntmps61
  go_wp2
  go_ret
  exact ⟨rfl, rfl⟩
theorem compact_own (base : Nat) (v : Value) (zs : List Int) (w : World) (hlen : zs.length ≤ 17592186044400) (hv : w.ownsRow base 3 1 v zs.length (zs.map (Value.int .i64))) (hbw : base ≤ w.heap.size) :
    Calls Tryz.prog 61 #[v] w fun e w' => ∃ v', e = .returned v' ∧ w'.ownsRow base 3 1 v' (Lib.compact zs).length ((Lib.compact zs).map (Value.int .i64)) ∧ Below base w w' := by
  rcases hv.2 with ⟨rfl, hz⟩ | ⟨gb, cap', cur, rfl, hbase, hgb, r1, r2, r3, r4⟩
  · obtain rfl : zs = [] := List.eq_nil_of_length_eq_zero hz
    refine (compact_nil w).mono ?_
    rintro e w' ⟨rfl, rfl⟩
    exact ⟨_, rfl, hv, Below.refl _ _⟩
  · have hH : Holds (Value.int .i64) w gb 0 zs.toArray := holds_of_block_i hgb (by simpa using r4)
    refine (Tryz.compact_any gb 0 cap' zs w hH (by omega) r1).mono ?_
    rintro e w' ⟨rfl, q, rfl⟩
    have hl : (Lib.compact zs ++ List.replicate (zs.length - (Lib.compact zs).length) 0).length = zs.length := by
      have := cmp_len zs
      simp
      omega
    have ho := ownsRow_sorted_i (n := q) (os := #[]) hl hbase hgb r1 r2 r3
    have hg := grownBy_sorted_i (w := w) (g := gb) (n := q) (os := #[]) (Lib.compact zs ++ List.replicate (zs.length - (Lib.compact zs).length) 0).toArray
    rw [grow_empty] at ho hg
    refine ⟨_, rfl, ?_, (Below.refl _ _).grown hg hbw (fun j hj => by cases hj; exact hbase)⟩
    have := owns_take ho (cmp_len zs)
    rwa [← List.map_take, List.take_left'  rfl] at this

end Go.Proofs.YtdpdmgmeieijaaaGreatDoor

namespace Go.Proofs.YtdpdmgmeieijaaaGreatDoor
open Go.RowKit Go.Sort

/-- the cells of a row's step -/
def rc3 (r : List Int) : List Int := [zat r 3, zat r 4, zat r 5]
/-- all cells of the steps that rows show -/
def allc (R : List (List Int)) : List Int := R.flatMap rc3
theorem allc_take (R : List (List Int)) (k : Nat) (h : k < R.length) : allc (R.take (k + 1)) = allc (R.take k) ++ rc3 (rat R k) := by
  unfold allc
  rw [List.take_succ_eq_append_getElem h, List.flatMap_append]
  simp [rat, h]
theorem allc_len (R : List (List Int)) : (allc R).length = 3 * R.length := by
  unfold allc
  induction R with
  | nil => rfl
  | cons r s ih => rw [List.flatMap_cons, List.length_append, ih]; simp [rc3]; omega
/-- .. ascending, each once -/
def ascC (R : List (List Int)) : List Int := Lib.compact ((allc R).mergeSort fun x y => decide (x ≤ y))

set_option maxRecDepth 100000 in
set_option maxHeartbeats 2000000 in
theorem pascending_any (c : Nat) (a : Option Addr) (R : List (List Int)) (w : World) (hn : R.length ≤ 100000) (h20 : ∀ k, k < R.length → 20 ≤ (rat R k).length ∧ (rat R k).length ≤ 100000) (hL : LstR w.heap.size w a c R) :
    Calls Tryz.prog 45 #[.slice a R.length c] w fun e w' => ∃ v, e = .returned v ∧ w'.ownsRow w.heap.size 3 1 v (ascC R).length ((ascC R).map (Value.int .i64)) ∧ Below w.heap.size w w' := by
  obtain ⟨i0, hi, hz0, hz1, hz2⟩ := info_parts (show (Tryz.prog.info? 3).map (fun i => (i.zero, i.size, i.bytes)) = some (some (.int .i64 0), 1, 8) by kernel_rfl)
  have HL := hid hL
  have H20 := hid h20
  obtain ⟨n, hn'⟩ : ∃ n, n = R.length := ⟨_, rfl⟩
  have HN := hid hn'
  rw [← hn'] at hn ⊢
  clear hL hn' h20
  go_enter Tryz.func45, Tryz.ntmps45
  go_wp2_with fail
  go_loopw [3, 8] (fun cv iv wr => ∃ k : Nat, k ≤ n ∧ iv = .int .i64 k ∧ Hid (wr.ownsRow w.heap.size 3 1 cv (allc (R.take k)).length ((allc (R.take k)).map (Value.int .i64))) ∧ Hid (Below w.heap.size w wr)) (fun _ iv _ => n - (intOf iv).toNat)
  case atStart => exact ⟨0, Nat.zero_le _, rfl, World.ownsRow_nil _ _ _ _, Below.refl _ _⟩
  case round =>
    obtain ⟨k, hk, rfl, HO, HBw⟩ := hrel
    by_cases hlt : k < n
    · have hlt2 : (k : Int) < (n : Int) := by omega
      have hks : IntKind.i64.wrap ((k : Int) + 1) = (k : Int) + 1 := by rw [IntKind.wrap_i64]; omega
      have hkR : k < R.length := by have := HN.out; omega
      obtain ⟨b, o, ak, ck, rfl, hb, c0, hlk⟩ := HL.out.row k hkR
      replace c0 := (HBw.out.cell (p := ⟨b, o + k, none⟩) hb).trans c0
      have h20 := H20.out k hkR
      have hroom := hlk.room
      obtain ⟨g, q, rfl, hg, d3⟩ := hlk.row 3 (by omega)
      obtain ⟨g', q', e1, _, d4⟩ := hlk.row 4 (by omega)
      injection e1 with e1; injection e1 with e1 e2; subst e1 e2
      obtain ⟨g', q', e1, _, d5⟩ := hlk.row 5 (by omega)
      injection e1 with e1; injection e1 with e1 e2; subst e1 e2
      replace d3 := (HBw.out.cell (p := ⟨g, q + 3, none⟩) hg).trans d3
      replace d4 := (HBw.out.cell (p := ⟨g, q + 4, none⟩) hg).trans d4
      replace d5 := (HBw.out.cell (p := ⟨g, q + 5, none⟩) hg).trans d5
      have HA := hid (allc_take R k hkR)
      have hown := HO.out
      have hlen : (allc (R.take k)).length ≤ 300000 := by rw [allc_len, List.length_take]; omega
      have hm6 : (6 : Int) ≤ (ck : Int) := by omega
      clear hlk
      generalize (rat R k).length = m at *
      go_wp2_with (at_builtin; refine wpList_append_own _ rfl _ _ 49 rfl w.heap.size 3 i0 (.int .i64 0) 1 8 Tryz.underlying49 hi hz0 hz1 hz2 rfl (by decide) _ _ _ rfl hown ⟨g, q + 3, none⟩ 3 (ck - 3) [.int .i64 (zat (rat R k) 3), .int .i64 (zat (rat R k) 4), .int .i64 (zat (rat R k) 5)] ?c0 rfl ?c1 ?c2 ?c3 ?c4 ?c5 ?_)
      case c1 =>
        intro j u hj
        match j, hj with
        | 0, hj => simp at hj; subst hj; simpa using d3
        | 1, hj => simp at hj; subst hj; simpa [Nat.add_assoc] using d4
        | 2, hj => simp at hj; subst hj; simpa [Nat.add_assoc] using d5
      case c2 => exact ⟨rfl, rfl, rfl⟩
      case c3 => unfold maxLen; omega
      case c4 => omega
      case c5 => exact HBw.out.size
      intro v' w5 hown2 hgrow _
      have HO5 : Hid (w5.ownsRow w.heap.size 3 1 v' (allc (R.take (k + 1))).length ((allc (R.take (k + 1))).map (Value.int .i64))) := by
        unfold Hid
        rw [HA.out, List.map_append, List.length_append]
        exact hown2
      have HB5 : Hid (Below w.heap.size w w5) := HBw.out.grown hgrow HBw.out.size (fun b hb => (hown.lt b hb).1)
      clear hown hown2 hgrow HO HBw HA d3 d4 d5 c0
      go_wp2_with fail
      go_roundw
      case rel => exact ⟨k + 1, by omega, by go_num, HO5, HB5⟩
      case measure => simp [intOf]; omega
    · obtain rfl : k = n := by omega
      have HRl : Hid (R.take k = R) := by unfold Hid; rw [HN.out]; exact List.take_length
      have hrow := HO.out
      rw [HRl.out] at hrow
      have hlen : (allc R).length ≤ 300000 := by rw [allc_len, ← HN.out]; omega
      have HB := hid HBw.out
      clear HO HBw HL H20
      rcases hrow.2 with ⟨rfl, hz⟩ | ⟨gb, cap', cur, rfl, hbase, hgb, r1, r2, r3, r4⟩
      · have hz' : allc R = [] := List.eq_nil_of_length_eq_zero hz
        have HS := hid (Any.slices_Sort_int_none Tryz.lays189 none 0 wr)
        have HC := hid (compact_nil wr)
        have hasc : ascC R = [] := by unfold ascC; rw [hz', List.mergeSort_nil]; rfl
        have HAS := hid hasc
        clear hrow hz hz' hlen hasc
        go_wp2_with fail
        refine HS.out.mono ?_
        rintro e w2 ⟨rfl, rfl⟩
        go_wp2_with fail
        refine HC.out.mono ?_
        rintro e w3 ⟨rfl, rfl⟩
        go_wp2_with fail
        go_ret
        exact ⟨_, rfl, by rw [HAS.out]; exact World.ownsRow_nil _ _ _ _, HB.out⟩
      · have hH : Holds (Value.int .i64) wr gb 0 (allc R).toArray := holds_of_block_i hgb (by simpa using r4)
        have HS := hid (Tryz.sort_any gb 0 cap' (allc R) wr hH (Array.getElem?_eq_some_iff.1 hgb).1 (by omega))
        have HE : Hid (∀ (n : Nat) (os : Array Obj), (Sort.grow (putRow (Value.int .i64) (Sort.ahead wr n) gb 0 ((allc R).mergeSort fun x y => decide (x ≤ y)).toArray) os).ownsRow w.heap.size 3 1 (.slice (some ⟨gb, 0, none⟩) (allc R).length cap') (allc R).length (((allc R).mergeSort fun x y => decide (x ≤ y)).map (Value.int .i64)) ∧ Below w.heap.size w (Sort.grow (putRow (Value.int .i64) (Sort.ahead wr n) gb 0 ((allc R).mergeSort fun x y => decide (x ≤ y)).toArray) os)) := fun n os =>
          ⟨ownsRow_sorted_i (by simp) hbase hgb r1 r2 r3, HB.out.grown (grownBy_sorted_i _) HB.out.size (fun j hj => by cases hj; exact hbase)⟩
        have hml : ((allc R).mergeSort fun x y => decide (x ≤ y)).length = (allc R).length := by simp
        clear hrow hbase hgb r1 r2 r3 r4 hH
        obtain ⟨m, hm⟩ : ∃ m, m = (allc R).length := ⟨_, rfl⟩
        have HM := hid hm
        rw [← hm] at HS HE hml hlen ⊢
        have HML := hid hml
        clear hm hml
        go_wp2_with fail
        refine HS.out.mono ?_
        rintro e w2 ⟨rfl, n, os, rfl⟩
        have HE2 := hid (HE.out n os)
        generalize Sort.grow (putRow (Value.int .i64) (Sort.ahead wr n) gb 0 ((allc R).mergeSort fun x y => decide (x ≤ y)).toArray) os = W2 at *
        have HC := hid (compact_own w.heap.size (.slice (some ⟨gb, 0, none⟩) m cap') ((allc R).mergeSort fun x y => decide (x ≤ y)) W2 (by rw [HML.out]; omega) (by rw [HML.out]; exact HE2.out.1) HE2.out.2.size)
        go_wp2_with fail
        refine HC.out.mono ?_
        rintro e w3 ⟨v', rfl, ho3, hb3⟩
        have HO3 := hid ho3
        have HB3 := hid (HE2.out.2.trans (hb3.mono (Nat.le_refl _)))
        clear ho3 hb3
        go_wp2_with fail
        go_ret
        exact ⟨_, rfl, HO3.out, HB3.out⟩

end Go.Proofs.YtdpdmgmeieijaaaGreatDoor

namespace Go.Proofs.YtdpdmgmeieijaaaGreatDoor
open Go.RowKit

theorem rows_ext {R S : List (List Int)} (h : R.length = S.length) (k : ∀ j, j < R.length → rat R j = rat S j) : R = S := by
  apply List.ext_getElem h
  intro j h1 h2
  have := k j h1
  simpa [rat, h1, h2] using this
/-- the numbers from x to ahead of y -/
def gap (x y : Int) : List Int := (List.range (y - x).toNat).map fun j : Nat => x + (j : Int)
theorem gap_none {x y : Int} (h : y ≤ x) : gap x y = [] := by
  unfold gap
  rw [show (y - x).toNat = 0 by omega]
  rfl
theorem gap_step {x y : Int} (h : x < y) : gap x y = x :: gap (x + 1) y := by
  unfold gap
  rw [show (y - x).toNat = (y - (x + 1)).toNat + 1 by omega, List.range_succ_eq_map, List.map_cons, List.map_map]
  congr 1
  · simp
  · apply List.map_congr_left
    intro j _
    simp only [Function.comp, Nat.succ_eq_add_one]
    omega
theorem gap_mem {x y z : Int} : z ∈ gap x y ↔ x ≤ z ∧ z < y := by
  unfold gap
  rw [List.mem_map]
  constructor
  · rintro ⟨j, hj, rfl⟩
    rw [List.mem_range] at hj
    omega
  · rintro ⟨h1, h2⟩
    exact ⟨(z - x).toNat, by rw [List.mem_range]; omega, by omega⟩
theorem gap_split {x y z : Int} (h1 : x ≤ y) (h2 : y < z) : gap x z = gap x y ++ y :: gap (y + 1) z := by
  obtain ⟨n, hn⟩ : ∃ n, n = (y - x).toNat := ⟨_, rfl⟩
  induction n generalizing x with
  | zero => obtain rfl : x = y := by omega
            rw [gap_none (Int.le_refl _), gap_step h2]; rfl
  | succ n ih => rw [gap_step (show x < z by omega), gap_step (show x < y by omega), ih (by omega) (by omega)]; rfl
/-- the holes of cells that ascend, from x on -/
def hol : List Int → Int → List Int
  | [], _ => []
  | a :: os, x => gap x a ++ hol os (a + 1)
/-- the holes are what lies below the last one and isn't there -/
theorem hol_filter : ∀ (os : List Int) (x t : Int), os.Pairwise (· < ·) → (∀ a, a ∈ os → x ≤ a) → (os = [] → t ≤ x) → (∀ a, a ∈ os → a ≤ t) → (os ≠ [] → t ∈ os) → hol os x = (gap x t).filter fun a => !decide (a ∈ os)
  | [], x, t, _, _, h0, _, _ => by rw [gap_none (h0 rfl)]; rfl
  | a :: os, x, t, hp, hx, _, hle, ht => by
    rw [List.pairwise_cons] at hp
    have hax := hx a (by simp)
    have hat := hle a (by simp)
    have hrest : hol os (a + 1) = (gap (a + 1) t).filter fun z => !decide (z ∈ os) := by
      by_cases ho : os = []
      · subst ho
        have : t = a := by simpa using ht (by simp)
        rw [gap_none (by omega)]; rfl
      · refine hol_filter os (a + 1) t hp.2 (fun z hz => by have := hp.1 z hz; omega) (fun e => absurd e ho) (fun z hz => hle z (by simp [hz])) (fun _ => ?_)
        have h1 := ht (by simp)
        rcases List.mem_cons.1 h1 with e | e
        · obtain ⟨z, hz⟩ := List.exists_mem_of_ne_nil os ho
          have h2 := hp.1 z hz
          have h3 := hle z (by simp [hz])
          omega
        · exact e
    rw [hol, hrest]
    have hl : (gap x a).filter (fun z => !decide (z ∈ a :: os)) = gap x a := by
      rw [List.filter_eq_self]
      intro z hz
      have hz' := gap_mem.1 hz
      have : z ∉ a :: os := fun h => by
        rcases List.mem_cons.1 h with e | e
        · omega
        · have := hp.1 z e; omega
      simp only [this, decide_false, Bool.not_false]
    have hr : (gap (a + 1) t).filter (fun z => !decide (z ∈ a :: os)) = (gap (a + 1) t).filter fun z => !decide (z ∈ os) := by
      apply List.filter_congr
      intro z hz
      have hz' := gap_mem.1 hz
      have : (z ∈ a :: os) ↔ z ∈ os := by
        rw [List.mem_cons]
        constructor
        · rintro (e | e)
          · omega
          · exact e
        · exact Or.inr
      simp only [this]
    by_cases e : a = t
    · subst e
      rw [← hl, gap_none (show a ≤ a + 1 by omega)]
      simp
    · rw [gap_split hax (show a < t by omega), List.filter_append, hl, List.filter_cons]
      simp only [List.mem_cons, true_or, decide_true, Bool.not_true, Bool.false_eq_true, if_false]
      rw [← hr]
      simp only [List.mem_cons]

/-- holes written into rows -/
def fillH (R : List (List Int)) (hs : List Int) : List (List Int) := (List.range R.length).map fun k => if k < hs.length then (rat R k).set 6 (zat hs k) else rat R k
theorem fillH_len (R : List (List Int)) (hs : List Int) : (fillH R hs).length = R.length := by simp [fillH]
theorem fillH_rat {R : List (List Int)} {hs : List Int} {k : Nat} (hk : k < R.length) : rat (fillH R hs) k = if k < hs.length then (rat R k).set 6 (zat hs k) else rat R k := by
  simp [fillH, rat, hk]
theorem fillH_row_len {R : List (List Int)} {hs : List Int} {k : Nat} (hk : k < R.length) : (rat (fillH R hs) k).length = (rat R k).length := by
  rw [fillH_rat hk]; split <;> simp
theorem fillH_none (R : List (List Int)) : fillH R [] = R := rows_ext (fillH_len R []) fun j hj => by
  rw [fillH_len] at hj
  rw [fillH_rat hj, if_neg (by simp)]
theorem fillH_more (R : List (List Int)) (hs : List Int) (x : Int) (h : hs.length < R.length) : put (fillH R hs) hs.length 6 x = fillH R (hs ++ [x]) := by
  have h' : hs.length < (fillH R hs).length := by rw [fillH_len]; exact h
  refine rows_ext (by rw [put_len, fillH_len, fillH_len]) fun j hj => ?_
  rw [put_len, fillH_len] at hj
  rw [put_rat h', fillH_rat hj, fillH_rat hj, fillH_rat h]
  by_cases e : j = hs.length
  · subst e
    rw [if_pos rfl, if_neg (by omega), if_pos (by simp)]
    congr 1
    simp [zat]
  · rw [if_neg e]
    by_cases e2 : j < hs.length
    · rw [if_pos e2, if_pos (by simp; omega)]
      congr 1
      simp [zat, List.getElem?_append_left e2]
    · rw [if_neg e2, if_neg (by simp; omega)]

end Go.Proofs.YtdpdmgmeieijaaaGreatDoor

namespace Go.Proofs.YtdpdmgmeieijaaaGreatDoor
open Go.RowKit

/-- what fillHoles has done: pre is written, rest is still to come -/
structure FhS (base G : Nat) (K : Nat → Nat) (R : List (List Int)) (hs pre rest : List Int) (w wr : World) : Prop where
  tbl : Tbl base G K wr (fillH R pre)
  all : hs = pre ++ rest
  few : pre.length ≤ R.length
  bel : Below base w wr
theorem FhS.put {base G : Nat} {K : Nat → Nat} {R : List (List Int)} {hs pre rest : List Int} {x : Int} {w wr : World} (h : FhS base G K R hs pre (x :: rest) w wr) (hk : pre.length < R.length) (h20 : 20 ≤ (rat R pre.length).length) : FhS base G K R hs (pre ++ [x]) rest w (wr.setCell ⟨K pre.length, 6, none⟩ (.int .i64 x)) := by
  have hk' : pre.length < (fillH R pre).length := by rw [fillH_len]; exact hk
  refine ⟨?_, by rw [h.all]; simp, by simp; omega, h.tbl.put_below h.bel (Nat.le_refl _) x hk'⟩
  rw [← fillH_more R pre x hk]
  exact h.tbl.put x hk' (by rw [fillH_row_len hk]; omega)
theorem zat_getR (l : List Int) (j : Nat) (h : j < l.length) : zat l j = l[j] := by simp [zat, h]

set_option maxRecDepth 100000 in
set_option maxHeartbeats 4000000 in
theorem pholes_any (base G : Nat) (K : Nat → Nat) (R : List (List Int)) (w : World) (hn : R.length ≤ 100000) (h20 : ∀ k, k < R.length → 20 ≤ (rat R k).length ∧ (rat R k).length ≤ 100000) (hb : base ≤ w.heap.size) (hT : Tbl base G K w R)
    (hpos : ∀ x, x ∈ allc R → 0 ≤ x ∧ x ≤ 2147483647) :
    Calls Tryz.prog 26 #[.slice (some ⟨G, 0, none⟩) R.length R.length] w fun e w' => Below base w w' ∧ ((R.length < (hol (ascC R) 0).length ∧ e = .returned (.bool false)) ∨ ((hol (ascC R) 0).length ≤ R.length ∧ e = .returned (.bool true) ∧ Tbl base G K w' (fillH R (hol (ascC R) 0)))) := by
  have hon := once_compact (allc R)
  have hpos2 : ∀ x, x ∈ ascC R → 0 ≤ x ∧ x ≤ 2147483647 := fun x hx => hpos x ((hon.2 x).1 hx)
  have HAC := hid (pascending_any R.length (some ⟨G, 0, none⟩) R w hn h20 (hT.lst (Nat.le_refl _)))
  have hlos : (ascC R).length ≤ 300000 := by
    have h1 : (ascC R).length ≤ ((allc R).mergeSort fun x y => decide (x ≤ y)).length := cmp_len _
    have h2 : ((allc R).mergeSort fun x y => decide (x ≤ y)).length = (allc R).length := by simp
    rw [h2, allc_len] at h1
    omega
  generalize ascC R = os at *
  have HT := hid hT
  have H20 := hid h20
  have HPS := hid hpos2
  have HBS := hid hb
  have HKW : Hid (∀ k, k < R.length → K k < w.heap.size) := fun k hk => (hT.row k hk).lt
  obtain ⟨n, hn'⟩ : ∃ n, n = R.length := ⟨_, rfl⟩
  have HN := hid hn'
  rw [← hn'] at hn HAC ⊢
  clear hon hpos hpos2 hT h20 hn' hb
  go_enter Tryz.func26, Tryz.ntmps26
  go_wp2_with fail
  refine HAC.out.mono ?_
  rintro e w1 ⟨v, rfl, ho1, hb1⟩
  obtain ⟨ao, co, rfl, hlo⟩ := lst_of_owns ho1
  have HV : Hid (∀ i, i < os.length → ∃ g, ao = some ⟨g, 0, none⟩ ∧ w.heap.size ≤ g ∧ g < w1.heap.size ∧ w1.cell? ⟨g, i, none⟩ = some (.int .i64 (zat os i))) := fun i hi => by
    obtain ⟨g, o, e1, h2, h3⟩ := hlo.row i hi
    rcases ho1.2 with ⟨e2, h4⟩ | ⟨g', cap, cur, e2, hbs, _⟩
    · omega
    · injection e2 with e2
      rw [e1] at e2
      injection e2 with e2
      injection e2 with e2 e3
      subst e2 e3
      exact ⟨g, e1, hbs, h2, by simpa using h3⟩
  have HFS : Hid (FhS base G K R (hol os 0) [] (hol (os.drop 0) 0) w w1) := by
    refine ⟨?_, by simp, Nat.zero_le _, hb1.mono HBS.out⟩
    rw [fillH_none]
    exact HT.out.below hb1 (Nat.le_refl _)
  obtain ⟨no, hno⟩ : ∃ no, no = os.length := ⟨_, rfl⟩
  have HNO := hid hno
  rw [← hno] at hlos ⊢
  clear ho1 hlo hb1 HAC HT hno
  go_wp2_with fail
  go_loopw [3, 4, 10] (fun fv nv iv wr => ∃ (i : Nat) (pre : List Int) (x : Int), i ≤ no ∧ iv = .int .i64 i ∧ fv = .int .i64 (pre.length : Int) ∧ nv = .int .i64 x ∧ 0 ≤ x ∧ x ≤ 2147483648 ∧ Hid (FhS base G K R (hol os 0) pre (hol (os.drop i) x) w wr) ∧ Hid (∀ g, w.heap.size ≤ g → g < w1.heap.size → wr.heap[g]? = w1.heap[g]?)) (fun _ _ iv _ => no - (intOf iv).toNat)
  case atStart => exact ⟨0, [], 0, Nat.zero_le _, rfl, rfl, rfl, by omega, by omega, HFS, fun _ _ _ => rfl⟩
  case round =>
    obtain ⟨i, pre, x, hi, rfl, rfl, rfl, hx0, hx1, HF, HK⟩ := hrel
    by_cases hlt : i < no
    · have hlt2 : (i : Int) < (no : Int) := by omega
      have his : IntKind.i64.wrap ((i : Int) + 1) = (i : Int) + 1 := by rw [IntKind.wrap_i64]; omega
      have hios : i < os.length := by have := HNO.out; omega
      obtain ⟨g, rfl, hg1, hg2, c0⟩ := HV.out i hios
      replace c0 := (World.cell?_of_block (w := w1) (a := ⟨g, i, none⟩) (HK.out g hg1 hg2)).trans c0
      have hat := HPS.out (zat os i) (by rw [zat_getR os i hios]; exact List.getElem_mem hios)
      have HDR : Hid (hol (os.drop i) x = gap x (zat os i) ++ hol (os.drop (i + 1)) (zat os i + 1)) := by
        unfold Hid
        rw [List.drop_eq_getElem_cons hios, hol, ← zat_getR os i hios]
      rw [HDR.out] at HF
      generalize zat os i = at' at *
      clear HDR
      have hatw : IntKind.i64.wrap (at' + 1) = at' + 1 := by rw [IntKind.wrap_i64]; omega
      go_wp2_with fail
      go_loopw [3, 4] (fun fv nv wr => ∃ (pre : List Int) (x : Int), fv = .int .i64 (pre.length : Int) ∧ nv = .int .i64 x ∧ 0 ≤ x ∧ x ≤ 2147483648 ∧ Hid (FhS base G K R (hol os 0) pre (gap x at' ++ hol (os.drop (i + 1)) (at' + 1)) w wr) ∧ Hid (∀ g, w.heap.size ≤ g → g < w1.heap.size → wr.heap[g]? = w1.heap[g]?)) (fun _ nv _ => (at' - intOf nv).toNat)
      case atStart => exact ⟨pre, x, rfl, rfl, hx0, hx1, HF, HK⟩
      case round =>
        clear HF HK hx0 hx1 c0
        obtain ⟨pre, x, rfl, rfl, hx0, hx1, HF, HK⟩ := hrel
        by_cases hxa : x < at'
        · have hxs : IntKind.i64.wrap (x + 1) = x + 1 := by rw [IntKind.wrap_i64]; omega
          have hfew := HF.out.few
          rw [← HN.out] at hfew
          by_cases hful : pre.length = n
          · have hfu : (((pre.length : Nat) : Int) == (n : Int)) = true := by simp [hful]
            have HE : Hid (Below base w wr ∧ n < (hol os 0).length) := by
              refine ⟨HF.out.bel, ?_⟩
              rw [HF.out.all, gap_step hxa]
              simp
              omega
            clear hful
            go_wp2_with fail
            go_ret
            exact ⟨HE.out.1, .inl ⟨HE.out.2, rfl⟩⟩
          · have hfu : (((pre.length : Nat) : Int) == (n : Int)) = false := by simp; omega
            have hpl : pre.length < R.length := by have := HN.out; omega
            have hln : (pre.length : Int) < (n : Int) := by omega
            have hps : IntKind.i64.wrap ((pre.length : Int) + 1) = (pre.length : Int) + 1 := by rw [IntKind.wrap_i64]; omega
            have h20 := H20.out pre.length hpl
            have hF := HF.out
            rw [gap_step hxa, List.cons_append] at hF
            have hPT := hF.put hpl h20.1
            have hpl' : pre.length < (fillH R pre).length := by rw [fillH_len]; exact hpl
            have c1 := hF.tbl.out pre.length hpl'
            have hrl := fillH_row_len (hs := pre) hpl
            have c2 := (hF.tbl.row pre.length hpl').cells 6 (by rw [hrl]; omega)
            have c3 := (hF.tbl.row pre.length hpl').soft 6
            have hKn := hid (HKW.out pre.length hpl)
            have HPT := hid hPT
            have HKP : Hid (∀ g, w.heap.size ≤ g → g < w1.heap.size → (wr.setCell ⟨K pre.length, 6, none⟩ (.int .i64 x)).heap[g]? = w1.heap[g]?) := fun g h1 h2 => (Below.heap_setCell _ _ _ _ (Nat.ne_of_gt (Nat.lt_of_lt_of_le hKn.out h1))).trans (HK.out g h1 h2)
            rw [hrl] at c1
            generalize (rat R pre.length).length = rl at *
            obtain ⟨m, hm⟩ : ∃ m, m = pre.length := ⟨_, rfl⟩
            have HM := hid hm
            rw [← hm] at c1 c2 c3 hfu hln hps HPT HKP ⊢
            generalize K m = km at *
            generalize zat (rat (fillH R pre) m) 6 = old at *
            clear hF hPT hm hrl hKn hpl hpl' HF HK hful hfew
            go_wp2_with fail
            go_roundw
            case rel => exact ⟨pre ++ [x], x + 1, by rw [List.length_append, ← HM.out]; go_num, by go_num, by omega, by omega, HPT, HKP⟩
            case measure => simp [intOf]; omega
        · have HG : Hid (FhS base G K R (hol os 0) pre (hol (os.drop (i + 1)) (at' + 1)) w wr) := by
            have := HF.out
            rw [gap_none (by omega)] at this
            exact this
          clear HF
          go_wp2_with fail
          go_roundw
          case rel => exact ⟨i + 1, pre, at' + 1, by omega, by go_num, rfl, by go_num, by omega, by omega, HG, HK⟩
          case measure => simp [intOf]; omega
    · obtain rfl : i = no := by omega
      have HD : Hid (FhS base G K R (hol os 0) pre [] w wr) := by
        have := HF.out
        rw [HNO.out, List.drop_length] at this
        exact this
      clear HF
      go_wp2_with fail
      go_ret
      have h := HD.out
      have ha : hol os 0 = pre := by rw [h.all]; simp
      exact ⟨h.bel, .inr ⟨by rw [ha, HN.out]; exact h.few, rfl, by rw [ha]; exact h.tbl⟩⟩

end Go.Proofs.YtdpdmgmeieijaaaGreatDoor

namespace Go.Proofs.YtdpdmgmeieijaaaGreatDoor
open Go.RowKit

/-- what shows that something is not 0 -/
def hlp (p : Nat) (op i0 i1 : Int) : Int := if op = 4 then (invn p i1 : Int) else if op = 6 then (invn p ((i0 - i1) % (p : Int)) : Int) else if op = 9 then (invn p i0 : Int) else 0

set_option maxRecDepth 100000 in
set_option maxHeartbeats 2000000 in
theorem phelp_any (p b : Nat) (op i0 i1 i2 : Int) (w : World) (hpr : Num.Prime p) (h3 : 3 ≤ p) (h4 : p ≤ 2147483647) (hp : w.cell? ⟨b, 0, none⟩ = some (.int .i64 p)) (h00 : -9223372036854775808 ≤ i0) (h01 : i0 ≤ 9223372036854775807) (h10 : -9223372036854775808 ≤ i1) (h11 : i1 ≤ 9223372036854775807) :
    Calls Tryz.prog 59 #[.pointer (some ⟨b, 0, none⟩), .int .i64 op, .agg #[.int .i64 i0, .int .i64 i1, .int .i64 i2]] w fun e w' => e = .returned (.int .i64 (hlp p op i0 i1)) ∧ Below w.heap.size w w' := by
  obtain ⟨W0, hW0⟩ : ∃ W0, W0 = w.alloc (.cells #[.int .i64 i0, .int .i64 i1, .int .i64 i2] 64) := ⟨_, rfl⟩
  have hb0 : Below w.heap.size w W0 := by rw [hW0]; exact (Below.refl _ _).alloc (Nat.le_refl _) _
  have hs0 : W0.heap[w.heap.size]? = some (.cells #[.int .i64 i0, .int .i64 i1, .int .i64 i2] 64 (0, 0)) := by rw [hW0]; exact heap_alloc_new w _
  have k0 : W0.cell? ⟨w.heap.size, 0, none⟩ = some (.int .i64 i0) := by simp [World.cell?, hs0]
  have k1 : W0.cell? ⟨w.heap.size, 1, none⟩ = some (.int .i64 i1) := by simp [World.cell?, hs0]
  have hp0 : W0.cell? ⟨b, 0, none⟩ = some (.int .i64 p) := (hb0.cell (p := ⟨b, 0, none⟩) (World.block_lt_of_cell? _ _ hp)).trans hp
  have HB0 := hid hb0
  have e2 := emod_bounds (i0 - i1) p h3
  have HI : Hid (∀ (x : Int), -9223372036854775808 ≤ x → x ≤ 9223372036854775807 → Calls Tryz.prog 84 #[.pointer (some ⟨b, 0, none⟩), .int .i64 x] W0 fun e w' => e = .returned (.int .i64 (invn p x)) ∧ w' = W0) :=
    fun x h1 h2 => by have := inv_any p b x W0 h3 h4 hp0 h1 h2; rwa [inv_ref p x hpr h3] at this
  have HS := hid (sub_any p b i0 i1 W0 h3 h4 hp0 h00 h01 h10 h11)
  have HI0 := hid (HI.out i0 h00 h01)
  have HI1 := hid (HI.out i1 h10 h11)
  have HI2 := hid (HI.out ((i0 - i1) % (p : Int)) (by omega) (by omega))
  clear HI hb0 hs0 e2 h00 h01 h10 h11 hp
  by_cases o4 : op = 4
  · subst o4
    rw [show hlp p 4 i0 i1 = (invn p i1 : Int) by simp [hlp]]
    generalize ((invn p i1 : Nat) : Int) = r at *
    go_enter Tryz.func59, Tryz.ntmps59
    go_wp2_with fail
    rw [← hW0]
    clear hW0
    go_wp2_with fail
    refine HI1.out.mono ?_
    rintro e w1 ⟨rfl, rfl⟩
    go_wp2_with fail
    go_ret
    exact ⟨rfl, HB0.out⟩
  · have o4' : (op == 4) = false := by simp [o4]
    by_cases o6 : op = 6
    · subst o6
      rw [show hlp p 6 i0 i1 = (invn p ((i0 - i1) % (p : Int)) : Int) by simp [hlp]]
      generalize ((invn p ((i0 - i1) % (p : Int)) : Nat) : Int) = r at *
      generalize (i0 - i1) % (p : Int) = s at *
      go_enter Tryz.func59, Tryz.ntmps59
      go_wp2_with fail
      rw [← hW0]
      clear hW0
      go_wp2_with fail
      refine HS.out.mono ?_
      rintro e w1 ⟨rfl, rfl⟩
      go_wp2_with fail
      refine HI2.out.mono ?_
      rintro e w1 ⟨rfl, rfl⟩
      go_wp2_with fail
      go_ret
      exact ⟨rfl, HB0.out⟩
    · have o6' : (op == 6) = false := by simp [o6]
      by_cases o9 : op = 9
      · subst o9
        rw [show hlp p 9 i0 i1 = (invn p i0 : Int) by simp [hlp]]
        generalize ((invn p i0 : Nat) : Int) = r at *
        go_enter Tryz.func59, Tryz.ntmps59
        go_wp2_with fail
        rw [← hW0]
        clear hW0
        go_wp2_with fail
        refine HI0.out.mono ?_
        rintro e w1 ⟨rfl, rfl⟩
        go_wp2_with fail
        go_ret
        exact ⟨rfl, HB0.out⟩
      · have o9' : (op == 9) = false := by simp [o9]
        rw [show hlp p op i0 i1 = 0 by simp [hlp, o4, o6, o9]]
        clear o4 o6 o9
        go_enter Tryz.func59, Tryz.ntmps59
        go_wp2_with fail
        rw [← hW0]
        clear hW0
        go_wp2_with fail
        go_ret
        exact ⟨rfl, HB0.out⟩

end Go.Proofs.YtdpdmgmeieijaaaGreatDoor

namespace Go.Proofs.YtdpdmgmeieijaaaGreatDoor
open Go.RowKit Go.Maps

/-- a row of numbers that is a block, whole -/
def BRow (g : Nat) (w : World) (l : List Int) : Prop := w.heap[g]? = some (.cells (l.map (Value.int .i64)).toArray 3 (0, 0))
theorem BRow.rowIs {g : Nat} {w : World} {l : List Int} (h : BRow g w l) : w.rowIs g 3 l.length (fun i => .int .i64 (zat l i)) :=
  ⟨_, h, by simp, fun i hi => by simp [zat, hi]⟩
theorem brow_of {g : Nat} {w : World} {l : List Int} (h : w.rowIs g 3 l.length (fun i => .int .i64 (zat l i))) : BRow g w l := by
  obtain ⟨c, hb, hs, hc⟩ := h
  unfold BRow
  rw [hb]
  congr 2
  apply Array.ext
  · simpa using hs
  · intro i h1 h2
    have h4 : i < l.length := by simpa using h2
    have := hc i h4
    rw [Array.getElem?_eq_getElem h1] at this
    injection this with this
    rw [this]
    simp [zat, h4]
theorem BRow.set {g : Nat} {w : World} {l : List Int} (h : BRow g w l) {k : Nat} (x : Int) (hk : k < l.length) : BRow g (w.setCell ⟨g, k, none⟩ (.int .i64 x)) (l.set k x) := by
  apply brow_of
  rw [List.length_set]
  have := h.rowIs.set k (.int .i64 x)
  obtain ⟨c, h1, h2, h3⟩ := this
  refine ⟨c, h1, h2, fun i hi => ?_⟩
  rw [h3 i hi]
  show some (if i = k then Value.int .i64 x else .int .i64 (zat l i)) = some (.int .i64 (zat (l.set k x) i))
  rw [zat_set hk]
  split <;> rfl
theorem BRow.row {g : Nat} {w : World} {l : List Int} (h : BRow g w l) : IRow g w l :=
  ⟨(Array.getElem?_eq_some_iff.1 h).1, fun k hk => by simp [World.cell?, show w.heap[g]? = _ from h, zat, hk], fun j => by simp [World.frozen?, show w.heap[g]? = _ from h]⟩
theorem BRow.block {g : Nat} {w w' : World} {l : List Int} (h : BRow g w l) (e : w'.heap[g]? = w.heap[g]?) : BRow g w' l := e.trans h
theorem made_zero (n : Nat) : (madeCells (Value.int .i64 0).cells (n * 1)).toList = (List.replicate n (0 : Int)).map (Value.int .i64) := by
  apply List.ext_getElem?
  intro i
  by_cases h : i < n
  · simp [madeCells, h]
    show (#[Value.int .i64 0])[i % 1]! = _
    rw [Nat.mod_one]
    rfl
  · simp [madeCells, h]
theorem brow_made {base g n : Nat} {w : World} (h : w.ownsRow base 3 1 (.slice (some ⟨g, 0, none⟩) n n) n (madeCells (Value.int .i64 0).cells (n * 1)).toList) : BRow g w (List.replicate n 0) := by
  rcases h.2 with ⟨e, _⟩ | ⟨g', cap, cur, e1, _, hg, _, _, hs, ht⟩
  · cases e
  · injection e1 with e1 _ e3
    injection e1 with e1
    injection e1 with e1
    subst e1 e3
    unfold BRow
    rw [hg]
    congr 2
    rw [made_zero] at ht
    apply Array.toList_inj.1
    rw [← ht, List.take_of_length_le (by simp; omega)]
theorem splice_three (l : List Value) (o : Nat) (a b c : Value) (h : o + 3 ≤ l.length) : splice l o [a, b, c] = ((l.set o a).set (o + 1) b).set (o + 2) c := by
  apply List.ext_getElem?
  intro i
  unfold splice
  simp only [List.getElem?_append, List.getElem?_set, List.length_take, List.getElem?_take, List.getElem?_drop, List.length_set, List.length_cons, List.length_nil]
  by_cases h1 : i < o
  · rw [if_pos (by omega), if_pos h1, if_neg (by omega), if_neg (by omega), if_neg (by omega)]
  · rw [if_neg (by omega)]
    by_cases h2 : i = o
    · subst h2; simp [show min i l.length = i by omega]; omega
    · by_cases h3 : i = o + 1
      · subst h3; simp [show min o l.length = o by omega]; omega
      · by_cases h4 : i = o + 2
        · subst h4; simp [show min o l.length = o by omega]; omega
        · rw [if_neg (by omega), if_neg (by omega), if_neg (by omega), if_neg (by omega)]
          congr 1
          omega
theorem brow_spl {g o : Nat} {w : World} {l : List Int} {a b c : Int} (h : w.heap[g]? = some (.cells (splice (l.map (Value.int .i64)) o [.int .i64 a, .int .i64 b, .int .i64 c]).toArray 3 (0, 0))) (ho : o + 3 ≤ l.length) : BRow g w (((l.set o a).set (o + 1) b).set (o + 2) c) := by
  rw [splice_three _ _ _ _ _ (by simpa using ho)] at h
  unfold BRow
  rw [h]
  simp [List.map_set]

/-- a row that shows a step -/
def srow (p nL : Nat) (op : Int) (s : List Int) : List Int :=
  (((((((((((List.replicate (20 + nL) (0 : Int)).set 0 (zat s 1)).set 1 (zat s 2)).set 2 (zat s 3)).set 3 (zat s 4)).set 4 (zat s 5)).set 5 (zat s 6)).set 7 (zat s 7)).set 8 (zat s 8)).set 9 (zat s 9)).set 11 (hlp p op (zat s 7) (zat s 8))).set (20 + (zat s 0).toNat) 1
theorem srow_len (p nL : Nat) (op : Int) (s : List Int) : (srow p nL op s).length = 20 + nL := by simp [srow]

set_option maxRecDepth 100000 in
set_option maxHeartbeats 1000000 in
theorem pwidth_any (size : Int) (aL : Option Addr) (nL cL : Nat) (w : World) (hn : nL ≤ 281474976710656) :
    Calls Tryz.prog 16 #[.agg #[.int .i64 size, .slice aL nL cL]] w fun e w' => e = .returned (.int .i64 ((20 + nL : Nat) : Int)) ∧ Below w.heap.size w w' := by
  obtain ⟨W0, hW0⟩ : ∃ W0, W0 = w.alloc (.cells #[.int .i64 size, .slice aL nL cL] 24) := ⟨_, rfl⟩
  have hb0 : Below w.heap.size w W0 := by rw [hW0]; exact (Below.refl _ _).alloc (Nat.le_refl _) _
  have hs0 : W0.heap[w.heap.size]? = some (.cells #[.int .i64 size, .slice aL nL cL] 24 (0, 0)) := by rw [hW0]; exact heap_alloc_new w _
  have k1 : W0.cell? ⟨w.heap.size, 1, none⟩ = some (.slice aL nL cL) := by simp [World.cell?, hs0]
  have HB0 := hid hb0
  have hwr : IntKind.i64.wrap (20 + (nL : Int)) = ((20 + nL : Nat) : Int) := by rw [IntKind.wrap_i64]; omega
  clear hb0 hs0
  go_enter Tryz.func16, Tryz.ntmps16
  go_wp2_with fail
  rw [← hW0]
  clear hW0
  go_wp2_with fail
  go_ret
  exact ⟨by first | rfl | simp, HB0.out⟩

end Go.Proofs.YtdpdmgmeieijaaaGreatDoor
