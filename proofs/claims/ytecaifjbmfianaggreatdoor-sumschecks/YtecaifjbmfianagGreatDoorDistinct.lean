/- areUnlike: sorted and compacted as long as before if and only if no two are the same element. -/
import Derived.Test.YtecaifjbmfianagGreatDoorSorted
import Derived.Test.YtecaifjbmfianagGreatDoorUnlike
import Derived.Sort.OwnSortedInts
namespace Go.Proofs.YtecaifjbmfianagGreatDoor
open Go.RowKit Go.Sort

theorem filter_len {p : Nat → Bool} (n : Nat) : ((List.range n).filter p).length = n ↔ ∀ j, j < n → p j = true := by
  induction n with
  | zero => simp
  | succ n ih =>
    rw [List.range_succ, List.filter_append, List.length_append]
    have hle : ((List.range n).filter p).length ≤ n := by
      have := List.length_filter_le p (List.range n); simpa using this
    constructor
    · intro h j hj
      have h2 : ((List.filter p [n]).length) ≤ 1 := by have := List.length_filter_le p [n]; simpa using this
      have h3 : ((List.range n).filter p).length = n := by omega
      by_cases e : j = n
      · subst e
        rcases hp : p j with _ | _
        · simp [hp] at h; omega
        · rfl
      · exact ih.1 h3 j (by omega)
    · intro h
      rw [ih.2 (fun j hj => h j (by omega))]
      simp [h n (by omega)]

theorem compact_len (l : List Int) : (Lib.compact l).length = l.length ↔ ∀ j, 0 < j → j < l.length → zat l j ≠ zat l (j - 1) := by
  unfold Lib.compact Lib.compactUpTo
  rw [List.length_map, filter_len]
  have hg : ∀ j, j < l.length → l.toArray[j]! = zat l j := fun j hj => by simp [zat, hj]
  constructor
  · intro h j h0 hj
    have := h j hj
    simp only [Lib.keeps, decide_eq_true_eq] at this
    rw [hg j hj, hg (j - 1) (by omega)] at this
    exact this.resolve_left (by omega)
  · intro h j hj
    simp only [Lib.keeps, decide_eq_true_eq]
    by_cases h0 : j = 0
    · exact Or.inl h0
    · right; rw [hg j hj, hg (j - 1) (by omega)]; exact h j (by omega) hj

theorem zat_get (l : List Int) (j : Nat) (h : j < l.length) : zat l j = l[j] := by simp [zat, h]

theorem sorted_adj (l : List Int) (hs : l.Pairwise (· ≤ ·)) : (∀ j, 0 < j → j < l.length → zat l j ≠ zat l (j - 1)) ↔ l.Nodup := by
  rw [List.pairwise_iff_getElem] at hs
  constructor
  · intro h
    rw [List.Nodup, List.pairwise_iff_getElem]
    intro i j hi hj hij he
    have h1 := h (i + 1) (by omega) (by omega)
    rw [zat_get l (i + 1) (by omega), Nat.add_sub_cancel, zat_get l i hi] at h1
    have a1 := hs i (i + 1) hi (by omega) (by omega)
    by_cases e : i + 1 = j
    · subst e; exact h1 he.symm
    · have a2 := hs (i + 1) j (by omega) hj (by omega)
      omega
  · intro h j h0 hj he
    rw [List.Nodup, List.pairwise_iff_getElem] at h
    rw [zat_get l j hj, zat_get l (j - 1) (by omega)] at he
    exact h (j - 1) j (by omega) hj (by omega) he.symm

theorem sort_len (l : List Int) : (l.mergeSort fun x y => decide (x ≤ y)).length = l.length := by simp

theorem unlike_iff (l : List Int) : (Lib.compact (l.mergeSort fun x y => decide (x ≤ y))).length = l.length ↔ l.Nodup := by
  have hs : (l.mergeSort fun x y => decide (x ≤ y)).Pairwise (· ≤ ·) := by
    have := List.pairwise_mergeSort (le := fun x y : Int => decide (x ≤ y)) (fun a b c h1 h2 => by simp at *; omega) (fun a b => by simp; omega) l
    exact this.imp (fun h => by simpa using h)
  have hp : (l.mergeSort fun x y => decide (x ≤ y)).Perm l := List.mergeSort_perm l _
  rw [← hp.nodup_iff, ← sorted_adj _ hs, ← compact_len, sort_len]

theorem unl_ls (p : Nat) (xs : List Int) : Unl p (zat xs) xs.length ↔ (ls (fun j => zat xs j % (p : Int)) xs.length).Nodup := by
  rw [List.Nodup, List.pairwise_iff_getElem]
  have hg : ∀ j (h : j < (ls (fun j => zat xs j % (p : Int)) xs.length).length), (ls (fun j => zat xs j % (p : Int)) xs.length)[j] = zat xs j % (p : Int) := fun j h => by
    rw [← zat_get _ j h, ls_at _ _ _ (by rw [ls_len] at h; exact h)]
  constructor
  · intro h i j hi hj hij
    rw [hg i hi, hg j hj]
    rw [ls_len] at hj
    exact h i j hij hj
  · intro h i j hij hj
    have := h i j (by rw [ls_len]; omega) (by rw [ls_len]; exact hj) hij
    rw [hg, hg] at this
    exact this

theorem unlB_len (p : Nat) (xs : List Int) : (((Lib.compact ((ls (fun j => zat xs j % (p : Int)) xs.length).mergeSort fun x y => decide (x ≤ y))).length : Int) == (xs.length : Int)) = unlB p xs := by
  have h := unlike_iff (ls (fun j => zat xs j % (p : Int)) xs.length)
  rw [ls_len, ← unl_ls] at h
  by_cases hu : Unl p (zat xs) xs.length
  · rw [unlB_yes hu, beq_iff_eq, h.2 hu]
  · rw [unlB_no hu, beq_eq_false_iff_ne]
    intro e
    exact hu (h.1 (by omega))

theorem cells_holds {g : Nat} {zs : List Int} {w : World} (h : Cells g 0 zs.length (zat zs) w) : Holds (Value.int .i64) w g 0 zs.toArray := fun j hj => by
  have hj' : j < zs.length := by simpa using hj
  have := h.cells j hj'
  refine ⟨?_, h.soft j hj'⟩
  rw [this]; simp [zat, hj']

theorem below_put {w : World} {n0 g n : Nat} (d : Array Int) (hg : n0 ≤ g) : Below n0 w (putRow (Value.int .i64) (Sort.ahead w n) g 0 d) := by
  refine ⟨rfl, rfl, rfl, by simp [Sort.ahead], fun k hk => ?_⟩
  simp only [putRow, mapBlock, Sort.ahead, Array.getElem?_modify]
  rw [if_neg (by omega)]

theorem below_grow {w w' : World} {n0 : Nat} (h : Below n0 w w') (hn : n0 ≤ w'.heap.size) (os : Array Obj) : Below n0 w (grow w' os) :=
  h.trans ⟨rfl, rfl, rfl, by simp [grow], fun k hk => by simp only [grow]; rw [Array.getElem?_append_left (by omega)]⟩

set_option maxHeartbeats 2000000 in
theorem areunlike_any (p b cap : Nat) (a : Option Addr) (xs : List Int) (w : World) (h3 : 3 ≤ p) (hm : p ≤ 2147483647) (hp : w.cell? ⟨b, 0, none⟩ = some (.int .i64 p))
    (hn : xs.length ≤ 17592186044416) (hfit : Fits xs) (hrow : RowB w.heap.size w a xs) :
    Calls Tryz.prog 29 #[.pointer (some ⟨b, 0, none⟩), .slice a xs.length cap] w fun e w' => e = .returned (.bool (unlB p xs)) ∧ Below w.heap.size w w' := by
  have hb : b < w.heap.size := heap_lt hp
  have HF := hid hfit
  have HR := hid hrow
  have HU := hid (unlB_len p xs)
  clear hfit hrow
  have hmk := fun n h1 h2 w => run_make_row' (P := Tryz.prog) 23 3 (.int .i64 0) 8 Tryz.underlying23 Tryz.infoInt rfl .i64 .i64 n h1 h2 w
  have hmk2 := hmk xs.length (by omega) (by omega)
  clear hmk
  go_enter Tryz.func29, Tryz.ntmps29
  go_wp2_with fail
  go_loopw [13] (fun iv wr => ∃ (k : Nat) (o : Nat → Int), k ≤ xs.length ∧ iv = .int .i64 k ∧ Hid (Cells w.heap.size 0 xs.length o wr) ∧ Hid (∀ j, j < k → o j = zat xs j % (p : Int)) ∧ Hid (Below w.heap.size w wr) ∧ wr.heap.size = w.heap.size + 1)
    (fun iv _ => xs.length - (intOf iv).toNat)
  case atStart =>
    refine ⟨0, fun _ => 0, Nat.zero_le _, rfl, ⟨fun j hj => ?_, fun j hj => ?_⟩, fun j hj => by omega, ?_, by simp⟩
    · rw [World.cell?_alloc_at _ _ _ _ (by simp)]
      simp [madeCells, hj, Nat.mod_one]
    · simp
    · exact (Below.refl _ _).alloc (Nat.le_refl _) _
  case round =>
    obtain ⟨k, o, hk, rfl, hout, hoj, hbel, hsz⟩ := hrel
    by_cases hlt : k < xs.length
    · have hlt2 : (k : Int) < (xs.length : Int) := by omega
      obtain ⟨bl, ol, rfl, hbl, hcl⟩ := HR.out k hlt
      have hcl2 := (hbel.out.cell (p := ⟨bl, ol + k, none⟩) hbl).trans hcl
      have hok := hout.out.cells k hlt
      have hos := hout.out.soft k hlt
      rw [Nat.zero_add] at hok hos
      have hpc := (hbel.out.cell (p := ⟨b, 0, none⟩) hb).trans hp
      obtain ⟨hx1, hx2⟩ := HF.out k hlt
      have HC := hid (hout.out.set (zat xs k % (p : Int)) hlt)
      have HB := hid (hbel.out.setCell (p := ⟨w.heap.size, 0 + k, none⟩) (by simp) (.int .i64 (zat xs k % (p : Int))))
      have HJ : Hid (∀ j, j < k + 1 → up o k (zat xs k % (p : Int)) j = zat xs j % (p : Int)) := fun j hj => by
        unfold up
        by_cases hjk : j = k
        · rw [if_pos hjk, hjk]
        · rw [if_neg hjk]; exact hoj.out j (by omega)
      rw [Nat.zero_add] at HC HB
      generalize zat xs k = x at *
      clear hcl
      go_wp2_with fail
      refine (of_any p b x _ h3 hm hpc hx1 hx2).mono ?_
      rintro e w2 ⟨rfl, rfl⟩
      go_wp2_with fail
      go_roundw
      case rel => exact ⟨k + 1, _, by omega, by go_num, HC, HJ, HB, by simp [World.setCell]; exact hsz⟩
      case measure => simp [intOf]; omega
    · have hlt2 : ¬ (k : Int) < (xs.length : Int) := by omega
      have hll := ls_len (fun j => zat xs j % (p : Int)) xs.length
      have hcs : Cells w.heap.size 0 (ls (fun j => zat xs j % (p : Int)) xs.length).length (zat (ls (fun j => zat xs j % (p : Int)) xs.length)) wr := by
        rw [hll]
        exact hout.out.congr (fun j hj => by rw [ls_at _ _ _ hj]; exact hoj.out j (by omega))
      have hH := cells_holds hcs
      have hsl := sort_len (ls (fun j => zat xs j % (p : Int)) xs.length)
      have HS := hid (Tryz.sort_any w.heap.size 0 xs.length (ls (fun j => zat xs j % (p : Int)) xs.length) wr hH (by omega) (by omega))
      rw [hll] at HS
      have HH := hid hH
      have HC : Hid (∀ (n : Nat) (os : Array Obj), Calls Tryz.prog 42 #[.slice (some ⟨w.heap.size, 0, none⟩) xs.length xs.length] (grow (putRow (Value.int .i64) (Sort.ahead wr n) w.heap.size 0 ((ls (fun j => zat xs j % (p : Int)) xs.length).mergeSort fun x y => decide (x ≤ y)).toArray) os) fun e w' =>
          e = .returned (.slice (some ⟨w.heap.size, 0, none⟩) (Lib.compact ((ls (fun j => zat xs j % (p : Int)) xs.length).mergeSort fun x y => decide (x ≤ y))).length xs.length) ∧ Below w.heap.size w w') := fun n os => by
        have hh := holds_grow (Value.int .i64) _ os w.heap.size 0 _ (by simp [Sort.ahead]; omega) (holds_putRow (Value.int .i64) (Sort.ahead wr n) w.heap.size 0 _ ((ls (fun j => zat xs j % (p : Int)) xs.length).mergeSort fun x y => decide (x ≤ y)).toArray (holds_ahead _ _ n _ _ _ HH.out) (by simp))
        have hcc := Tryz.compact_any w.heap.size 0 xs.length _ _ hh (by omega) (by omega)
        rw [hsl, hll] at hcc
        refine hcc.mono ?_
        rintro e w' ⟨rfl, q, rfl⟩
        exact ⟨rfl, (hbel.out.trans (below_grow (below_put _ (Nat.le_refl _)) (by simp [Sort.ahead]; omega) os)).trans (below_put _ (Nat.le_refl _))⟩
      generalize (Lib.compact ((ls (fun j => zat xs j % (p : Int)) xs.length).mergeSort fun x y => decide (x ≤ y))).length = cl at *
      generalize (ls (fun j => zat xs j % (p : Int)) xs.length).mergeSort (fun x y => decide (x ≤ y)) = ms at *
      clear hcs hH hsl hll HH
      go_wp2_with fail
      refine HS.out.mono ?_
      rintro e w2 ⟨rfl, n, os, rfl⟩
      have HC2 := hid (HC.out n os)
      generalize grow (putRow (Value.int .i64) (Sort.ahead wr n) w.heap.size 0 ms.toArray) os = w3 at *
      go_wp2_with fail
      refine HC2.out.mono ?_
      rintro e w4 ⟨rfl, hb4⟩
      have HB4 := hid hb4
      clear hb4
      go_wp2_with fail
      go_ret
      exact ⟨ret_bool HU.out, HB4.out⟩

end Go.Proofs.YtecaifjbmfianagGreatDoor
