/- areUnlike: sorted and compacted as long as before if and only if no two are the same element. -/
import Derived.Test.YtecaifjbmfianafDoorSorted
import Derived.Test.YtecaifjbmfianafDoorUnlike
import Derived.Sort.OwnSortedInts
namespace Go.Proofs.YtecaifjbmfianafDoor
open Go.RowKit Go.Sort

theorem filter_len {p : Nat → Bool} (n : Nat) : ((List.range n).filter p).length = n ↔ ∀ j, j < n → p j = true := by
  induction n with
  | zero => simp
  | succ n ih =>
    rw [List.range_succ, List.filter_append, List.length_append]
    have hle : ((List.range n).filter p).length ≤ n := by
      have := List.length_filter_le p (List.range n); simpa using this
    constructor
    · intro h j hj
      have h2 : ((List.filter p [n]).length) ≤ 1 := by have := List.length_filter_le p [n]; simpa using this
      have h3 : ((List.range n).filter p).length = n := by omega
      by_cases e : j = n
      · subst e
        rcases hp : p j with _ | _
        · simp [hp] at h; omega
        · rfl
      · exact ih.1 h3 j (by omega)
    · intro h
      rw [ih.2 (fun j hj => h j (by omega))]
      simp [h n (by omega)]

theorem compact_len (l : List Int) : (Lib.compact l).length = l.length ↔ ∀ j, 0 < j → j < l.length → zat l j ≠ zat l (j - 1) := by
  unfold Lib.compact Lib.compactUpTo
  rw [List.length_map, filter_len]
  have hg : ∀ j, j < l.length → l.toArray[j]! = zat l j := fun j hj => by simp [zat, hj]
  constructor
  · intro h j h0 hj
    have := h j hj
    simp only [Lib.keeps, decide_eq_true_eq] at this
    rw [hg j hj, hg (j - 1) (by omega)] at this
    exact this.resolve_left (by omega)
  · intro h j hj
    simp only [Lib.keeps, decide_eq_true_eq]
    by_cases h0 : j = 0
    · exact Or.inl h0
    · right; rw [hg j hj, hg (j - 1) (by omega)]; exact h j (by omega) hj

theorem zat_get (l : List Int) (j : Nat) (h : j < l.length) : zat l j = l[j] := by simp [zat, h]

theorem sorted_adj (l : List Int) (hs : l.Pairwise (· ≤ ·)) : (∀ j, 0 < j → j < l.length → zat l j ≠ zat l (j - 1)) ↔ l.Nodup := by
  rw [List.pairwise_iff_getElem] at hs
  constructor
  · intro h
    rw [List.Nodup, List.pairwise_iff_getElem]
    intro i j hi hj hij he
    have h1 := h (i + 1) (by omega) (by omega)
    rw [zat_get l (i + 1) (by omega), Nat.add_sub_cancel, zat_get l i hi] at h1
    have a1 := hs i (i + 1) hi (by omega) (by omega)
    by_cases e : i + 1 = j
    · subst e; exact h1 he.symm
    · have a2 := hs (i + 1) j (by omega) hj (by omega)
      omega
  · intro h j h0 hj he
    rw [List.Nodup, List.pairwise_iff_getElem] at h
    rw [zat_get l j hj, zat_get l (j - 1) (by omega)] at he
    exact h (j - 1) j (by omega) hj (by omega) he.symm

theorem sort_len (l : List Int) : (l.mergeSort fun x y => decide (x ≤ y)).length = l.length := by simp

theorem unlike_iff (l : List Int) : (Lib.compact (l.mergeSort fun x y => decide (x ≤ y))).length = l.length ↔ l.Nodup := by
  have hs : (l.mergeSort fun x y => decide (x ≤ y)).Pairwise (· ≤ ·) := by
    have := List.pairwise_mergeSort (le := fun x y : Int => decide (x ≤ y)) (fun a b c h1 h2 => by simp at *; omega) (fun a b => by simp; omega) l
    exact this.imp (fun h => by simpa using h)
  have hp : (l.mergeSort fun x y => decide (x ≤ y)).Perm l := List.mergeSort_perm l _
  rw [← hp.nodup_iff, ← sorted_adj _ hs, ← compact_len, sort_len]

theorem unl_ls (p : Nat) (xs : List Int) : Unl p (zat xs) xs.length ↔ (ls (fun j => zat xs j % (p : Int)) xs.length).Nodup := by
  rw [List.Nodup, List.pairwise_iff_getElem]
  have hg : ∀ j (h : j < (ls (fun j => zat xs j % (p : Int)) xs.length).length), (ls (fun j => zat xs j % (p : Int)) xs.length)[j] = zat xs j % (p : Int) := fun j h => by
    rw [← zat_get _ j h, ls_at _ _ _ (by rw [ls_len] at h; exact h)]
  constructor
  · intro h i j hi hj hij
    rw [hg i hi, hg j hj]
    rw [ls_len] at hj
    exact h i j hij hj
  · intro h i j hij hj
    have := h i j (by rw [ls_len]; omega) (by rw [ls_len]; exact hj) hij
    rw [hg, hg] at this
    exact this

theorem unlB_len (p : Nat) (xs : List Int) : (((Lib.compact ((ls (fun j => zat xs j % (p : Int)) xs.length).mergeSort fun x y => decide (x ≤ y))).length : Int) == (xs.length : Int)) = unlB p xs := by
  have h := unlike_iff (ls (fun j => zat xs j % (p : Int)) xs.length)
  rw [ls_len, ← unl_ls] at h
  by_cases hu : Unl p (zat xs) xs.length
  · rw [unlB_yes hu, beq_iff_eq, h.2 hu]
  · rw [unlB_no hu, beq_eq_false_iff_ne]
    intro e
    exact hu (h.1 (by omega))

theorem cells_holds {g : Nat} {zs : List Int} {w : World} (h : Cells g 0 zs.length (zat zs) w) : Holds (Value.int .i64) w g 0 zs.toArray := fun j hj => by
  have hj' : j < zs.length := by simpa using hj
  have := h.cells j hj'
  refine ⟨?_, h.soft j hj'⟩
  rw [this]; simp [zat, hj']

theorem below_put {w : World} {n0 g n : Nat} (d : Array Int) (hg : n0 ≤ g) : Below n0 w (putRow (Value.int .i64) (Sort.ahead w n) g 0 d) := by
  refine ⟨rfl, rfl, rfl, by simp [Sort.ahead], fun k hk => ?_⟩
  simp only [putRow, mapBlock, Sort.ahead, Array.getElem?_modify]
  rw [if_neg (by omega)]

theorem below_grow {w w' : World} {n0 : Nat} (h : Below n0 w w') (hn : n0 ≤ w'.heap.size) (os : Array Obj) : Below n0 w (grow w' os) :=
  h.trans ⟨rfl, rfl, rfl, by simp [grow], fun k hk => by simp only [grow]; rw [Array.getElem?_append_left (by omega)]⟩

end Go.Proofs.YtecaifjbmfianafDoor
