/- Package rules: holes. Package rules: fillHoles. attestref6.Walk: the walk. Package machine: Walk; the document's, where the code is wrong. -/
import Derived.Test.YtaibngnabhmabajDoorBbBA
import Derived.Test.YtaibngnabhmabajDoorBbAU
import Derived.Test.YtaibngnabhmabajDoorBbAW
namespace Go.Proofs.YtaibngnabhmabajDoor
open Go.RowKit

theorem rows_ext {R S : List (List Int)} (h : R.length = S.length) (k : ∀ j, j < R.length → rat R j = rat S j) : R = S := by
  apply List.ext_getElem h
  intro j h1 h2
  have := k j h1
  simpa [rat, h1, h2] using this
/-- the numbers from x to ahead of y -/
def gap (x y : Int) : List Int := (List.range (y - x).toNat).map fun j : Nat => x + (j : Int)
theorem gap_none {x y : Int} (h : y ≤ x) : gap x y = [] := by
  unfold gap
  rw [show (y - x).toNat = 0 by omega]
  rfl
theorem gap_step {x y : Int} (h : x < y) : gap x y = x :: gap (x + 1) y := by
  unfold gap
  rw [show (y - x).toNat = (y - (x + 1)).toNat + 1 by omega, List.range_succ_eq_map, List.map_cons, List.map_map]
  congr 1
  · simp
  · apply List.map_congr_left
    intro j _
    simp only [Function.comp, Nat.succ_eq_add_one]
    omega
theorem gap_mem {x y z : Int} : z ∈ gap x y ↔ x ≤ z ∧ z < y := by
  unfold gap
  rw [List.mem_map]
  constructor
  · rintro ⟨j, hj, rfl⟩
    rw [List.mem_range] at hj
    omega
  · rintro ⟨h1, h2⟩
    exact ⟨(z - x).toNat, by rw [List.mem_range]; omega, by omega⟩
theorem gap_split {x y z : Int} (h1 : x ≤ y) (h2 : y < z) : gap x z = gap x y ++ y :: gap (y + 1) z := by
  obtain ⟨n, hn⟩ : ∃ n, n = (y - x).toNat := ⟨_, rfl⟩
  induction n generalizing x with
  | zero => obtain rfl : x = y := by omega
            rw [gap_none (Int.le_refl _), gap_step h2]; rfl
  | succ n ih => rw [gap_step (show x < z by omega), gap_step (show x < y by omega), ih (by omega) (by omega)]; rfl
/-- the holes of cells that ascend, from x on -/
def hol : List Int → Int → List Int
  | [], _ => []
  | a :: os, x => gap x a ++ hol os (a + 1)
/-- the holes are what lies below the last one and isn't there -/
theorem hol_filter : ∀ (os : List Int) (x t : Int), os.Pairwise (· < ·) → (∀ a, a ∈ os → x ≤ a) → (os = [] → t ≤ x) → (∀ a, a ∈ os → a ≤ t) → (os ≠ [] → t ∈ os) → hol os x = (gap x t).filter fun a => !decide (a ∈ os)
  | [], x, t, _, _, h0, _, _ => by rw [gap_none (h0 rfl)]; rfl
  | a :: os, x, t, hp, hx, _, hle, ht => by
    rw [List.pairwise_cons] at hp
    have hax := hx a (by simp)
    have hat := hle a (by simp)
    have hrest : hol os (a + 1) = (gap (a + 1) t).filter fun z => !decide (z ∈ os) := by
      by_cases ho : os = []
      · subst ho
        have : t = a := by simpa using ht (by simp)
        rw [gap_none (by omega)]; rfl
      · refine hol_filter os (a + 1) t hp.2 (fun z hz => by have := hp.1 z hz; omega) (fun e => absurd e ho) (fun z hz => hle z (by simp [hz])) (fun _ => ?_)
        have h1 := ht (by simp)
        rcases List.mem_cons.1 h1 with e | e
        · obtain ⟨z, hz⟩ := List.exists_mem_of_ne_nil os ho
          have h2 := hp.1 z hz
          have h3 := hle z (by simp [hz])
          omega
        · exact e
    rw [hol, hrest]
    have hl : (gap x a).filter (fun z => !decide (z ∈ a :: os)) = gap x a := by
      rw [List.filter_eq_self]
      intro z hz
      have hz' := gap_mem.1 hz
      have : z ∉ a :: os := fun h => by
        rcases List.mem_cons.1 h with e | e
        · omega
        · have := hp.1 z e; omega
      simp only [this, decide_false, Bool.not_false]
    have hr : (gap (a + 1) t).filter (fun z => !decide (z ∈ a :: os)) = (gap (a + 1) t).filter fun z => !decide (z ∈ os) := by
      apply List.filter_congr
      intro z hz
      have hz' := gap_mem.1 hz
      have : (z ∈ a :: os) ↔ z ∈ os := by
        rw [List.mem_cons]
        constructor
        · rintro (e | e)
          · omega
          · exact e
        · exact Or.inr
      simp only [this]
    by_cases e : a = t
    · subst e
      rw [← hl, gap_none (show a ≤ a + 1 by omega)]
      simp
    · rw [gap_split hax (show a < t by omega), List.filter_append, hl, List.filter_cons]
      simp only [List.mem_cons, true_or, decide_true, Bool.not_true, Bool.false_eq_true, if_false]
      rw [← hr]
      simp only [List.mem_cons]

/-- holes written into rows -/
def fillH (R : List (List Int)) (hs : List Int) : List (List Int) := (List.range R.length).map fun k => if k < hs.length then (rat R k).set 6 (zat hs k) else rat R k
theorem fillH_len (R : List (List Int)) (hs : List Int) : (fillH R hs).length = R.length := by simp [fillH]
theorem fillH_rat {R : List (List Int)} {hs : List Int} {k : Nat} (hk : k < R.length) : rat (fillH R hs) k = if k < hs.length then (rat R k).set 6 (zat hs k) else rat R k := by
  simp [fillH, rat, hk]
theorem fillH_row_len {R : List (List Int)} {hs : List Int} {k : Nat} (hk : k < R.length) : (rat (fillH R hs) k).length = (rat R k).length := by
  rw [fillH_rat hk]; split <;> simp
theorem fillH_none (R : List (List Int)) : fillH R [] = R := rows_ext (fillH_len R []) fun j hj => by
  rw [fillH_len] at hj
  rw [fillH_rat hj, if_neg (by simp)]
theorem fillH_more (R : List (List Int)) (hs : List Int) (x : Int) (h : hs.length < R.length) : put (fillH R hs) hs.length 6 x = fillH R (hs ++ [x]) := by
  have h' : hs.length < (fillH R hs).length := by rw [fillH_len]; exact h
  refine rows_ext (by rw [put_len, fillH_len, fillH_len]) fun j hj => ?_
  rw [put_len, fillH_len] at hj
  rw [put_rat h', fillH_rat hj, fillH_rat hj, fillH_rat h]
  by_cases e : j = hs.length
  · subst e
    rw [if_pos rfl, if_neg (by omega), if_pos (by simp)]
    congr 1
    simp [zat]
  · rw [if_neg e]
    by_cases e2 : j < hs.length
    · rw [if_pos e2, if_pos (by simp; omega)]
      congr 1
      simp [zat, List.getElem?_append_left e2]
    · rw [if_neg e2, if_neg (by simp; omega)]

end Go.Proofs.YtaibngnabhmabajDoor

namespace Go.Proofs.YtaibngnabhmabajDoor
open Go.RowKit

/-- what fillHoles has done: pre is written, rest is still to come -/
structure FhS (base G : Nat) (K : Nat → Nat) (R : List (List Int)) (hs pre rest : List Int) (w wr : World) : Prop where
  tbl : Tbl base G K wr (fillH R pre)
  all : hs = pre ++ rest
  few : pre.length ≤ R.length
  bel : Below base w wr
theorem FhS.put {base G : Nat} {K : Nat → Nat} {R : List (List Int)} {hs pre rest : List Int} {x : Int} {w wr : World} (h : FhS base G K R hs pre (x :: rest) w wr) (hk : pre.length < R.length) (h20 : 20 ≤ (rat R pre.length).length) : FhS base G K R hs (pre ++ [x]) rest w (wr.setCell ⟨K pre.length, 6, none⟩ (.int .i64 x)) := by
  have hk' : pre.length < (fillH R pre).length := by rw [fillH_len]; exact hk
  refine ⟨?_, by rw [h.all]; simp, by simp; omega, h.tbl.put_below h.bel (Nat.le_refl _) x hk'⟩
  rw [← fillH_more R pre x hk]
  exact h.tbl.put x hk' (by rw [fillH_row_len hk]; omega)
theorem zat_getR (l : List Int) (j : Nat) (h : j < l.length) : zat l j = l[j] := by simp [zat, h]

end Go.Proofs.YtaibngnabhmabajDoor

namespace Go.Proofs.YtaibngnabhmabajDoor
open Go.RowKit

end Go.Proofs.YtaibngnabhmabajDoor

namespace Go.Proofs.YtaibngnabhmabajDoor
open Go.RowKit Go.Maps

end Go.Proofs.YtaibngnabhmabajDoor
