/- attestref1.Same; attestlaw3.differ. -/
import Derived.Test.YtfijhnojflcajadDoorRefI
namespace Go.Proofs.YtfijhnojflcajadDoor
open Go.RowKit

/-- are two lists the same, as elements? -/
def samb (q : Nat) (xs ys : List Int) : Bool := decide (xs.map (· % (q : Int)) = ys.map (· % (q : Int)))

theorem samb_true {q : Nat} {xs ys : List Int} (hl : xs.length = ys.length) (h : ∀ j, j < xs.length → zat xs j % (q : Int) = zat ys j % (q : Int)) : samb q xs ys = true := by
  unfold samb
  rw [decide_eq_true_eq]
  refine List.ext_getElem (by simpa using hl) (fun j h1 h2 => ?_)
  rw [List.length_map] at h1 h2
  have := h j h1
  simpa [zat, h1, h2] using this
theorem samb_false {q : Nat} {xs ys : List Int} (h : xs.length ≠ ys.length ∨ ∃ j, j < xs.length ∧ zat xs j % (q : Int) ≠ zat ys j % (q : Int)) : samb q xs ys = false := by
  unfold samb
  rw [decide_eq_false_iff_not]
  intro e
  have hl : xs.length = ys.length := by simpa using congrArg List.length e
  rcases h with h | ⟨j, h1, h2⟩
  · exact h hl
  · have := congrArg (fun l : List Int => l[j]?) e
    simp [h1, show j < ys.length from by omega] at this
    exact h2 (by simpa [zat, h1, show j < ys.length from by omega] using this)

/-- at which places two states differ -/
def dfb (q : Nat) (f g : Nat → Int) (j : Nat) : Bool := !(f j % (q : Int) == g j % (q : Int))

/-- behind the matrix, what is unlike at few places is unlike at many -/
theorem spreads {q : Nat} (hq : Num.Prime q) (h23 : 23 ≤ q) (f g : Nat → Int) (h0 : 0 < Cod.cnt (dfb q f g) 8) : 9 ≤ Cod.cnt (dfb q f g) 8 + Cod.cnt (dfb q (mx q f) (mx q g)) 8 := by
  refine Nat.le_of_not_lt (fun hlt => ?_)
  have hnot := Cod.cnt_not (dfb q (mx q f) (mx q g)) 8
  have hz : ∀ j, j < 8 → (q : Int) ∣ f j - g j := by
    refine Spo.cauchy hq h23 (fun j => f j - g j) (fun k => (invn q (k : Int) : Int)) (fun k h1 h2 => inv_dvd_one hq (by omega) (Spo.small_nd h23 (by omega) (by omega) (by omega))) (dfb q f g) (fun j => !dfb q (mx q f) (mx q g) j) (fun j _ hd => ?_) (fun i _ hZ => ?_) (by omega)
    · unfold dfb at hd
      simp at hd
      exact (Pol.emod_eq_iff (by omega)).1 hd
    · unfold dfb at hZ
      simp at hZ
      have hb1 := mx_bounds q f i (by omega)
      have hb2 := mx_bounds q g i (by omega)
      rw [Int.emod_eq_of_lt hb1.1 hb1.2, Int.emod_eq_of_lt hb2.1 hb2.2] at hZ
      have h1 : ∀ h : Nat → Int, (q : Int) ∣ mx q h i - Dom.sm (fun j => h j * (invn q ((i + j + 8 : Nat) : Int) : Int)) 8 := fun h => by
        have e1 : (q : Int) ∣ mx q h i - Dom.sm (fun j => h j * (invn q ((i + j + 8 : Nat) : Int) : Int) % (q : Int)) 8 := Pol.emod_dvd q _
        have e2 : (q : Int) ∣ Dom.sm (fun j => h j * (invn q ((i + j + 8 : Nat) : Int) : Int) % (q : Int)) 8 - Dom.sm (fun j => h j * (invn q ((i + j + 8 : Nat) : Int) : Int)) 8 := Dom.sm_congr (fun j _ => Pol.emod_dvd q _)
        have := Int.dvd_add e1 e2
        rwa [show ∀ a b c : Int, a - b + (b - c) = a - c from fun a b c => by omega] at this
      have h2 := Int.dvd_sub (h1 g) (h1 f)
      rw [hZ] at h2
      have h3 : Dom.sm (fun j => (f j - g j) * (invn q ((i + j + 8 : Nat) : Int) : Int)) 8 = Dom.sm (fun j => f j * (invn q ((i + j + 8 : Nat) : Int) : Int)) 8 - Dom.sm (fun j => g j * (invn q ((i + j + 8 : Nat) : Int) : Int)) 8 := by
        have e1 := Dom.sm_add (fun j => (f j - g j) * (invn q ((i + j + 8 : Nat) : Int) : Int)) (fun j => g j * (invn q ((i + j + 8 : Nat) : Int) : Int)) 8
        have e2 : Dom.sm (fun j => (f j - g j) * (invn q ((i + j + 8 : Nat) : Int) : Int) + g j * (invn q ((i + j + 8 : Nat) : Int) : Int)) 8 = Dom.sm (fun j => f j * (invn q ((i + j + 8 : Nat) : Int) : Int)) 8 := Dom.sm_same (fun j _ => by grind)
        omega
      rw [h3]
      rwa [show ∀ a b c : Int, a - b - (a - c) = c - b from fun a b c => by omega] at h2
  have : Cod.cnt (dfb q f g) 8 = 0 := Cod.cnt_zero.2 (fun j hj => by
    unfold dfb
    rw [(Pol.emod_eq_iff (by omega)).2 (hz j hj)]
    simp)
  omega

end Go.Proofs.YtfijhnojflcajadDoor
