/- Plain facts on digests: unlike lists have unlike Pads; stirring is undone in one way alone. -/
import Derived.Test.YtfijhnojflcajadDoorRefJ
namespace Go.Proofs.YtfijhnojflcajadDoor
open Go.RowKit

theorem pln_lt (n : Nat) : n < pln n := by unfold pln; omega
theorem pdf_low {q : Nat} {f : Nat → Int} {n j : Nat} (h : j < n) : pdf q f n j = f j % (q : Int) := by unfold pdf; rw [if_pos h]
theorem pdf_at (q : Nat) (f : Nat → Int) (n : Nat) : pdf q f n n = 1 := by unfold pdf; rw [if_neg (Nat.lt_irrefl _), if_pos rfl]
theorem pdf_high {q : Nat} {f : Nat → Int} {n j : Nat} (h : n < j) : pdf q f n j = 0 := by unfold pdf; rw [if_neg (by omega), if_neg (by omega)]

theorem ls_eq {f g : Nat → Int} {n m : Nat} (h : ls f n = ls g m) : n = m ∧ ∀ j, j < n → f j = g j := by
  have hl : n = m := by have := congrArg List.length h; rwa [ls_len, ls_len] at this
  refine ⟨hl, fun j hj => ?_⟩
  have : zat (ls f n) j = zat (ls g m) j := by rw [h]
  rwa [ls_at _ _ _ hj, ls_at _ _ _ (by omega)] at this

/-- unlike lists, as elements, have unlike Pads -/
theorem pad_same (q : Nat) (xs ys : List Int) : decide (ls (pdf q (zat xs) xs.length) (pln xs.length) = ls (pdf q (zat ys) ys.length) (pln ys.length)) = samb q xs ys := by
  by_cases h : ls (pdf q (zat xs) xs.length) (pln xs.length) = ls (pdf q (zat ys) ys.length) (pln ys.length)
  · rw [decide_eq_true h]
    obtain ⟨h1, h2⟩ := ls_eq h
    have hl : xs.length = ys.length := by
      rcases Nat.lt_trichotomy xs.length ys.length with g | g | g
      · have e := h2 ys.length (by rw [h1]; exact pln_lt _)
        rw [pdf_at, pdf_high g] at e
        exact absurd e (by decide)
      · exact g
      · have e := h2 xs.length (pln_lt _)
        rw [pdf_at, pdf_high g] at e
        exact absurd e (by decide)
    refine (samb_true hl (fun j hj => ?_)).symm
    have e := h2 j (Nat.lt_trans hj (pln_lt _))
    rwa [pdf_low hj, pdf_low (by omega)] at e
  · rw [decide_eq_false h]
    refine (samb_false (Classical.byContradiction fun hc => h ?_)).symm
    have hl : xs.length = ys.length := Classical.byContradiction fun e => hc (Or.inl e)
    rw [hl]
    refine ls_same (fun j _ => ?_)
    unfold pdf
    by_cases e : j < ys.length
    · rw [if_pos e, if_pos e]
      exact Classical.byContradiction fun e2 => hc (Or.inr ⟨j, by omega, e2⟩)
    · rw [if_neg e, if_neg e]

/-! ## powers that are undone -/
theorem bezout : ∀ (b a : Nat), ∃ x y : Int, (a : Int) * x + (b : Int) * y = (Nat.gcd a b : Nat) := by
  intro b
  induction b using Nat.strongRecOn with
  | _ b ih =>
    intro a
    by_cases h : b = 0
    · subst h; exact ⟨1, 0, by simp⟩
    · obtain ⟨x, y, hxy⟩ := ih (a % b) (Nat.mod_lt _ (by omega)) b
      refine ⟨y, x - (a / b : Nat) * y, ?_⟩
      have h1 : Nat.gcd b (a % b) = Nat.gcd a b := by rw [Nat.gcd_comm b (a % b), ← Nat.gcd_rec, Nat.gcd_comm]
      rw [← h1, ← hxy]
      have h2 : (a : Int) = (b : Int) * ((a / b : Nat) : Int) + ((a % b : Nat) : Int) := by
        have := Nat.div_add_mod a b
        exact_mod_cast this.symm
      generalize ((a / b : Nat) : Int) = d at *
      generalize ((a % b : Nat) : Int) = m at *
      rw [h2]
      grind

theorem inv_some {n m : Nat} (hm : 2 ≤ m) (h : Nat.gcd n m = 1) : ∃ d : Nat, n * d % m = 1 := by
  obtain ⟨x, y, hxy⟩ := bezout m n
  rw [h] at hxy
  have h0 : 0 ≤ x % (m : Int) := Int.emod_nonneg _ (by omega)
  refine ⟨(x % (m : Int)).toNat, ?_⟩
  have h1 : ((n * (x % (m : Int)).toNat % m : Nat) : Int) = 1 := by
    push_cast
    rw [Int.toNat_of_nonneg h0, Int.mul_emod, Int.emod_emod_of_dvd _ (Int.dvd_refl _), ← Int.mul_emod]
    have e : (n : Int) * x = 1 + (m : Int) * (-y) := by rw [Int.mul_neg]; push_cast at hxy; omega
    rw [e, Int.add_mul_emod_self_left]
    exact Int.emod_eq_of_lt (by omega) (by omega)
  exact_mod_cast h1

theorem PowIs_inv {q n : Nat} (h5 : 5 ≤ q) (h : Spo.PowIs q n) : ∃ d : Nat, n * d % (q - 1) = 1 := inv_some (by omega) ((Spo.apart_gcd (by have := h.1; omega)).1 h.2.1)

/-- a power and its back: what d undoes -/
theorem powz_back {q n d : Nat} (hq : Num.Prime q) (h3 : 3 ≤ q) (hd : n * d % (q - 1) = 1) (x : Int) : (x ^ n % (q : Int)) ^ d % (q : Int) = x % (q : Int) := by
  rw [← pwm_int q x n h3, ← pwm_int q _ d h3]
  have e1 : el q ((Num.pwm q (el q x) n : Nat) : Int) = Num.pwm q (el q x) n := by
    have h0 := Num.pwm_lt q (el q x) n (by omega)
    have := el_cast q ((Num.pwm q (el q x) n : Nat) : Int) h3
    rw [Int.emod_eq_of_lt (by omega) (by omega)] at this
    exact_mod_cast this
  rw [e1, Spo.pow_back hq (el_lt q x h3) hd, el_cast q x h3]

theorem powz_inj {q n : Nat} (hq : Num.Prime q) (h5 : 5 ≤ q) (h : Spo.PowIs q n) {x y : Int} (e : x ^ n % (q : Int) = y ^ n % (q : Int)) : x % (q : Int) = y % (q : Int) := by
  obtain ⟨d, hd⟩ := PowIs_inv h5 h
  rw [← powz_back hq (by omega) hd x, ← powz_back hq (by omega) hd y, e]

/-! ## stirring -/
theorem mx_inj {q : Nat} (hq : Num.Prime q) (h23 : 23 ≤ q) {f g : Nat → Int} (h : ∀ i, i < 8 → mx q f i = mx q g i) (j : Nat) (hj : j < 8) : f j % (q : Int) = g j % (q : Int) := by
  by_cases h0 : 0 < Cod.cnt (dfb q f g) 8
  · have h1 := spreads hq h23 f g h0
    have h2 : Cod.cnt (dfb q (mx q f) (mx q g)) 8 = 0 := Cod.cnt_zero.2 (fun i hi => by unfold dfb; rw [h i hi]; simp)
    have h3 := Cod.cnt_le (dfb q f g) 8
    omega
  · have := (Cod.cnt_zero.1 (show Cod.cnt (dfb q f g) 8 = 0 by omega)) j hj
    unfold dfb at this
    simpa using this

theorem stir_inj {q n : Nat} (hq : Num.Prime q) (h23 : 23 ≤ q) (hn : Spo.PowIs q n) {f g : Nat → Int} : ∀ k, (∀ j, j < 8 → stir q n f k j = stir q n g k j) → ∀ j, j < 8 → f j % (q : Int) = g j % (q : Int)
  | 0, h, j, hj => h j hj
  | k + 1, h, j, hj => by
    refine stir_inj hq h23 hn k (fun i hi => ?_) j hj
    have h1 := mx_inj hq h23 (f := fun i => (stir q n f k i + cst q k i) ^ n % (q : Int)) (g := fun i => (stir q n g k i + cst q k i) ^ n % (q : Int)) (fun i hi => h i hi) i hi
    simp only [Int.emod_emod_of_dvd _ (Int.dvd_refl _)] at h1
    have h2 := powz_inj hq (by omega) hn h1
    have h3 := (Pol.emod_eq_iff (by omega)).1 h2
    have b1 := stir_bounds q n f k i (by omega)
    have b2 := stir_bounds q n g k i (by omega)
    rw [show ∀ a b c : Int, a + c - (b + c) = a - b from fun a b c => by omega] at h3
    exact Pol.eq_of_dvd h3 b1.1 b1.2 b2.1 b2.2

/-- the state's elements alone count -/
theorem mx_congr {q : Nat} {f g : Nat → Int} (hq : 0 < q) (h : ∀ j, j < 8 → f j % (q : Int) = g j % (q : Int)) (i : Nat) : mx q f i = mx q g i := by
  unfold mx mxs
  rw [Pol.emod_eq_iff hq]
  refine Dom.sm_congr (fun j hj => ?_)
  rw [show f j * (invn q ((i + j + 8 : Nat) : Int) : Int) % (q : Int) = g j * (invn q ((i + j + 8 : Nat) : Int) : Int) % (q : Int) from by rw [Int.mul_emod, h j hj, ← Int.mul_emod], Int.sub_self]
  exact Int.dvd_zero _
theorem stir_congr {q n : Nat} {f g : Nat → Int} (hq : 0 < q) (h : ∀ j, j < 8 → f j % (q : Int) = g j % (q : Int)) : ∀ k j, j < 8 → stir q n f k j = stir q n g k j
  | 0, j, hj => h j hj
  | k + 1, j, _ => mx_congr hq (fun i hi => by rw [stir_congr hq h k i hi]) j

end Go.Proofs.YtfijhnojflcajadDoor
