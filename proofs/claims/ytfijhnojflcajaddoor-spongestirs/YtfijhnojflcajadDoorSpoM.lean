/- Plain facts on digests: Cauchy's matrix is undone by itself, with weights. -/
import Derived.Test.YtfijhnojflcajadDoorSpoL
namespace Go.Proofs.YtfijhnojflcajadDoor
open Go.RowKit

namespace Spo
/-- the product of i + t + 8 for t below k, and that of i - t without the one that is 0 -/
def pab (i : Nat) : Nat → Int
  | 0 => 1
  | k + 1 => pab i k * ((i : Int) + (k : Int) + 8)
def pbe (i : Nat) : Nat → Int
  | 0 => 1
  | k + 1 => if k = i then pbe i k else pbe i k * ((i : Int) - (k : Int))
/-- the weights as whole numbers -/
def wtz (j : Nat) : Int := pab j 8 / pbe j 8
/-- what 8 to 22 divide -/
def big : Int := 232792560
def bq (k : Nat) : Int := ((232792560 / k : Nat) : Int)

theorem pbe_wtz : ∀ i : Nat, i < 8 → pbe i 8 * wtz i = pab i 8 := by decide
theorem big_bq : ∀ k : Nat, k < 23 → 8 ≤ k → (k : Int) * bq k = big := by decide
theorem back_key : ∀ i : Nat, i < 8 → ∀ k : Nat, k < 8 → Dom.sm (fun j => bq (i + j + 8) * wtz j * bq (j + k + 8)) 8 * wtz k = if i = k then big * big else 0 := by decide
end Spo

theorem nd_mul {q : Nat} (hq : Num.Prime q) {a b : Int} (ha : ¬ (q : Int) ∣ a) (hb : ¬ (q : Int) ∣ b) : ¬ (q : Int) ∣ a * b := fun h => by
  rcases Pol.prime_mul hq h with g | g
  · exact ha g
  · exact hb g

theorem big_nd {q : Nat} (hq : Num.Prime q) (h23 : 23 ≤ q) : ¬ (q : Int) ∣ Spo.big := by
  have h : ∀ z : Int, -22 ≤ z → z ≤ 22 → z ≠ 0 → ¬ (q : Int) ∣ z := fun z a b c => Spo.small_nd h23 a b c
  rw [show Spo.big = 16 * (9 * (5 * (7 * (11 * (13 * (17 * 19)))))) from by decide]
  repeat' apply nd_mul hq
  all_goals exact h _ (by decide) (by decide) (by decide)

theorem pbe_nd {q : Nat} (hq : Num.Prime q) (h23 : 23 ≤ q) (i : Nat) (hi : i < 8) : ∀ k, k ≤ 8 → ¬ (q : Int) ∣ Spo.pbe i k
  | 0, _ => Spo.small_nd h23 (z := 1) (by decide) (by decide) (by decide)
  | k + 1, h => by
    unfold Spo.pbe
    split
    · exact pbe_nd hq h23 i hi k (by omega)
    · exact nd_mul hq (pbe_nd hq h23 i hi k (by omega)) (Spo.small_nd h23 (by omega) (by omega) (by omega))

/-- what the program reckons as weights -/
def wt (q : Nat) (i : Nat) : Int := Spo.pab i 8 % (q : Int) * (invn q (Spo.pbe i 8 % (q : Int)) : Int) % (q : Int)
theorem wt_bounds (q i : Nat) (h3 : 3 ≤ q) : 0 ≤ wt q i ∧ wt q i < q := emod_bounds _ q h3
theorem wt_wtz {q : Nat} (hq : Num.Prime q) (h23 : 23 ≤ q) (i : Nat) (hi : i < 8) : (q : Int) ∣ wt q i - Spo.wtz i := by
  have hnd := pbe_nd hq h23 i hi 8 (Nat.le_refl _)
  have hnd2 : ¬ (q : Int) ∣ Spo.pbe i 8 % (q : Int) := fun h => hnd (by
    have e := Pol.emod_dvd q (Spo.pbe i 8)
    have := Int.dvd_sub h e
    rwa [show ∀ a b : Int, a - (a - b) = b from fun a b => by omega] at this)
  have h1 := inv_dvd_one hq (by omega) hnd2
  have e1 : (q : Int) ∣ wt q i - Spo.pab i 8 % (q : Int) * (invn q (Spo.pbe i 8 % (q : Int)) : Int) := Pol.emod_dvd q _
  have e2 := Pol.emod_dvd q (Spo.pab i 8)
  have e3 := Pol.emod_dvd q (Spo.pbe i 8)
  have hk := Spo.pbe_wtz i hi
  generalize (invn q (Spo.pbe i 8 % (q : Int)) : Int) = v at *
  generalize Spo.pbe i 8 % (q : Int) = B at *
  generalize Spo.pab i 8 % (q : Int) = A at *
  generalize Spo.pbe i 8 = b at *
  generalize Spo.pab i 8 = a at *
  generalize wt q i = x at *
  generalize Spo.wtz i = z at *
  obtain ⟨c1, h1⟩ := h1
  obtain ⟨c2, e1⟩ := e1
  obtain ⟨c3, e2⟩ := e2
  obtain ⟨c4, e3⟩ := e3
  refine ⟨c2 + c3 * v - c4 * z * v + z * c1, ?_⟩
  grind

theorem mx_dvd (q : Nat) (h : Nat → Int) (i : Nat) : (q : Int) ∣ mx q h i - Dom.sm (fun j => h j * (invn q ((i + j + 8 : Nat) : Int) : Int)) 8 := by
  have e1 : (q : Int) ∣ mx q h i - Dom.sm (fun j => h j * (invn q ((i + j + 8 : Nat) : Int) : Int) % (q : Int)) 8 := Pol.emod_dvd q _
  have e2 : (q : Int) ∣ Dom.sm (fun j => h j * (invn q ((i + j + 8 : Nat) : Int) : Int) % (q : Int)) 8 - Dom.sm (fun j => h j * (invn q ((i + j + 8 : Nat) : Int) : Int)) 8 := Dom.sm_congr (fun j _ => Pol.emod_dvd q _)
  have := Int.dvd_add e1 e2
  rwa [show ∀ a b c : Int, a - b + (b - c) = a - c from fun a b c => by omega] at this

theorem dvd_tr {q : Nat} {a b c : Int} (h : (q : Int) ∣ a - b) (k : (q : Int) ∣ b - c) : (q : Int) ∣ a - c := by
  have := Int.dvd_add h k
  rwa [show ∀ a b c : Int, a - b + (b - c) = a - c from fun a b c => by omega] at this
theorem dvd_mm {q : Nat} {a b c d : Int} (h : (q : Int) ∣ a - b) (k : (q : Int) ∣ c - d) : (q : Int) ∣ a * c - b * d := by
  obtain ⟨x, hx⟩ := h
  obtain ⟨y, hy⟩ := k
  exact ⟨x * c + b * y, by grind⟩
theorem dvd_rf {q : Nat} (a : Int) : (q : Int) ∣ a - a := by rw [Int.sub_self]; exact Int.dvd_zero _

theorem inv_bq {q : Nat} (hq : Num.Prime q) (h23 : 23 ≤ q) {k : Nat} (h1 : 8 ≤ k) (h2 : k < 23) : (q : Int) ∣ Spo.big * (invn q (k : Int) : Int) - Spo.bq k := by
  obtain ⟨c, hc⟩ := inv_dvd_one hq (by omega) (Spo.small_nd h23 (z := (k : Int)) (by omega) (by omega) (by omega))
  rw [← Spo.big_bq k h2 h1]
  exact ⟨Spo.bq k * c, by grind⟩

/-- big times a mixed state -/
theorem big_mx {q : Nat} (hq : Num.Prime q) (h23 : 23 ≤ q) (f g : Nat → Int) (h : ∀ j, j < 8 → (q : Int) ∣ f j - g j) (i : Nat) (hi : i < 8) : (q : Int) ∣ Spo.big * mx q f i - Dom.sm (fun j => Spo.bq (i + j + 8) * g j) 8 := by
  have e1 := dvd_mm (dvd_rf (q := q) Spo.big) (mx_dvd q f i)
  refine dvd_tr e1 ?_
  rw [← Dom.sm_mul]
  refine Dom.sm_congr (fun j hj => ?_)
  have e2 := dvd_mm (inv_bq hq h23 (k := i + j + 8) (by omega) (by omega)) (h j hj)
  rwa [show ∀ a b c : Int, a * (b * c) = a * c * b from fun a b c => by grind]

/-- unmixed, and mixed again -/
def umx (q : Nat) (a : Nat → Int) (i : Nat) : Int := mx q (fun k => a k * wt q k % (q : Int)) i * wt q i % (q : Int)
theorem umx_bounds (q : Nat) (a : Nat → Int) (i : Nat) (h3 : 3 ≤ q) : 0 ≤ umx q a i ∧ umx q a i < q := emod_bounds _ q h3
theorem mx_umx {q : Nat} (hq : Num.Prime q) (h23 : 23 ≤ q) (a : Nat → Int) (i : Nat) (hi : i < 8) : mx q (umx q a) i = a i % (q : Int) := by
  have hb := mx_bounds q (umx q a) i (by omega)
  rw [← Int.emod_eq_of_lt hb.1 hb.2, Pol.emod_eq_iff (by omega)]
  have hM := big_nd hq h23
  have hMM := nd_mul hq hM hM
  refine Classical.byContradiction fun hno => nd_mul hq hMM hno ?_
  -- big * v j
  have hv : ∀ j, j < 8 → (q : Int) ∣ Spo.big * umx q a j - Spo.wtz j * Dom.sm (fun k => Spo.bq (j + k + 8) * (a k * Spo.wtz k)) 8 := fun j hj => by
    have e1 := big_mx hq h23 (fun k => a k * wt q k % (q : Int)) (fun k => a k * Spo.wtz k) (fun k hk => dvd_tr (Pol.emod_dvd q _) (dvd_mm (dvd_rf _) (wt_wtz hq h23 k hk))) j hj
    have e2 := dvd_mm e1 (wt_wtz hq h23 j hj)
    have e3 : (q : Int) ∣ umx q a j - mx q (fun k => a k * wt q k % (q : Int)) j * wt q j := Pol.emod_dvd q _
    have e4 := dvd_mm (dvd_rf (q := q) Spo.big) e3
    refine dvd_tr e4 ?_
    rw [Int.mul_comm (Spo.wtz j)]
    rwa [Int.mul_assoc] at e2
  have e5 := big_mx hq h23 (fun j => Spo.big * umx q a j) _ hv i hi
  have e6 : (q : Int) ∣ Spo.big * mx q (fun j => Spo.big * umx q a j) i - Spo.big * (Spo.big * mx q (umx q a) i) := by
    refine dvd_mm (dvd_rf _) ?_
    refine dvd_tr (mx_dvd q _ i) ?_
    have e7 := dvd_mm (dvd_rf (q := q) Spo.big) (mx_dvd q (umx q a) i)
    have e8 : (q : Int) ∣ Spo.big * Dom.sm (fun j => umx q a j * (invn q ((i + j + 8 : Nat) : Int) : Int)) 8 - Spo.big * mx q (umx q a) i := by
      obtain ⟨c, hc⟩ := e7
      exact ⟨-c, by grind⟩
    rw [← Dom.sm_mul] at e8
    rwa [show (fun j => Spo.big * umx q a j * (invn q ((i + j + 8 : Nat) : Int) : Int)) = (fun j => Spo.big * (umx q a j * (invn q ((i + j + 8 : Nat) : Int) : Int))) from funext fun j => Int.mul_assoc _ _ _]
  have e9 : Dom.sm (fun j => Spo.bq (i + j + 8) * (Spo.wtz j * Dom.sm (fun k => Spo.bq (j + k + 8) * (a k * Spo.wtz k)) 8)) 8 = Spo.big * Spo.big * a i := by
    have h1 : ∀ j, Spo.bq (i + j + 8) * (Spo.wtz j * Dom.sm (fun k => Spo.bq (j + k + 8) * (a k * Spo.wtz k)) 8) = Dom.sm (fun k => Spo.bq (i + j + 8) * Spo.wtz j * Spo.bq (j + k + 8) * (a k * Spo.wtz k)) 8 := fun j => by
      rw [← Int.mul_assoc, ← Dom.sm_mul]
      exact Dom.sm_same (fun k _ => by grind)
    rw [show (fun j => Spo.bq (i + j + 8) * (Spo.wtz j * Dom.sm (fun k => Spo.bq (j + k + 8) * (a k * Spo.wtz k)) 8)) = (fun j => Dom.sm (fun k => Spo.bq (i + j + 8) * Spo.wtz j * Spo.bq (j + k + 8) * (a k * Spo.wtz k)) 8) from funext h1, Dom.sm_swap]
    have h2 : ∀ k, k < 8 → Dom.sm (fun j => Spo.bq (i + j + 8) * Spo.wtz j * Spo.bq (j + k + 8) * (a k * Spo.wtz k)) 8 = if i = k then Spo.big * Spo.big * a k else 0 := fun k hk => by
      have h3 := Spo.back_key i hi k hk
      rw [show (fun j => Spo.bq (i + j + 8) * Spo.wtz j * Spo.bq (j + k + 8) * (a k * Spo.wtz k)) = (fun j => a k * Spo.wtz k * (Spo.bq (i + j + 8) * Spo.wtz j * Spo.bq (j + k + 8))) from funext fun j => Int.mul_comm _ _, Dom.sm_mul, Int.mul_assoc, Int.mul_comm (Spo.wtz k), h3]
      split
      · exact Int.mul_comm _ _
      · exact Int.mul_zero _
    rw [Dom.sm_same h2]
    have h4 : ∀ n, Dom.sm (fun k => if i = k then Spo.big * Spo.big * a k else 0) n = if i < n then Spo.big * Spo.big * a i else 0 := fun n => by
      induction n with
      | zero => simp [Dom.sm]
      | succ n ih =>
        simp only [Dom.sm]
        rw [ih]
        by_cases g1 : i = n
        · subst g1; simp
        · by_cases g2 : i < n
          · rw [if_pos g2, if_neg g1, if_pos (by omega)]; omega
          · rw [if_neg g2, if_neg g1, if_neg (by omega)]; omega
    rw [h4, if_pos hi]
  rw [e9] at e5
  obtain ⟨c, hc⟩ := e5
  obtain ⟨d, hd⟩ := e6
  exact ⟨c - d, by grind⟩

/-! ## stirring undone -/
def unr (q d : Nat) (r : Nat) (y : Nat → Int) (j : Nat) : Int := (umx q y j ^ d % (q : Int) - cst q r j) % (q : Int)
def ust (q d : Nat) (f : Nat → Int) : Nat → Nat → Int
  | 0, j => f j % (q : Int)
  | k + 1, j => unr q d (7 - k) (ust q d f k) j
theorem ust_bounds (q d : Nat) (f : Nat → Int) (k j : Nat) (h3 : 3 ≤ q) : 0 ≤ ust q d f k j ∧ ust q d f k j < q := by
  cases k with
  | zero => exact emod_bounds _ q h3
  | succ k => exact emod_bounds _ q h3

theorem round_back {q n d : Nat} (hq : Num.Prime q) (h23 : 23 ≤ q) (hd : d * n % (q - 1) = 1) (r : Nat) (y : Nat → Int) (j : Nat) (hj : j < 8) :
    mx q (fun i => (unr q d r y i + cst q r i) ^ n % (q : Int)) j = y j % (q : Int) := by
  rw [← mx_umx hq h23 y j hj]
  refine mx_congr (by omega) (fun i _ => ?_) j
  have hb := umx_bounds q y i (by omega)
  have e1 : (unr q d r y i + cst q r i) % (q : Int) = umx q y i ^ d % (q : Int) % (q : Int) := by
    unfold unr
    rw [Int.emod_add_emod, Int.sub_add_cancel]
  have e2 := powz_back hq (by omega) hd (umx q y i)
  have e3 : (unr q d r y i + cst q r i) ^ n % (q : Int) = (umx q y i ^ d % (q : Int)) ^ n % (q : Int) := by
    rw [← pwm_int q _ n (by omega), ← pwm_int q (umx q y i ^ d % (q : Int)) n (by omega)]
    unfold el
    rw [e1]
  rw [e3, e2, Int.emod_emod_of_dvd _ (Int.dvd_refl _)]

theorem stir_ust {q n d : Nat} (hq : Num.Prime q) (h23 : 23 ≤ q) (hd : d * n % (q - 1) = 1) (f : Nat → Int) : ∀ t, t ≤ 8 → ∀ j, j < 8 → stir q n (ust q d f 8) t j = ust q d f (8 - t) j
  | 0, _, j, _ => by
    have hb := ust_bounds q d f 8 j (by omega)
    show ust q d f 8 j % (q : Int) = _
    rw [Int.emod_eq_of_lt hb.1 hb.2]
  | t + 1, h, j, hj => by
    have ih := stir_ust hq h23 hd f t (by omega)
    have e1 : stir q n (ust q d f 8) (t + 1) j = mx q (fun i => (unr q d t (ust q d f (7 - t)) i + cst q t i) ^ n % (q : Int)) j := by
      refine mx_congr (by omega) (fun i hi => ?_) j
      rw [ih i hi, show 8 - t = (7 - t) + 1 from by omega]
      show ((unr q d (7 - (7 - t)) (ust q d f (7 - t)) i + _) ^ n % (q : Int)) % (q : Int) = _
      rw [show 7 - (7 - t) = t from by omega]
    have hb := ust_bounds q d f (7 - t) j (by omega)
    rw [e1, round_back hq h23 hd t _ j hj, Int.emod_eq_of_lt hb.1 hb.2, show 8 - (t + 1) = 7 - t from by omega]

/-- stirring what was unstirred -/
theorem stir_back {q n d : Nat} (hq : Num.Prime q) (h23 : 23 ≤ q) (hd : d * n % (q - 1) = 1) (f : Nat → Int) (j : Nat) (hj : j < 8) : stir q n (ust q d f 8) 8 j = f j % (q : Int) := stir_ust hq h23 hd f 8 (Nat.le_refl _) j hj
/-- unstirring what was stirred -/
theorem unstir_back {q n d : Nat} (hq : Num.Prime q) (h23 : 23 ≤ q) (hn : Spo.PowIs q n) (hd : d * n % (q - 1) = 1) (f : Nat → Int) (j : Nat) (hj : j < 8) : ust q d (stir q n f 8) 8 j = f j % (q : Int) := by
  have h1 := stir_inj hq h23 hn (f := ust q d (stir q n f 8) 8) (g := f) 8 (fun i hi => by
    have hb := stir_bounds q n f 8 i (by omega)
    rw [stir_back hq h23 hd _ i hi, Int.emod_eq_of_lt hb.1 hb.2]) j hj
  have hb := ust_bounds q d (stir q n f 8) 8 j (by omega)
  rw [← h1, Int.emod_eq_of_lt hb.1 hb.2]

end Go.Proofs.YtfijhnojflcajadDoor
