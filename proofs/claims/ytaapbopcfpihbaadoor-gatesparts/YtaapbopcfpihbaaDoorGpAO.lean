/- The law GatesValues: its walk. Plain facts on circuits: a table with its first variables fixed, bits, weights. -/
import Derived.Test.YtaapbopcfpihbaaDoorGpAM
import Derived.Test.YtaapbopcfpihbaaDoorGrC
import Derived.Test.YtaapbopcfpihbaaDoorGrD
import Derived.Test.YtaapbopcfpihbaaDoorLawUTotals
import Derived.Test.YtaapbopcfpihbaaDoorGpAK
import Derived.Test.YtaapbopcfpihbaaDoorSumT
namespace Go.Proofs.YtaapbopcfpihbaaDoor
open Go.RowKit

theorem wdz_wide {wide : Int} {m : Nat} (h0 : 0 ≤ wide) (h6 : wide ≤ 6) : wdz m = wide ↔ m = 2 ^ wide.toNat := by
  constructor
  · intro h
    obtain ⟨v, h1, h2, h5⟩ := wdz_of (n := m) (by omega)
    rw [h2]
    congr 1
    omega
  · intro h
    rw [wdz_yes (v := wide.toNat) (by omega) h]
    omega

end Go.Proofs.YtaapbopcfpihbaaDoor

namespace Go.Proofs.YtaapbopcfpihbaaDoor
open Go.RowKit

/-- a table the first variables of which are some elements -/
def fxs (p : Nat) (t : List Int) (fs : Nat → Int) : Nat → List Int
  | 0 => t
  | k + 1 => fixl p (fxs p t fs k) (fs k)
theorem fxs_len {p n : Nat} {t : List Int} (fs : Nat → Int) (h : t.length = 2 ^ n) : ∀ k, k ≤ n → (fxs p t fs k).length = 2 ^ (n - k)
  | 0, _ => h
  | k + 1, hk => by
    rw [fxs, fixl_len, fxs_len fs h k (by omega), show n - k = n - (k + 1) + 1 from by omega, Nat.pow_succ]
    omega
theorem fxs_fits {p : Nat} (h3 : 3 ≤ p) (hm : p ≤ 2147483647) {t : List Int} (fs : Nat → Int) (h : Fits t) : ∀ k, Fits (fxs p t fs k)
  | 0 => h
  | _ + 1 => fixl_fits h3 hm _ _
theorem fxs_same {p : Nat} {t : List Int} {fs gs : Nat → Int} : ∀ k, (∀ j, j < k → fs j = gs j) → fxs p t fs k = fxs p t gs k
  | 0, _ => rfl
  | k + 1, h => by rw [fxs, fxs, fxs_same k (fun j hj => h j (by omega)), h k (by omega)]
/-- what a table extends to is what is left of it -/
theorem ext_fxs {p n : Nat} {t : List Int} (at' : Nat → Int) (h : t.length = 2 ^ n) : ∀ k, k ≤ n → (p : Int) ∣ Sum.ext (zat t) at' n - Sum.ext (zat (fxs p t at' k)) (fun j => at' (k + j)) (n - k)
  | 0, _ => by
    have : Sum.ext (zat (fxs p t at' 0)) (fun j => at' (0 + j)) (n - 0) = Sum.ext (zat t) at' n := Sum.ext_same (fun i _ => rfl) (fun j _ => by rw [Nat.zero_add])
    rw [this, Int.sub_self]
    exact Int.dvd_zero _
  | i + 1, hi => by
    have ih := ext_fxs (p := p) at' h i (by omega)
    obtain ⟨m, hm⟩ : ∃ m, n - (i + 1) = m := ⟨_, rfl⟩
    rw [show n - i = m + 1 from by omega, Sum.ext_succ] at ih
    rw [hm]
    have hl : (fxs p t at' i).length = 2 ^ (m + 1) := by rw [fxs_len at' h i (by omega)]; congr 1; omega
    have hh : 2 ^ (m + 1) / 2 = 2 ^ m := by rw [Nat.pow_succ]; omega
    have e : (p : Int) ∣ Sum.ext (fun x => zat (fxs p t at' i) x * (1 - at' (i + 0)) + zat (fxs p t at' i) (x + 2 ^ m) * at' (i + 0)) (fun j => at' (i + (j + 1))) m - Sum.ext (zat (fxs p t at' (i + 1))) (fun j => at' (i + 1 + j)) m := by
      refine Sum.ext_congr (fun x hx => ?_) (fun j _ => ?_)
      · rw [fxs, fixl_at (by rw [hl, hh]; exact hx), hl, hh, Nat.add_zero]
        have := Int.dvd_neg.2 (Pol.emod_dvd p (zat (fxs p t at' i) x * (1 - at' i) + zat (fxs p t at' i) (x + 2 ^ m) * at' i))
        rwa [Int.neg_sub] at this
      · rw [show i + (j + 1) = i + 1 + j from by omega, Int.sub_self]
        exact Int.dvd_zero _
    have := Int.dvd_add ih e
    rwa [show ∀ a b c : Int, a - b + (b - c) = a - c from fun a b c => by omega] at this

/-- a number's bits, the greatest first -/
def bitz (n i k : Nat) : Int := ((i / 2 ^ (n - 1 - k) % 2 : Nat) : Int)
theorem bitz_cut {n k A j : Nat} (_hk : k ≤ n) (hj : j < n - k) : bitz n A (k + j) = bitz (n - k) (A % 2 ^ (n - k)) j := by
  unfold bitz
  have e : n - 1 - (k + j) = n - k - 1 - j := by omega
  rw [e]
  obtain ⟨m, hm⟩ : ∃ m, m = n - k := ⟨_, rfl⟩
  rw [← hm] at hj ⊢
  obtain ⟨d, hd⟩ : ∃ d, d = m - 1 - j := ⟨_, rfl⟩
  rw [← hd]
  have h2 : 2 ^ m = 2 ^ d * 2 ^ (m - d) := by rw [← Nat.pow_add]; congr 1; omega
  have h3 : A % 2 ^ m / 2 ^ d = A / 2 ^ d % 2 ^ (m - d) := by
    rw [h2, Nat.mod_mul_right_div_self]
  rw [h3]
  have h4 : 2 ^ (m - d) = 2 * 2 ^ (m - d - 1) := by rw [show m - d = m - d - 1 + 1 from by omega, Nat.pow_succ, Nat.mul_comm]; rfl
  rw [h4, Nat.mod_mul_right_mod]
theorem ext_bits (t : Nat → Int) (v j : Nat) (hj : j < 2 ^ v) : Sum.ext t (bitz v j) v = t j := by
  induction v generalizing t j with
  | zero =>
    rw [Sum.ext_zero]
    congr 1
    simp at hj
    omega
  | succ v ih =>
    rw [Sum.ext_succ]
    have hb : ∀ k, k < v → bitz (v + 1) j (k + 1) = bitz v (j % 2 ^ v) k := fun k hk => by
      have := bitz_cut (n := v + 1) (k := 1) (A := j) (j := k) (by omega) (by omega)
      rw [Nat.add_comm 1 k] at this
      exact this
    by_cases h : j < 2 ^ v
    · have h0 : bitz (v + 1) j 0 = 0 := by
        unfold bitz
        rw [show v + 1 - 1 - 0 = v from by omega, Nat.div_eq_of_lt h]
        rfl
      rw [Sum.ext_same (u := t) (bt := bitz v j) (fun i _ => by rw [h0]; simp) (fun k hk => by rw [hb k hk, Nat.mod_eq_of_lt h])]
      exact ih t j h
    · have h2 : j < 2 ^ v + 2 ^ v := by rw [Nat.pow_succ] at hj; omega
      have hd : j / 2 ^ v = 1 := by
        rw [Nat.div_eq_iff (Nat.two_pow_pos v)]
        omega
      have h0 : bitz (v + 1) j 0 = 1 := by
        unfold bitz
        rw [show v + 1 - 1 - 0 = v from by omega, hd]
        rfl
      have hm : j % 2 ^ v = j - 2 ^ v := by rw [Nat.mod_eq_sub_mod (by omega), Nat.mod_eq_of_lt (by omega)]
      rw [Sum.ext_same (u := fun i => t (i + 2 ^ v)) (bt := bitz v (j - 2 ^ v)) (fun i _ => by rw [h0]; simp) (fun k hk => by rw [hb k hk, hm])]
      rw [ih (fun i => t (i + 2 ^ v)) (j - 2 ^ v) (by omega)]
      congr 1
      omega
/-- a table at first elements, then a number's last bits -/
theorem cut_fxs {p n k A : Nat} {t : List Int} {fs at' : Nat → Int} (h : t.length = 2 ^ n) (hk : k ≤ n) (h1 : ∀ j, j < k → at' j = fs j) (h2 : ∀ j, k ≤ j → j < n → at' j = bitz n A j) : (p : Int) ∣ Sum.ext (zat t) at' n - zat (fxs p t fs k) (A % 2 ^ (n - k)) := by
  have := ext_fxs (p := p) at' h k hk
  rw [fxs_same k h1, Sum.ext_same (u := zat (fxs p t fs k)) (bt := bitz (n - k) (A % 2 ^ (n - k))) (fun i _ => rfl) (fun j hj => by rw [h2 (k + j) (by omega) (by omega), bitz_cut hk hj])] at this
  rw [ext_bits _ _ _ (Nat.mod_lt _ (Nat.two_pow_pos _))] at this
  exact this
/-- a place's first bits, each by its factor -/
theorem wgt_cut {n k A : Nat} (fs : Nat → Int) (hk : k ≤ n) : Sum.wgt fs k (A / 2 ^ (n - k)) = Sum.prz (fun j => if bitz n A j = 0 then 1 - fs j else fs j) k := by
  rw [← prz_wgf]
  refine Sum.prz_same (fun j hj => ?_)
  unfold wgf bitz
  rw [Nat.div_div_eq_div_mul, ← Nat.pow_add, show n - k + (k - 1 - j) = n - 1 - j from by omega]
  generalize A / 2 ^ (n - 1 - j) % 2 = X
  by_cases e : X = 0
  · rw [if_pos e, if_pos (by omega)]
  · rw [if_neg e, if_neg (by omega)]

/-- a gate's part in a layer's sum with the first variables fixed -/
def ptt (p : Nat) (gs : List GatZ) (below : List Int) (n : Nat) (z xs : List Int) (i : Nat) : Int :=
  Sum.wgt (zat z) z.length i * Sum.wgt (zat xs) (min xs.length n) ((gat gs i).a.toNat / 2 ^ (n - min xs.length n)) * Sum.wgt (fun j => zat xs (min xs.length n + j)) (xs.length - min xs.length n) ((gat gs i).b.toNat / 2 ^ (n - (xs.length - min xs.length n))) *
    jnz p (gat gs i).kind (zat (fxs p below (zat xs) (min xs.length n)) ((gat gs i).a.toNat % 2 ^ (n - min xs.length n))) (zat (fxs p below (fun j => zat xs (min xs.length n + j)) (xs.length - min xs.length n)) ((gat gs i).b.toNat % 2 ^ (n - (xs.length - min xs.length n))))
/-- a layer's sum -/
def ptz (p : Nat) (gs : List GatZ) (below : List Int) (n : Nat) (z xs : List Int) : Int := Dom.sm (ptt p gs below n z xs) gs.length % (p : Int)

end Go.Proofs.YtaapbopcfpihbaaDoor
