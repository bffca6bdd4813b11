/- attestref3, the digests: common, Power, Constant, Mix, Permute, Pad, Hash; attestref1.All as a list of its own. attestref3, the digests: Permute, Pad, Hash; attestref1.Same; attestlaw3.differ. attestref3, the digests: Hash; attestref1.Same; attestlaw3.differ. attestref1.Same; attestlaw3.differ. Plain facts on digests: unlike lists have unlike Pads; stirring is undone in one way alone. attestref3, the trees: Leaf, Node, Left, Root. attestref3, the trees: Some, Once. -/
import Derived.Test.YtaibngnabhmabajGreatDoorPlain
import Derived.Test.YtaibngnabhmabajGreatDoorPls
import Derived.Test.YtaibngnabhmabajGreatDoorDoms
import Derived.Deep.QuietTactic
import Derived.StillTailTactics
import Derived.Laws.AppendOwnNone
namespace Go.Proofs.YtaibngnabhmabajGreatDoor
open Go.RowKit


/-! ## common, Power -/
def cmb (n m : Nat) : Bool := (List.range (n + 1)).any (fun i => decide (2 ≤ i) && n % i == 0 && m % i == 0)
theorem cmb_iff (n m : Nat) (hn : 1 ≤ n) : cmb n m = false ↔ Spo.Apart n m := by
  unfold cmb
  rw [List.any_eq_false]
  constructor
  · intro h i hi h1 h2
    have hle := Nat.le_of_dvd (by omega) h1
    have := h i (List.mem_range.2 (by omega))
    simp [hi, Nat.mod_eq_zero_of_dvd h1, Nat.mod_eq_zero_of_dvd h2] at this
  · intro h i _
    by_cases hi : 2 ≤ i
    · by_cases h1 : n % i = 0
      · have := h i hi (Nat.dvd_of_mod_eq_zero h1)
        have h2 : ¬ m % i = 0 := fun e => this (Nat.dvd_of_mod_eq_zero e)
        simp [h1, h2]
      · simp [h1]
    · simp [hi]

/-! ## Constant -/
def cst (q : Nat) (r i : Int) : Int := if r < 0 ∨ 7 < r ∨ i < 0 ∨ 7 < i then 0 else ((8 * r + i + 1) ^ 5 + 3) % (q : Int)
theorem cst_bounds (q : Nat) (r i : Int) (h3 : 3 ≤ q) : 0 ≤ cst q r i ∧ cst q r i < q := by
  unfold cst
  split
  · omega
  · exact emod_bounds _ q h3
theorem pwm_int (q : Nat) (a : Int) (n : Nat) (h3 : 3 ≤ q) : ((Num.pwm q (el q a) n : Nat) : Int) = a ^ n % (q : Int) := by
  rw [Num.pwm_cast, el_cast q a h3, Pol.emod_eq_iff (by omega)]
  exact Dom.pow_congr (Pol.emod_dvd q a) n

/-! ## Mix -/
def mxs (q : Nat) (f : Nat → Int) (i k : Nat) : Int := Dom.sm (fun j => f j * (invn q ((i + j + 8 : Nat) : Int) : Int) % (q : Int)) k % (q : Int)
def mx (q : Nat) (f : Nat → Int) (i : Nat) : Int := mxs q f i 8
theorem mxs_succ (q : Nat) (f : Nat → Int) (i k : Nat) : (mxs q f i k + f k * (invn q ((i + k + 8 : Nat) : Int) : Int) % (q : Int)) % (q : Int) = mxs q f i (k + 1) := by
  unfold mxs
  simp only [Dom.sm]
  rw [Int.add_emod, Int.emod_emod_of_dvd _ (Int.dvd_refl _), ← Int.add_emod]

end Go.Proofs.YtaibngnabhmabajGreatDoor

namespace Go.Proofs.YtaibngnabhmabajGreatDoor
open Go.RowKit

/-! ## Permute -/
/-- a state after k rounds -/
def stir (q n : Nat) (f : Nat → Int) : Nat → Nat → Int
  | 0, j => f j % (q : Int)
  | k + 1, j => mx q (fun i => (stir q n f k i + cst q k i) ^ n % (q : Int)) j
theorem mx_bounds (q : Nat) (f : Nat → Int) (j : Nat) (h3 : 3 ≤ q) : 0 ≤ mx q f j ∧ mx q f j < q := emod_bounds _ q h3
theorem stir_bounds (q n : Nat) (f : Nat → Int) (k j : Nat) (h3 : 3 ≤ q) : 0 ≤ stir q n f k j ∧ stir q n f k j < q := by
  cases k with
  | zero => exact emod_bounds _ q h3
  | succ k => exact mx_bounds _ _ _ h3

/-! ## Pad -/
def pdf (q : Nat) (f : Nat → Int) (n j : Nat) : Int := if j < n then f j % (q : Int) else if j = n then 1 else 0
/-- how long a list is with what stands behind it -/
def pln (n : Nat) : Nat := 4 * (n / 4 + 1)

theorem ls_same {f g : Nat → Int} {n : Nat} (h : ∀ j, j < n → f j = g j) : ls f n = ls g n := by
  unfold ls
  exact List.map_congr_left (fun j hj => h j (List.mem_range.1 hj))

/-- how long a slice is -/
def lenV : Value → Nat
  | .slice _ n _ => n
  | _ => 0
theorem owns_len {w : World} {base : Nat} {v : Value} {zs : List Int} (h : w.ownsRow base 3 1 v zs.length (zs.map (Value.int .i64))) : ∃ a c, v = .slice a zs.length c := by
  obtain ⟨a, c, h1, _⟩ := lst_of_owns h
  exact ⟨a, c, h1⟩

end Go.Proofs.YtaibngnabhmabajGreatDoor

namespace Go.Proofs.YtaibngnabhmabajGreatDoor
open Go.RowKit

/-- four of a list are added to a state's first four places -/
def soak (q : Nat) (s P : Nat → Int) (t : Nat) (j : Nat) : Int := if j < 4 then (s j + P (4 * t + j)) % (q : Int) else s j
/-- the state behind t fours of a list -/
def hst (q n : Nat) (P : Nat → Int) : Nat → Nat → Int
  | 0, _ => 0
  | t + 1, j => stir q n (soak q (hst q n P t) P t) 8 j
theorem hst_bounds (q n : Nat) (P : Nat → Int) (t j : Nat) (h3 : 3 ≤ q) : 0 ≤ hst q n P t j ∧ hst q n P t j < q := by
  cases t with
  | zero => exact ⟨Int.le_refl _, by show (0 : Int) < q; omega⟩
  | succ t => exact stir_bounds _ _ _ _ _ h3
theorem pdf_bounds (q : Nat) (f : Nat → Int) (n j : Nat) (h3 : 3 ≤ q) : 0 ≤ pdf q f n j ∧ pdf q f n j < q := by
  unfold pdf
  split
  · exact emod_bounds _ q h3
  · split <;> omega

end Go.Proofs.YtaibngnabhmabajGreatDoor

namespace Go.Proofs.YtaibngnabhmabajGreatDoor
open Go.RowKit

/-- are two lists the same, as elements? -/
def samb (q : Nat) (xs ys : List Int) : Bool := decide (xs.map (· % (q : Int)) = ys.map (· % (q : Int)))

theorem samb_true {q : Nat} {xs ys : List Int} (hl : xs.length = ys.length) (h : ∀ j, j < xs.length → zat xs j % (q : Int) = zat ys j % (q : Int)) : samb q xs ys = true := by
  unfold samb
  rw [decide_eq_true_eq]
  refine List.ext_getElem (by simpa using hl) (fun j h1 h2 => ?_)
  rw [List.length_map] at h1 h2
  have := h j h1
  simpa [zat, h1, h2] using this
theorem samb_false {q : Nat} {xs ys : List Int} (h : xs.length ≠ ys.length ∨ ∃ j, j < xs.length ∧ zat xs j % (q : Int) ≠ zat ys j % (q : Int)) : samb q xs ys = false := by
  unfold samb
  rw [decide_eq_false_iff_not]
  intro e
  have hl : xs.length = ys.length := by simpa using congrArg List.length e
  rcases h with h | ⟨j, h1, h2⟩
  · exact h hl
  · have := congrArg (fun l : List Int => l[j]?) e
    simp [h1, show j < ys.length from by omega] at this
    exact h2 (by simpa [zat, h1, show j < ys.length from by omega] using this)

/-- at which places two states differ -/
def dfb (q : Nat) (f g : Nat → Int) (j : Nat) : Bool := !(f j % (q : Int) == g j % (q : Int))

/-- behind the matrix, what is unlike at few places is unlike at many -/
theorem spreads {q : Nat} (hq : Num.Prime q) (h23 : 23 ≤ q) (f g : Nat → Int) (h0 : 0 < Cod.cnt (dfb q f g) 8) : 9 ≤ Cod.cnt (dfb q f g) 8 + Cod.cnt (dfb q (mx q f) (mx q g)) 8 := by
  refine Nat.le_of_not_lt (fun hlt => ?_)
  have hnot := Cod.cnt_not (dfb q (mx q f) (mx q g)) 8
  have hz : ∀ j, j < 8 → (q : Int) ∣ f j - g j := by
    refine Spo.cauchy hq h23 (fun j => f j - g j) (fun k => (invn q (k : Int) : Int)) (fun k h1 h2 => inv_dvd_one hq (by omega) (Spo.small_nd h23 (by omega) (by omega) (by omega))) (dfb q f g) (fun j => !dfb q (mx q f) (mx q g) j) (fun j _ hd => ?_) (fun i _ hZ => ?_) (by omega)
    · unfold dfb at hd
      simp at hd
      exact (Pol.emod_eq_iff (by omega)).1 hd
    · unfold dfb at hZ
      simp at hZ
      have hb1 := mx_bounds q f i (by omega)
      have hb2 := mx_bounds q g i (by omega)
      rw [Int.emod_eq_of_lt hb1.1 hb1.2, Int.emod_eq_of_lt hb2.1 hb2.2] at hZ
      have h1 : ∀ h : Nat → Int, (q : Int) ∣ mx q h i - Dom.sm (fun j => h j * (invn q ((i + j + 8 : Nat) : Int) : Int)) 8 := fun h => by
        have e1 : (q : Int) ∣ mx q h i - Dom.sm (fun j => h j * (invn q ((i + j + 8 : Nat) : Int) : Int) % (q : Int)) 8 := Pol.emod_dvd q _
        have e2 : (q : Int) ∣ Dom.sm (fun j => h j * (invn q ((i + j + 8 : Nat) : Int) : Int) % (q : Int)) 8 - Dom.sm (fun j => h j * (invn q ((i + j + 8 : Nat) : Int) : Int)) 8 := Dom.sm_congr (fun j _ => Pol.emod_dvd q _)
        have := Int.dvd_add e1 e2
        rwa [show ∀ a b c : Int, a - b + (b - c) = a - c from fun a b c => by omega] at this
      have h2 := Int.dvd_sub (h1 g) (h1 f)
      rw [hZ] at h2
      have h3 : Dom.sm (fun j => (f j - g j) * (invn q ((i + j + 8 : Nat) : Int) : Int)) 8 = Dom.sm (fun j => f j * (invn q ((i + j + 8 : Nat) : Int) : Int)) 8 - Dom.sm (fun j => g j * (invn q ((i + j + 8 : Nat) : Int) : Int)) 8 := by
        have e1 := Dom.sm_add (fun j => (f j - g j) * (invn q ((i + j + 8 : Nat) : Int) : Int)) (fun j => g j * (invn q ((i + j + 8 : Nat) : Int) : Int)) 8
        have e2 : Dom.sm (fun j => (f j - g j) * (invn q ((i + j + 8 : Nat) : Int) : Int) + g j * (invn q ((i + j + 8 : Nat) : Int) : Int)) 8 = Dom.sm (fun j => f j * (invn q ((i + j + 8 : Nat) : Int) : Int)) 8 := Dom.sm_same (fun j _ => by grind)
        omega
      rw [h3]
      rwa [show ∀ a b c : Int, a - b - (a - c) = c - b from fun a b c => by omega] at h2
  have : Cod.cnt (dfb q f g) 8 = 0 := Cod.cnt_zero.2 (fun j hj => by
    unfold dfb
    rw [(Pol.emod_eq_iff (by omega)).2 (hz j hj)]
    simp)
  omega

end Go.Proofs.YtaibngnabhmabajGreatDoor

namespace Go.Proofs.YtaibngnabhmabajGreatDoor
open Go.RowKit

theorem pln_lt (n : Nat) : n < pln n := by unfold pln; omega
theorem pdf_low {q : Nat} {f : Nat → Int} {n j : Nat} (h : j < n) : pdf q f n j = f j % (q : Int) := by unfold pdf; rw [if_pos h]
theorem pdf_at (q : Nat) (f : Nat → Int) (n : Nat) : pdf q f n n = 1 := by unfold pdf; rw [if_neg (Nat.lt_irrefl _), if_pos rfl]
theorem pdf_high {q : Nat} {f : Nat → Int} {n j : Nat} (h : n < j) : pdf q f n j = 0 := by unfold pdf; rw [if_neg (by omega), if_neg (by omega)]

theorem ls_eq {f g : Nat → Int} {n m : Nat} (h : ls f n = ls g m) : n = m ∧ ∀ j, j < n → f j = g j := by
  have hl : n = m := by have := congrArg List.length h; rwa [ls_len, ls_len] at this
  refine ⟨hl, fun j hj => ?_⟩
  have : zat (ls f n) j = zat (ls g m) j := by rw [h]
  rwa [ls_at _ _ _ hj, ls_at _ _ _ (by omega)] at this

/-- unlike lists, as elements, have unlike Pads -/
theorem pad_same (q : Nat) (xs ys : List Int) : decide (ls (pdf q (zat xs) xs.length) (pln xs.length) = ls (pdf q (zat ys) ys.length) (pln ys.length)) = samb q xs ys := by
  by_cases h : ls (pdf q (zat xs) xs.length) (pln xs.length) = ls (pdf q (zat ys) ys.length) (pln ys.length)
  · rw [decide_eq_true h]
    obtain ⟨h1, h2⟩ := ls_eq h
    have hl : xs.length = ys.length := by
      rcases Nat.lt_trichotomy xs.length ys.length with g | g | g
      · have e := h2 ys.length (by rw [h1]; exact pln_lt _)
        rw [pdf_at, pdf_high g] at e
        exact absurd e (by decide)
      · exact g
      · have e := h2 xs.length (pln_lt _)
        rw [pdf_at, pdf_high g] at e
        exact absurd e (by decide)
    refine (samb_true hl (fun j hj => ?_)).symm
    have e := h2 j (Nat.lt_trans hj (pln_lt _))
    rwa [pdf_low hj, pdf_low (by omega)] at e
  · rw [decide_eq_false h]
    refine (samb_false (Classical.byContradiction fun hc => h ?_)).symm
    have hl : xs.length = ys.length := Classical.byContradiction fun e => hc (Or.inl e)
    rw [hl]
    refine ls_same (fun j _ => ?_)
    unfold pdf
    by_cases e : j < ys.length
    · rw [if_pos e, if_pos e]
      exact Classical.byContradiction fun e2 => hc (Or.inr ⟨j, by omega, e2⟩)
    · rw [if_neg e, if_neg e]

/-! ## powers that are undone -/
theorem bezout : ∀ (b a : Nat), ∃ x y : Int, (a : Int) * x + (b : Int) * y = (Nat.gcd a b : Nat) := by
  intro b
  induction b using Nat.strongRecOn with
  | _ b ih =>
    intro a
    by_cases h : b = 0
    · subst h; exact ⟨1, 0, by simp⟩
    · obtain ⟨x, y, hxy⟩ := ih (a % b) (Nat.mod_lt _ (by omega)) b
      refine ⟨y, x - (a / b : Nat) * y, ?_⟩
      have h1 : Nat.gcd b (a % b) = Nat.gcd a b := by rw [Nat.gcd_comm b (a % b), ← Nat.gcd_rec, Nat.gcd_comm]
      rw [← h1, ← hxy]
      have h2 : (a : Int) = (b : Int) * ((a / b : Nat) : Int) + ((a % b : Nat) : Int) := by
        have := Nat.div_add_mod a b
        exact_mod_cast this.symm
      generalize ((a / b : Nat) : Int) = d at *
      generalize ((a % b : Nat) : Int) = m at *
      rw [h2]
      grind

theorem inv_some {n m : Nat} (hm : 2 ≤ m) (h : Nat.gcd n m = 1) : ∃ d : Nat, n * d % m = 1 := by
  obtain ⟨x, y, hxy⟩ := bezout m n
  rw [h] at hxy
  have h0 : 0 ≤ x % (m : Int) := Int.emod_nonneg _ (by omega)
  refine ⟨(x % (m : Int)).toNat, ?_⟩
  have h1 : ((n * (x % (m : Int)).toNat % m : Nat) : Int) = 1 := by
    push_cast
    rw [Int.toNat_of_nonneg h0, Int.mul_emod, Int.emod_emod_of_dvd _ (Int.dvd_refl _), ← Int.mul_emod]
    have e : (n : Int) * x = 1 + (m : Int) * (-y) := by rw [Int.mul_neg]; push_cast at hxy; omega
    rw [e, Int.add_mul_emod_self_left]
    exact Int.emod_eq_of_lt (by omega) (by omega)
  exact_mod_cast h1

theorem PowIs_inv {q n : Nat} (h5 : 5 ≤ q) (h : Spo.PowIs q n) : ∃ d : Nat, n * d % (q - 1) = 1 := inv_some (by omega) ((Spo.apart_gcd (by have := h.1; omega)).1 h.2.1)

/-- a power and its back: what d undoes -/
theorem powz_back {q n d : Nat} (hq : Num.Prime q) (h3 : 3 ≤ q) (hd : n * d % (q - 1) = 1) (x : Int) : (x ^ n % (q : Int)) ^ d % (q : Int) = x % (q : Int) := by
  rw [← pwm_int q x n h3, ← pwm_int q _ d h3]
  have e1 : el q ((Num.pwm q (el q x) n : Nat) : Int) = Num.pwm q (el q x) n := by
    have h0 := Num.pwm_lt q (el q x) n (by omega)
    have := el_cast q ((Num.pwm q (el q x) n : Nat) : Int) h3
    rw [Int.emod_eq_of_lt (by omega) (by omega)] at this
    exact_mod_cast this
  rw [e1, Spo.pow_back hq (el_lt q x h3) hd, el_cast q x h3]

theorem powz_inj {q n : Nat} (hq : Num.Prime q) (h5 : 5 ≤ q) (h : Spo.PowIs q n) {x y : Int} (e : x ^ n % (q : Int) = y ^ n % (q : Int)) : x % (q : Int) = y % (q : Int) := by
  obtain ⟨d, hd⟩ := PowIs_inv h5 h
  rw [← powz_back hq (by omega) hd x, ← powz_back hq (by omega) hd y, e]

/-! ## stirring -/
theorem mx_inj {q : Nat} (hq : Num.Prime q) (h23 : 23 ≤ q) {f g : Nat → Int} (h : ∀ i, i < 8 → mx q f i = mx q g i) (j : Nat) (hj : j < 8) : f j % (q : Int) = g j % (q : Int) := by
  by_cases h0 : 0 < Cod.cnt (dfb q f g) 8
  · have h1 := spreads hq h23 f g h0
    have h2 : Cod.cnt (dfb q (mx q f) (mx q g)) 8 = 0 := Cod.cnt_zero.2 (fun i hi => by unfold dfb; rw [h i hi]; simp)
    have h3 := Cod.cnt_le (dfb q f g) 8
    omega
  · have := (Cod.cnt_zero.1 (show Cod.cnt (dfb q f g) 8 = 0 by omega)) j hj
    unfold dfb at this
    simpa using this

theorem stir_inj {q n : Nat} (hq : Num.Prime q) (h23 : 23 ≤ q) (hn : Spo.PowIs q n) {f g : Nat → Int} : ∀ k, (∀ j, j < 8 → stir q n f k j = stir q n g k j) → ∀ j, j < 8 → f j % (q : Int) = g j % (q : Int)
  | 0, h, j, hj => h j hj
  | k + 1, h, j, hj => by
    refine stir_inj hq h23 hn k (fun i hi => ?_) j hj
    have h1 := mx_inj hq h23 (f := fun i => (stir q n f k i + cst q k i) ^ n % (q : Int)) (g := fun i => (stir q n g k i + cst q k i) ^ n % (q : Int)) (fun i hi => h i hi) i hi
    simp only [Int.emod_emod_of_dvd _ (Int.dvd_refl _)] at h1
    have h2 := powz_inj hq (by omega) hn h1
    have h3 := (Pol.emod_eq_iff (by omega)).1 h2
    have b1 := stir_bounds q n f k i (by omega)
    have b2 := stir_bounds q n g k i (by omega)
    rw [show ∀ a b c : Int, a + c - (b + c) = a - b from fun a b c => by omega] at h3
    exact Pol.eq_of_dvd h3 b1.1 b1.2 b2.1 b2.2

/-- the state's elements alone count -/
theorem mx_congr {q : Nat} {f g : Nat → Int} (hq : 0 < q) (h : ∀ j, j < 8 → f j % (q : Int) = g j % (q : Int)) (i : Nat) : mx q f i = mx q g i := by
  unfold mx mxs
  rw [Pol.emod_eq_iff hq]
  refine Dom.sm_congr (fun j hj => ?_)
  rw [show f j * (invn q ((i + j + 8 : Nat) : Int) : Int) % (q : Int) = g j * (invn q ((i + j + 8 : Nat) : Int) : Int) % (q : Int) from by rw [Int.mul_emod, h j hj, ← Int.mul_emod], Int.sub_self]
  exact Int.dvd_zero _
theorem stir_congr {q n : Nat} {f g : Nat → Int} (hq : 0 < q) (h : ∀ j, j < 8 → f j % (q : Int) = g j % (q : Int)) : ∀ k j, j < 8 → stir q n f k j = stir q n g k j
  | 0, j, hj => h j hj
  | k + 1, j, _ => mx_congr hq (fun i hi => by rw [stir_congr hq h k i hi]) j

end Go.Proofs.YtaibngnabhmabajGreatDoor

namespace Go.Proofs.YtaibngnabhmabajGreatDoor
open Go.RowKit

/-- a list of one -/
theorem owns_one (w : World) (x : Int) : (w.alloc (.cells #[.int .i64 x] 3)).ownsRow w.heap.size 3 1 (.slice (some ⟨w.heap.size, 0, none⟩) 1 1) [x].length ([x].map (Value.int .i64)) :=
  ⟨by simp, .inr ⟨w.heap.size, 1, #[.int .i64 x], rfl, Nat.le_refl _, heap_alloc_new w _, Nat.le_refl _, by unfold maxLen; omega, rfl, by simp⟩⟩

/-- append(l, m...) where l is the call's own -/
theorem wpList_appendL {ops : Array Oper} {rest : List Oper} {o : Oper} {act : Act} {Q : Exit → Act → World → Prop} (W : World) (base n0 : Nat) (hgd : o.guard = none) (s x : Operand)
    (ho : o.op = .call { callee := .builtin .append, args := #[s, x], argTypes := #[22, 22] }) (v : Value) (hs : act.eval s = v) (zs ys : List Int)
    (hown : W.ownsRow base 3 1 v zs.length (zs.map (Value.int .i64))) (av : Option Addr) (cap : Nat) (hx : act.eval x = .slice av ys.length cap) (hlen : zs.length + ys.length ≤ 17592186044416) (hbase : base ≤ W.heap.size) (hl : Lst n0 W av cap ys)
    (h : ∀ v' w2, w2.ownsRow base 3 1 v' (zs ++ ys).length ((zs ++ ys).map (Value.int .i64)) → Below base W w2 → wpList Tryz.prog ops Q rest (act.put o.dst v') w2) :
    wpList Tryz.prog ops Q (o :: rest) act W := by
  obtain ⟨i0, hi, hz0, hz1, hz2⟩ := info_parts Tryz.infoInt
  cases av with
  | none =>
    have hc := hl.nil rfl
    have hr := hl.room
    obtain rfl : cap = 0 := hc
    obtain rfl : ys = [] := List.length_eq_zero_iff.1 (by omega)
    refine wpList_append_own_none hgd s x 22 ho base 3 i0 1 Tryz.underlying22 hi _ _ _ hs hown hx ?_
    exact h v W (by rw [List.append_nil]; exact hown) (Below.refl _ _)
  | some ad =>
    refine wpList_append_own _ hgd s x 22 ho base 3 i0 (.int .i64 0) 1 8 Tryz.underlying22 hi hz0 hz1 hz2 rfl (by decide) _ _ _ hs hown ad ys.length cap (ys.map (Value.int .i64)) hx (by simp) ?_ ?_ (by unfold maxLen; omega) (by omega) hbase ?_
    · intro j u hu
      have hj : j < ys.length := by
        rcases Nat.lt_or_ge j ys.length with g | g
        · exact g
        · simp [g] at hu
      obtain ⟨b, off, h1, h2, h5⟩ := hl.row j hj
      cases h1
      have hadd : (⟨b, off, none⟩ : Addr).add j = ⟨b, off + j, none⟩ := by unfold Addr.add; split <;> simp_all
      rw [hadd]
      refine h5.trans ?_
      simp [zat, hj] at hu ⊢
      exact hu
    · intro u hu; obtain ⟨y, _, rfl⟩ := List.mem_map.1 hu; rfl
    · intro v' w2 hown2 hgrow _
      refine h v' w2 ?_ ((Below.refl base W).grown hgrow hbase (fun k hk => (hown.lt k hk).1))
      rw [List.length_append, List.map_append]
      exact hown2

/-- the digest of a list -/
def digl (q n : Nat) (l : List Int) : List Int := ls (hst q n (pdf q (zat l) l.length) (l.length / 4 + 1)) 4
theorem digl_len (q n : Nat) (l : List Int) : (digl q n l).length = 4 := ls_len _ _
theorem digl_fits {q : Nat} (h3 : 3 ≤ q) (h4 : q ≤ 2147483647) (n : Nat) (l : List Int) : Fits (digl q n l) := fun j hj => by
  rw [digl_len] at hj
  unfold digl
  rw [ls_at _ _ _ hj]
  have := hst_bounds q n (pdf q (zat l) l.length) (l.length / 4 + 1) j h3
  omega

/-- a list in a block of numbers -/
def LstD (w : World) (g N : Nat) (l : List Int) : Prop := Lst w.heap.size w (some ⟨g, 0, none⟩) N l ∧ ∃ c f, w.heap[g]? = some (.cells c 3 f)
/-- what a call that yields a digest answers -/
def Dg (w : World) (l : List Int) (e : Ending) (w' : World) : Prop := ∃ (g N : Nat), e = .returned (.slice (some ⟨g, 0, none⟩) 4 N) ∧ w.heap.size ≤ g ∧ LstD w' g N l ∧ Below w.heap.size w w'

theorem Dg.of_below {w w1 : World} {l : List Int} (hb : Below w.heap.size w w1) {e : Ending} {w' : World} (h : Dg w1 l e w') : Dg w l e w' := by
  obtain ⟨g, N, h1, h2, h3, h4⟩ := h
  exact ⟨g, N, h1, by have := hb.size; omega, h3, hb.trans (h4.mono hb.size)⟩

theorem fits_cons {x : Int} {zs : List Int} (hx : -9223372036854775808 ≤ x ∧ x ≤ 9223372036854775807) (h : Fits zs) : Fits (x :: zs) := fun j hj => by
  cases j with
  | zero => simpa [zat] using hx
  | succ j => simpa [zat] using h j (by simpa using hj)
theorem fits_append {xs ys : List Int} (h1 : Fits xs) (h2 : Fits ys) : Fits (xs ++ ys) := fun j hj => by
  by_cases g : j < xs.length
  · have := h1 j g; simpa [zat, List.getElem?_append, g] using this
  · have := h2 (j - xs.length) (by rw [List.length_append] at hj; omega); simpa [zat, List.getElem?_append, g] using this

/-! ## Left -/
def lftA : Nat → Nat → Nat → Nat
  | 0, m, _ => m
  | k + 1, m, n => if m * 2 < n then lftA k (m * 2) n else m
/-- how many of n rows are in the left group -/
def lft (n : Nat) : Nat := lftA n 1 n
theorem lftA_spec : ∀ (k m n : Nat), 1 ≤ m → n ≤ m + k → n ≤ 2 * lftA k m n ∧ m ≤ lftA k m n ∧ (lftA k m n = m ∨ lftA k m n < n)
  | 0, m, n, h1, h2 => ⟨by simp only [lftA]; omega, Nat.le_refl _, Or.inl rfl⟩
  | k + 1, m, n, h1, h2 => by
    simp only [lftA]
    by_cases h : m * 2 < n
    · rw [if_pos h]
      obtain ⟨a, b, c⟩ := lftA_spec k (m * 2) n (by omega) (by omega)
      exact ⟨a, by omega, Or.inr (by omega)⟩
    · rw [if_neg h]
      exact ⟨by omega, Nat.le_refl _, Or.inl rfl⟩
theorem lft_spec (n : Nat) : n ≤ 2 * lft n ∧ 1 ≤ lft n ∧ (2 ≤ n → lft n < n) := by
  obtain ⟨a, b, c⟩ := lftA_spec n 1 n (Nat.le_refl _) (by omega)
  exact ⟨a, b, fun h => by unfold lft; omega⟩

/-! ## rows of rows -/
def rat (rows : List (List Int)) (k : Nat) : List Int := rows.getD k []
/-- rows that can be read, below n0, with their room -/
structure LstR (n0 : Nat) (w : World) (a : Option Addr) (cap : Nat) (rows : List (List Int)) : Prop where
  row : ∀ k, k < rows.length → ∃ b o ak ck, a = some ⟨b, o, none⟩ ∧ b < n0 ∧ w.cell? ⟨b, o + k, none⟩ = some (.slice ak (rat rows k).length ck) ∧ Lst n0 w ak ck (rat rows k)
  room : rows.length ≤ cap
  nil : a = none → cap = 0

theorem LstR.below {n0 : Nat} {A B : World} {a : Option Addr} {cap : Nat} {rows : List (List Int)} (h : Below n0 A B) (r : LstR n0 A a cap rows) : LstR n0 B a cap rows :=
  ⟨fun k hk => by
    obtain ⟨b, o, ak, ck, h1, h2, h3, h4⟩ := r.row k hk
    exact ⟨b, o, ak, ck, h1, h2, (h.cell (p := ⟨b, o + k, none⟩) h2).trans h3, h4.below h⟩, r.room, r.nil⟩
theorem LstR.mono {n0 n1 : Nat} {A : World} {a : Option Addr} {cap : Nat} {rows : List (List Int)} (h : n0 ≤ n1) (r : LstR n0 A a cap rows) : LstR n1 A a cap rows :=
  ⟨fun k hk => by
    obtain ⟨b, o, ak, ck, h1, h2, h3, h4⟩ := r.row k hk
    exact ⟨b, o, ak, ck, h1, by omega, h3, h4.mono h⟩, r.room, r.nil⟩
theorem rat_take {rows : List (List Int)} {m k : Nat} (h : k < m) : rat (rows.take m) k = rat rows k := by
  unfold rat
  simp [h]
theorem rat_drop (rows : List (List Int)) (m k : Nat) : rat (rows.drop m) k = rat rows (m + k) := by
  unfold rat
  simp [List.getElem?_drop]
theorem LstR.take {n0 : Nat} {w : World} {a : Option Addr} {cap : Nat} {rows : List (List Int)} (r : LstR n0 w a cap rows) (m : Nat) : LstR n0 w a cap (rows.take m) :=
  ⟨fun k hk => by
    rw [List.length_take] at hk
    rw [rat_take (by omega)]
    exact r.row k (by omega), by have := r.room; rw [List.length_take]; omega, r.nil⟩
theorem LstR.drop {n0 : Nat} {w : World} {b o cap : Nat} {rows : List (List Int)} (r : LstR n0 w (some ⟨b, o, none⟩) cap rows) (m : Nat) : LstR n0 w (some ⟨b, o + m, none⟩) (cap - m) (rows.drop m) :=
  ⟨fun k hk => by
    rw [List.length_drop] at hk
    obtain ⟨b', o', ak, ck, h1, h2, h3, h4⟩ := r.row (m + k) (by omega)
    injection h1 with h1
    injection h1 with e1 e2 _
    subst e1; subst e2
    rw [rat_drop]
    exact ⟨b, o + m, ak, ck, rfl, h2, by rw [Nat.add_assoc]; exact h3, h4⟩, by have := r.room; rw [List.length_drop]; omega, fun e => by cases e⟩

/-- all rows fit, and none is too long -/
def FitsR (rows : List (List Int)) : Prop := ∀ k, k < rows.length → Fits (rat rows k) ∧ (rat rows k).length ≤ 17592186044000
theorem FitsR.take {rows : List (List Int)} (h : FitsR rows) (m : Nat) : FitsR (rows.take m) := fun k hk => by
  rw [List.length_take] at hk
  rw [rat_take (by omega)]
  exact h k (by omega)
theorem FitsR.drop {rows : List (List Int)} (h : FitsR rows) (m : Nat) : FitsR (rows.drop m) := fun k hk => by
  rw [List.length_drop] at hk
  rw [rat_drop]
  exact h (m + k) (by omega)

/-- the digest of rows, with fuel -/
def rtf (q n : Nat) : Nat → List (List Int) → List Int
  | 0, _ => []
  | k + 1, rows => if rows.length = 1 then digl q n (0 :: rat rows 0) else digl q n (1 :: (rtf q n k (rows.take (lft rows.length)) ++ rtf q n k (rows.drop (lft rows.length))))
theorem rtf_len (q n k : Nat) (rows : List (List Int)) (h : 1 ≤ k) : (rtf q n k rows).length = 4 := by
  cases k with
  | zero => omega
  | succ k => simp only [rtf]; split <;> exact digl_len _ _ _
theorem rtf_fits {q : Nat} (h3 : 3 ≤ q) (h4 : q ≤ 2147483647) (n k : Nat) (rows : List (List Int)) : Fits (rtf q n k rows) := by
  cases k with
  | zero => intro j hj; simp [rtf] at hj
  | succ k => simp only [rtf]; split <;> exact digl_fits h3 h4 _ _
/-- more fuel makes no difference -/
theorem rtf_more (q n : Nat) : ∀ (k j : Nat) (rows : List (List Int)), 1 ≤ rows.length → rows.length ≤ k → k ≤ j → rtf q n j rows = rtf q n k rows
  | 0, _, rows, h1, h2, _ => by omega
  | k + 1, j, rows, h1, h2, h3 => by
    obtain ⟨j', rfl⟩ : ∃ j', j = j' + 1 := ⟨j - 1, by omega⟩
    simp only [rtf]
    by_cases h : rows.length = 1
    · rw [if_pos h, if_pos h]
    · rw [if_neg h, if_neg h]
      obtain ⟨_, l2, l3⟩ := lft_spec rows.length
      have := l3 (by omega)
      rw [rtf_more q n k j' _ (by rw [List.length_take]; omega) (by rw [List.length_take]; omega) (by omega), rtf_more q n k j' _ (by rw [List.length_drop]; omega) (by rw [List.length_drop]; omega) (by omega)]

end Go.Proofs.YtaibngnabhmabajGreatDoor

namespace Go.Proofs.YtaibngnabhmabajGreatDoor
open Go.RowKit

/-- is one of the places from a to b - 1? -/
def smb (ps : List Int) (a b : Int) : Bool := ps.any (fun x => decide (a ≤ x ∧ x < b))
theorem smb_iff {ps : List Int} {a b : Int} : smb ps a b = true ↔ ∃ j, j < ps.length ∧ a ≤ zat ps j ∧ zat ps j < b := by
  unfold smb
  rw [List.any_eq_true]
  constructor
  · rintro ⟨x, hx, h⟩
    obtain ⟨j, hj, rfl⟩ := List.getElem_of_mem hx
    exact ⟨j, hj, by simpa [zat, hj] using h⟩
  · rintro ⟨j, hj, h⟩
    exact ⟨ps[j], List.getElem_mem hj, by simpa [zat, hj] using h⟩
theorem smb_false {ps : List Int} {a b : Int} (h : ∀ j, j < ps.length → ¬ (a ≤ zat ps j ∧ zat ps j < b)) : smb ps a b = false := by
  rw [Bool.eq_false_iff]
  intro e
  obtain ⟨j, hj, h1⟩ := smb_iff.1 e
  exact h j hj h1

/-! ## places ascending, each once -/
def Asc (os : List Int) : Prop := os.Pairwise (· < ·)
def OnceIs (ps os : List Int) : Prop := Asc os ∧ ∀ x, x ∈ os ↔ x ∈ ps

theorem asc_unique : ∀ {us vs : List Int}, Asc us → Asc vs → (∀ x, x ∈ us ↔ x ∈ vs) → us = vs
  | [], [], _, _, _ => rfl
  | [], b :: vs, _, _, h => absurd ((h b).2 (List.mem_cons_self ..)) (by simp)
  | a :: us, [], _, _, h => absurd ((h a).1 (List.mem_cons_self ..)) (by simp)
  | a :: us, b :: vs, h1, h2, h => by
    have ha := List.pairwise_cons.1 h1
    have hb := List.pairwise_cons.1 h2
    have e : a = b := by
      rcases List.mem_cons.1 ((h a).1 (List.mem_cons_self ..)) with g | g
      · exact g
      · rcases List.mem_cons.1 ((h b).2 (List.mem_cons_self ..)) with k | k
        · exact k.symm
        · have := hb.1 a g; have := ha.1 b k; omega
    subst e
    rw [asc_unique ha.2 hb.2 (fun x => ?_)]
    constructor
    · intro hx
      rcases List.mem_cons.1 ((h x).1 (List.mem_cons_of_mem _ hx)) with g | g
      · have := ha.1 x hx; omega
      · exact g
    · intro hx
      rcases List.mem_cons.1 ((h x).2 (List.mem_cons_of_mem _ hx)) with g | g
      · have := hb.1 x hx; omega
      · exact g
theorem OnceIs.unique {ps us vs : List Int} (h : OnceIs ps us) (k : OnceIs ps vs) : us = vs := asc_unique h.1 k.1 (fun x => (h.2 x).trans (k.2 x).symm)

theorem asc_le : ∀ {os ps : List Int}, Asc os → (∀ x, x ∈ os → x ∈ ps) → os.length ≤ ps.length
  | [], _, _, _ => Nat.zero_le _
  | a :: os, ps, h, hs => by
    have ha := List.pairwise_cons.1 h
    have hm := hs a (List.mem_cons_self ..)
    have := asc_le (os := os) (ps := ps.erase a) ha.2 (fun x hx => (List.mem_erase_of_ne (by have := ha.1 x hx; omega)).2 (hs x (List.mem_cons_of_mem _ hx)))
    rw [List.length_erase_of_mem hm] at this
    have hp : 0 < ps.length := List.length_pos_of_mem hm
    simp only [List.length_cons]
    omega
theorem asc_snoc {os : List Int} {x : Int} (h : Asc os) (hx : ∀ y, y ∈ os → y < x) : Asc (os ++ [x]) := by
  refine List.pairwise_append.2 ⟨h, List.pairwise_singleton _ _, fun a ha b hb => ?_⟩
  rw [List.mem_singleton] at hb
  rw [hb]
  exact hx a ha
/-- the last one is the greatest -/
theorem asc_last {os : List Int} (h : Asc os) (h0 : 0 < os.length) : ∀ y, y ∈ os → y ≤ zat os (os.length - 1) := fun y hy => by
  obtain ⟨i, hi, rfl⟩ := List.getElem_of_mem hy
  rw [show zat os (os.length - 1) = os[os.length - 1] from by simp [zat, show os.length - 1 < os.length by omega]]
  by_cases e : i = os.length - 1
  · subst e; exact Int.le_refl _
  · exact Int.le_of_lt (List.pairwise_iff_getElem.1 h i (os.length - 1) hi (by omega) (by omega))
theorem zat_mem {zs : List Int} {j : Nat} (h : j < zs.length) : zat zs j ∈ zs := by
  rw [show zat zs j = zs[j] from by simp [zat, h]]; exact List.getElem_mem h
theorem mem_zat {zs : List Int} {x : Int} (h : x ∈ zs) : ∃ j, j < zs.length ∧ zat zs j = x := by
  obtain ⟨i, hi, rfl⟩ := List.getElem_of_mem h
  exact ⟨i, hi, by simp [zat, hi]⟩

/-- may be the next -/
def Cand (os : List Int) (x : Int) : Prop := ∀ y, y ∈ os → y < x
/-- the least that may be next, of the first k -/
def BestIs (ps os : List Int) (k : Nat) (v : Value) : Prop :=
  (v = .int .i64 (-1) ∧ ∀ j, j < k → ¬ Cand os (zat ps j)) ∨ (∃ m : Nat, v = .int .i64 m ∧ m < k ∧ Cand os (zat ps m) ∧ ∀ j, j < k → Cand os (zat ps j) → zat ps m ≤ zat ps j)
theorem BestIs.skip {ps os : List Int} {k : Nat} {v : Value} (h : BestIs ps os k v) (hn : ¬ Cand os (zat ps k)) : BestIs ps os (k + 1) v := by
  rcases h with ⟨h1, h2⟩ | ⟨m, h1, h2, h3, h4⟩
  · exact .inl ⟨h1, fun j hj => by
      by_cases e : j = k
      · subst e; exact hn
      · exact h2 j (by omega)⟩
  · exact .inr ⟨m, h1, by omega, h3, fun j hj hc => by
      by_cases e : j = k
      · subst e; exact absurd hc hn
      · exact h4 j (by omega) hc⟩
theorem BestIs.first {ps os : List Int} {k : Nat} (h : BestIs ps os k (.int .i64 (-1))) (hc : Cand os (zat ps k)) : BestIs ps os (k + 1) (.int .i64 k) := by
  rcases h with ⟨h1, h2⟩ | ⟨m, h1, _⟩
  · exact .inr ⟨k, rfl, by omega, hc, fun j hj hj2 => by
      by_cases e : j = k
      · subst e; exact Int.le_refl _
      · exact absurd hj2 (h2 j (by omega))⟩
  · injection h1 with _ h1; omega
theorem BestIs.less {ps os : List Int} {k m : Nat} (h : BestIs ps os k (.int .i64 m)) (hc : Cand os (zat ps k)) (hl : zat ps k < zat ps m) : BestIs ps os (k + 1) (.int .i64 k) := by
  rcases h with ⟨h1, _⟩ | ⟨m', h1, h2, h3, h4⟩
  · injection h1 with _ h1; omega
  · injection h1 with _ h1
    obtain rfl : m = m' := by omega
    exact .inr ⟨k, rfl, by omega, hc, fun j hj hj2 => by
      by_cases e : j = k
      · subst e; exact Int.le_refl _
      · have := h4 j (by omega) hj2; omega⟩
theorem BestIs.more {ps os : List Int} {k m : Nat} (h : BestIs ps os k (.int .i64 m)) (hl : ¬ zat ps k < zat ps m) : BestIs ps os (k + 1) (.int .i64 m) := by
  rcases h with ⟨h1, _⟩ | ⟨m', h1, h2, h3, h4⟩
  · injection h1 with _ h1; omega
  · injection h1 with _ h1
    obtain rfl : m = m' := by omega
    exact .inr ⟨m, rfl, by omega, h3, fun j hj hj2 => by
      by_cases e : j = k
      · subst e; omega
      · exact h4 j (by omega) hj2⟩

end Go.Proofs.YtaibngnabhmabajGreatDoor
