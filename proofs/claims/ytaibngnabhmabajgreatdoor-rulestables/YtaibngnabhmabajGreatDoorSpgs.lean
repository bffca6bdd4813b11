/- Plain facts on digests: Cauchy's matrix is undone by itself, with weights. Arrays of numbers in memory: n cells of one block, as a whole. Package sponge: a sponge in memory; weighted, mixed. Package sponge: permuted, unmixed, unpermuted. Package sponge: unpermuted. Package sponge: changed, Permute, Unpermute, Mix. Package sponge: commonDivisor, leastCoprime, rootOf. The field's method Div. Package sponge: matrixOf, weightsOf, constantsOf. Package sponge: New. Package sponge: Field, Power, Constant, Matrix, Pad. -/
import Derived.Test.YtaibngnabhmabajGreatDoorRefs
import Derived.Test.YtaibngnabhmabajGreatDoorFld
import Derived.Laws.Rows
import Derived.Laws.Tables
import Derived.Laws.CopyOwn
import Derived.Deep.OwnRows
import Derived.StillTailTactics
namespace Go.Proofs.YtaibngnabhmabajGreatDoor
open Go.RowKit

namespace Spo
/-- the product of i + t + 8 for t below k, and that of i - t without the one that is 0 -/
def pab (i : Nat) : Nat → Int
  | 0 => 1
  | k + 1 => pab i k * ((i : Int) + (k : Int) + 8)
def pbe (i : Nat) : Nat → Int
  | 0 => 1
  | k + 1 => if k = i then pbe i k else pbe i k * ((i : Int) - (k : Int))
/-- the weights as whole numbers -/
def wtz (j : Nat) : Int := pab j 8 / pbe j 8
/-- what 8 to 22 divide -/
def big : Int := 232792560
def bq (k : Nat) : Int := ((232792560 / k : Nat) : Int)

theorem pbe_wtz : ∀ i : Nat, i < 8 → pbe i 8 * wtz i = pab i 8 := by decide
theorem big_bq : ∀ k : Nat, k < 23 → 8 ≤ k → (k : Int) * bq k = big := by decide
theorem back_key : ∀ i : Nat, i < 8 → ∀ k : Nat, k < 8 → Dom.sm (fun j => bq (i + j + 8) * wtz j * bq (j + k + 8)) 8 * wtz k = if i = k then big * big else 0 := by decide
end Spo

theorem nd_mul {q : Nat} (hq : Num.Prime q) {a b : Int} (ha : ¬ (q : Int) ∣ a) (hb : ¬ (q : Int) ∣ b) : ¬ (q : Int) ∣ a * b := fun h => by
  rcases Pol.prime_mul hq h with g | g
  · exact ha g
  · exact hb g

theorem big_nd {q : Nat} (hq : Num.Prime q) (h23 : 23 ≤ q) : ¬ (q : Int) ∣ Spo.big := by
  have h : ∀ z : Int, -22 ≤ z → z ≤ 22 → z ≠ 0 → ¬ (q : Int) ∣ z := fun z a b c => Spo.small_nd h23 a b c
  rw [show Spo.big = 16 * (9 * (5 * (7 * (11 * (13 * (17 * 19)))))) from by decide]
  repeat' apply nd_mul hq
  all_goals exact h _ (by decide) (by decide) (by decide)

theorem pbe_nd {q : Nat} (hq : Num.Prime q) (h23 : 23 ≤ q) (i : Nat) (hi : i < 8) : ∀ k, k ≤ 8 → ¬ (q : Int) ∣ Spo.pbe i k
  | 0, _ => Spo.small_nd h23 (z := 1) (by decide) (by decide) (by decide)
  | k + 1, h => by
    unfold Spo.pbe
    split
    · exact pbe_nd hq h23 i hi k (by omega)
    · exact nd_mul hq (pbe_nd hq h23 i hi k (by omega)) (Spo.small_nd h23 (by omega) (by omega) (by omega))

/-- what the program reckons as weights -/
def wt (q : Nat) (i : Nat) : Int := Spo.pab i 8 % (q : Int) * (invn q (Spo.pbe i 8 % (q : Int)) : Int) % (q : Int)
theorem wt_bounds (q i : Nat) (h3 : 3 ≤ q) : 0 ≤ wt q i ∧ wt q i < q := emod_bounds _ q h3
theorem wt_wtz {q : Nat} (hq : Num.Prime q) (h23 : 23 ≤ q) (i : Nat) (hi : i < 8) : (q : Int) ∣ wt q i - Spo.wtz i := by
  have hnd := pbe_nd hq h23 i hi 8 (Nat.le_refl _)
  have hnd2 : ¬ (q : Int) ∣ Spo.pbe i 8 % (q : Int) := fun h => hnd (by
    have e := Pol.emod_dvd q (Spo.pbe i 8)
    have := Int.dvd_sub h e
    rwa [show ∀ a b : Int, a - (a - b) = b from fun a b => by omega] at this)
  have h1 := inv_dvd_one hq (by omega) hnd2
  have e1 : (q : Int) ∣ wt q i - Spo.pab i 8 % (q : Int) * (invn q (Spo.pbe i 8 % (q : Int)) : Int) := Pol.emod_dvd q _
  have e2 := Pol.emod_dvd q (Spo.pab i 8)
  have e3 := Pol.emod_dvd q (Spo.pbe i 8)
  have hk := Spo.pbe_wtz i hi
  generalize (invn q (Spo.pbe i 8 % (q : Int)) : Int) = v at *
  generalize Spo.pbe i 8 % (q : Int) = B at *
  generalize Spo.pab i 8 % (q : Int) = A at *
  generalize Spo.pbe i 8 = b at *
  generalize Spo.pab i 8 = a at *
  generalize wt q i = x at *
  generalize Spo.wtz i = z at *
  obtain ⟨c1, h1⟩ := h1
  obtain ⟨c2, e1⟩ := e1
  obtain ⟨c3, e2⟩ := e2
  obtain ⟨c4, e3⟩ := e3
  refine ⟨c2 + c3 * v - c4 * z * v + z * c1, ?_⟩
  grind

theorem mx_dvd (q : Nat) (h : Nat → Int) (i : Nat) : (q : Int) ∣ mx q h i - Dom.sm (fun j => h j * (invn q ((i + j + 8 : Nat) : Int) : Int)) 8 := by
  have e1 : (q : Int) ∣ mx q h i - Dom.sm (fun j => h j * (invn q ((i + j + 8 : Nat) : Int) : Int) % (q : Int)) 8 := Pol.emod_dvd q _
  have e2 : (q : Int) ∣ Dom.sm (fun j => h j * (invn q ((i + j + 8 : Nat) : Int) : Int) % (q : Int)) 8 - Dom.sm (fun j => h j * (invn q ((i + j + 8 : Nat) : Int) : Int)) 8 := Dom.sm_congr (fun j _ => Pol.emod_dvd q _)
  have := Int.dvd_add e1 e2
  rwa [show ∀ a b c : Int, a - b + (b - c) = a - c from fun a b c => by omega] at this

theorem dvd_tr {q : Nat} {a b c : Int} (h : (q : Int) ∣ a - b) (k : (q : Int) ∣ b - c) : (q : Int) ∣ a - c := by
  have := Int.dvd_add h k
  rwa [show ∀ a b c : Int, a - b + (b - c) = a - c from fun a b c => by omega] at this
theorem dvd_mm {q : Nat} {a b c d : Int} (h : (q : Int) ∣ a - b) (k : (q : Int) ∣ c - d) : (q : Int) ∣ a * c - b * d := by
  obtain ⟨x, hx⟩ := h
  obtain ⟨y, hy⟩ := k
  exact ⟨x * c + b * y, by grind⟩
theorem dvd_rf {q : Nat} (a : Int) : (q : Int) ∣ a - a := by rw [Int.sub_self]; exact Int.dvd_zero _

theorem inv_bq {q : Nat} (hq : Num.Prime q) (h23 : 23 ≤ q) {k : Nat} (h1 : 8 ≤ k) (h2 : k < 23) : (q : Int) ∣ Spo.big * (invn q (k : Int) : Int) - Spo.bq k := by
  obtain ⟨c, hc⟩ := inv_dvd_one hq (by omega) (Spo.small_nd h23 (z := (k : Int)) (by omega) (by omega) (by omega))
  rw [← Spo.big_bq k h2 h1]
  exact ⟨Spo.bq k * c, by grind⟩

/-- big times a mixed state -/
theorem big_mx {q : Nat} (hq : Num.Prime q) (h23 : 23 ≤ q) (f g : Nat → Int) (h : ∀ j, j < 8 → (q : Int) ∣ f j - g j) (i : Nat) (hi : i < 8) : (q : Int) ∣ Spo.big * mx q f i - Dom.sm (fun j => Spo.bq (i + j + 8) * g j) 8 := by
  have e1 := dvd_mm (dvd_rf (q := q) Spo.big) (mx_dvd q f i)
  refine dvd_tr e1 ?_
  rw [← Dom.sm_mul]
  refine Dom.sm_congr (fun j hj => ?_)
  have e2 := dvd_mm (inv_bq hq h23 (k := i + j + 8) (by omega) (by omega)) (h j hj)
  rwa [show ∀ a b c : Int, a * (b * c) = a * c * b from fun a b c => by grind]

/-- unmixed, and mixed again -/
def umx (q : Nat) (a : Nat → Int) (i : Nat) : Int := mx q (fun k => a k * wt q k % (q : Int)) i * wt q i % (q : Int)
theorem umx_bounds (q : Nat) (a : Nat → Int) (i : Nat) (h3 : 3 ≤ q) : 0 ≤ umx q a i ∧ umx q a i < q := emod_bounds _ q h3
theorem mx_umx {q : Nat} (hq : Num.Prime q) (h23 : 23 ≤ q) (a : Nat → Int) (i : Nat) (hi : i < 8) : mx q (umx q a) i = a i % (q : Int) := by
  have hb := mx_bounds q (umx q a) i (by omega)
  rw [← Int.emod_eq_of_lt hb.1 hb.2, Pol.emod_eq_iff (by omega)]
  have hM := big_nd hq h23
  have hMM := nd_mul hq hM hM
  refine Classical.byContradiction fun hno => nd_mul hq hMM hno ?_
  -- big * v j
  have hv : ∀ j, j < 8 → (q : Int) ∣ Spo.big * umx q a j - Spo.wtz j * Dom.sm (fun k => Spo.bq (j + k + 8) * (a k * Spo.wtz k)) 8 := fun j hj => by
    have e1 := big_mx hq h23 (fun k => a k * wt q k % (q : Int)) (fun k => a k * Spo.wtz k) (fun k hk => dvd_tr (Pol.emod_dvd q _) (dvd_mm (dvd_rf _) (wt_wtz hq h23 k hk))) j hj
    have e2 := dvd_mm e1 (wt_wtz hq h23 j hj)
    have e3 : (q : Int) ∣ umx q a j - mx q (fun k => a k * wt q k % (q : Int)) j * wt q j := Pol.emod_dvd q _
    have e4 := dvd_mm (dvd_rf (q := q) Spo.big) e3
    refine dvd_tr e4 ?_
    rw [Int.mul_comm (Spo.wtz j)]
    rwa [Int.mul_assoc] at e2
  have e5 := big_mx hq h23 (fun j => Spo.big * umx q a j) _ hv i hi
  have e6 : (q : Int) ∣ Spo.big * mx q (fun j => Spo.big * umx q a j) i - Spo.big * (Spo.big * mx q (umx q a) i) := by
    refine dvd_mm (dvd_rf _) ?_
    refine dvd_tr (mx_dvd q _ i) ?_
    have e7 := dvd_mm (dvd_rf (q := q) Spo.big) (mx_dvd q (umx q a) i)
    have e8 : (q : Int) ∣ Spo.big * Dom.sm (fun j => umx q a j * (invn q ((i + j + 8 : Nat) : Int) : Int)) 8 - Spo.big * mx q (umx q a) i := by
      obtain ⟨c, hc⟩ := e7
      exact ⟨-c, by grind⟩
    rw [← Dom.sm_mul] at e8
    rwa [show (fun j => Spo.big * umx q a j * (invn q ((i + j + 8 : Nat) : Int) : Int)) = (fun j => Spo.big * (umx q a j * (invn q ((i + j + 8 : Nat) : Int) : Int))) from funext fun j => Int.mul_assoc _ _ _]
  have e9 : Dom.sm (fun j => Spo.bq (i + j + 8) * (Spo.wtz j * Dom.sm (fun k => Spo.bq (j + k + 8) * (a k * Spo.wtz k)) 8)) 8 = Spo.big * Spo.big * a i := by
    have h1 : ∀ j, Spo.bq (i + j + 8) * (Spo.wtz j * Dom.sm (fun k => Spo.bq (j + k + 8) * (a k * Spo.wtz k)) 8) = Dom.sm (fun k => Spo.bq (i + j + 8) * Spo.wtz j * Spo.bq (j + k + 8) * (a k * Spo.wtz k)) 8 := fun j => by
      rw [← Int.mul_assoc, ← Dom.sm_mul]
      exact Dom.sm_same (fun k _ => by grind)
    rw [show (fun j => Spo.bq (i + j + 8) * (Spo.wtz j * Dom.sm (fun k => Spo.bq (j + k + 8) * (a k * Spo.wtz k)) 8)) = (fun j => Dom.sm (fun k => Spo.bq (i + j + 8) * Spo.wtz j * Spo.bq (j + k + 8) * (a k * Spo.wtz k)) 8) from funext h1, Dom.sm_swap]
    have h2 : ∀ k, k < 8 → Dom.sm (fun j => Spo.bq (i + j + 8) * Spo.wtz j * Spo.bq (j + k + 8) * (a k * Spo.wtz k)) 8 = if i = k then Spo.big * Spo.big * a k else 0 := fun k hk => by
      have h3 := Spo.back_key i hi k hk
      rw [show (fun j => Spo.bq (i + j + 8) * Spo.wtz j * Spo.bq (j + k + 8) * (a k * Spo.wtz k)) = (fun j => a k * Spo.wtz k * (Spo.bq (i + j + 8) * Spo.wtz j * Spo.bq (j + k + 8))) from funext fun j => Int.mul_comm _ _, Dom.sm_mul, Int.mul_assoc, Int.mul_comm (Spo.wtz k), h3]
      split
      · exact Int.mul_comm _ _
      · exact Int.mul_zero _
    rw [Dom.sm_same h2]
    have h4 : ∀ n, Dom.sm (fun k => if i = k then Spo.big * Spo.big * a k else 0) n = if i < n then Spo.big * Spo.big * a i else 0 := fun n => by
      induction n with
      | zero => simp [Dom.sm]
      | succ n ih =>
        simp only [Dom.sm]
        rw [ih]
        by_cases g1 : i = n
        · subst g1; simp
        · by_cases g2 : i < n
          · rw [if_pos g2, if_neg g1, if_pos (by omega)]; omega
          · rw [if_neg g2, if_neg g1, if_neg (by omega)]; omega
    rw [h4, if_pos hi]
  rw [e9] at e5
  obtain ⟨c, hc⟩ := e5
  obtain ⟨d, hd⟩ := e6
  exact ⟨c - d, by grind⟩

/-! ## stirring undone -/
def unr (q d : Nat) (r : Nat) (y : Nat → Int) (j : Nat) : Int := (umx q y j ^ d % (q : Int) - cst q r j) % (q : Int)
def ust (q d : Nat) (f : Nat → Int) : Nat → Nat → Int
  | 0, j => f j % (q : Int)
  | k + 1, j => unr q d (7 - k) (ust q d f k) j
theorem ust_bounds (q d : Nat) (f : Nat → Int) (k j : Nat) (h3 : 3 ≤ q) : 0 ≤ ust q d f k j ∧ ust q d f k j < q := by
  cases k with
  | zero => exact emod_bounds _ q h3
  | succ k => exact emod_bounds _ q h3

theorem round_back {q n d : Nat} (hq : Num.Prime q) (h23 : 23 ≤ q) (hd : d * n % (q - 1) = 1) (r : Nat) (y : Nat → Int) (j : Nat) (hj : j < 8) :
    mx q (fun i => (unr q d r y i + cst q r i) ^ n % (q : Int)) j = y j % (q : Int) := by
  rw [← mx_umx hq h23 y j hj]
  refine mx_congr (by omega) (fun i _ => ?_) j
  have hb := umx_bounds q y i (by omega)
  have e1 : (unr q d r y i + cst q r i) % (q : Int) = umx q y i ^ d % (q : Int) % (q : Int) := by
    unfold unr
    rw [Int.emod_add_emod, Int.sub_add_cancel]
  have e2 := powz_back hq (by omega) hd (umx q y i)
  have e3 : (unr q d r y i + cst q r i) ^ n % (q : Int) = (umx q y i ^ d % (q : Int)) ^ n % (q : Int) := by
    rw [← pwm_int q _ n (by omega), ← pwm_int q (umx q y i ^ d % (q : Int)) n (by omega)]
    unfold el
    rw [e1]
  rw [e3, e2, Int.emod_emod_of_dvd _ (Int.dvd_refl _)]

theorem stir_ust {q n d : Nat} (hq : Num.Prime q) (h23 : 23 ≤ q) (hd : d * n % (q - 1) = 1) (f : Nat → Int) : ∀ t, t ≤ 8 → ∀ j, j < 8 → stir q n (ust q d f 8) t j = ust q d f (8 - t) j
  | 0, _, j, _ => by
    have hb := ust_bounds q d f 8 j (by omega)
    show ust q d f 8 j % (q : Int) = _
    rw [Int.emod_eq_of_lt hb.1 hb.2]
  | t + 1, h, j, hj => by
    have ih := stir_ust hq h23 hd f t (by omega)
    have e1 : stir q n (ust q d f 8) (t + 1) j = mx q (fun i => (unr q d t (ust q d f (7 - t)) i + cst q t i) ^ n % (q : Int)) j := by
      refine mx_congr (by omega) (fun i hi => ?_) j
      rw [ih i hi, show 8 - t = (7 - t) + 1 from by omega]
      show ((unr q d (7 - (7 - t)) (ust q d f (7 - t)) i + _) ^ n % (q : Int)) % (q : Int) = _
      rw [show 7 - (7 - t) = t from by omega]
    have hb := ust_bounds q d f (7 - t) j (by omega)
    rw [e1, round_back hq h23 hd t _ j hj, Int.emod_eq_of_lt hb.1 hb.2, show 8 - (t + 1) = 7 - t from by omega]

/-- stirring what was unstirred -/
theorem stir_back {q n d : Nat} (hq : Num.Prime q) (h23 : 23 ≤ q) (hd : d * n % (q - 1) = 1) (f : Nat → Int) (j : Nat) (hj : j < 8) : stir q n (ust q d f 8) 8 j = f j % (q : Int) := stir_ust hq h23 hd f 8 (Nat.le_refl _) j hj
/-- unstirring what was stirred -/
theorem unstir_back {q n d : Nat} (hq : Num.Prime q) (h23 : 23 ≤ q) (hn : Spo.PowIs q n) (hd : d * n % (q - 1) = 1) (f : Nat → Int) (j : Nat) (hj : j < 8) : ust q d (stir q n f 8) 8 j = f j % (q : Int) := by
  have h1 := stir_inj hq h23 hn (f := ust q d (stir q n f 8) 8) (g := f) 8 (fun i hi => by
    have hb := stir_bounds q n f 8 i (by omega)
    rw [stir_back hq h23 hd _ i hi, Int.emod_eq_of_lt hb.1 hb.2]) j hj
  have hb := ust_bounds q d (stir q n f 8) 8 j (by omega)
  rw [← h1, Int.emod_eq_of_lt hb.1 hb.2]

end Go.Proofs.YtaibngnabhmabajGreatDoor

namespace Go.Proofs.YtaibngnabhmabajGreatDoor
open Go.RowKit

/-- n numbers, as cells -/
def an (n : Nat) (f : Nat → Int) : Array Value := ((List.range n).map (fun j => Value.int .i64 (f j))).toArray
theorem an_size (n : Nat) (f : Nat → Int) : (an n f).size = n := by simp [an]
theorem an_at {n : Nat} {f : Nat → Int} {j : Nat} (h : j < n) : (an n f)[j]? = some (.int .i64 (f j)) := by simp [an, h]
theorem an_one (n : Nat) (f : Nat → Int) : (an n f).all (·.oneCell') = true := by
  rw [Array.all_eq_true_iff_forall_mem]
  intro v hv
  simp [an] at hv
  obtain ⟨j, _, rfl⟩ := hv
  rfl
theorem an_congr {n : Nat} {f g : Nat → Int} (h : ∀ j, j < n → f j = g j) : an n f = an n g := by
  unfold an
  congr 1
  refine List.map_congr_left (fun j hj => ?_)
  rw [h j (List.mem_range.1 hj)]

/-- block b holds these numbers and nothing else -/
def ArrI (w : World) (b : Nat) (t : TypeId) (n : Nat) (f : Nat → Int) : Prop := w.rowIs b t n (fun j => .int .i64 (f j))
theorem ArrI.heap {w : World} {b n : Nat} {t : TypeId} {f : Nat → Int} (h : ArrI w b t n f) : w.heap[b]? = some (.cells (an n f) t (0, 0)) := by
  obtain ⟨c, h1, h2, h3⟩ := h
  rw [h1]
  have : c = an n f := by
    apply Array.ext_getElem?
    intro i
    by_cases hi : i < n
    · rw [h3 i hi, an_at hi]
    · rw [Array.getElem?_eq_none (by omega), Array.getElem?_eq_none (by rw [an_size]; omega)]
  rw [this]
theorem ArrI.of {w : World} {b n : Nat} {t : TypeId} {f : Nat → Int} (h : w.heap[b]? = some (.cells (an n f) t (0, 0))) : ArrI w b t n f := ⟨_, h, an_size n f, fun _ hi => an_at hi⟩
theorem ArrI.new (w : World) (n : Nat) (t : TypeId) (f : Nat → Int) : ArrI (w.alloc (.cells (an n f) t)) w.heap.size t n f := ArrI.of (heap_alloc_new w _)
theorem ArrI.new2 (w : World) (o : Obj) (n : Nat) (t : TypeId) (f : Nat → Int) : ArrI ((w.alloc o).alloc (.cells (an n f) t)) (w.heap.size + 1) t n f := by
  have := ArrI.new (w.alloc o) n t f
  rwa [show (w.alloc o).heap.size = w.heap.size + 1 from by simp] at this
theorem ArrI.cell {w : World} {b n : Nat} {t : TypeId} {f : Nat → Int} (h : ArrI w b t n f) {i : Nat} (hi : i < n) : w.cell? ⟨b, i, none⟩ = some (.int .i64 (f i)) := World.rowIs.cell h hi
theorem ArrI.frozen {w : World} {b n : Nat} {t : TypeId} {f : Nat → Int} (h : ArrI w b t n f) (i : Nat) : w.frozen? ⟨b, i, none⟩ = false := World.rowIs.frozen h i
theorem ArrI.lt {w : World} {b n : Nat} {t : TypeId} {f : Nat → Int} (h : ArrI w b t n f) : b < w.heap.size := World.rowIs.lt h
theorem ArrI.congr {w : World} {b n : Nat} {t : TypeId} {f g : Nat → Int} (h : ArrI w b t n f) (e : ∀ j, j < n → f j = g j) : ArrI w b t n g := World.rowIs.congr h (fun j hj => by rw [e j hj])
theorem ArrI.block {w w' : World} {b n : Nat} {t : TypeId} {f : Nat → Int} (h : ArrI w b t n f) (e : w'.heap[b]? = w.heap[b]?) : ArrI w' b t n f := World.rowIs.of_block h e
theorem ArrI.below {w w' : World} {b n n0 : Nat} {t : TypeId} {f : Nat → Int} (h : ArrI w b t n f) (e : Below n0 w w') (hb : b < n0) : ArrI w' b t n f := h.block (e.block b hb)
theorem ArrI.set {w : World} {b n : Nat} {t : TypeId} {f : Nat → Int} (h : ArrI w b t n f) (i : Nat) (x : Int) : ArrI (w.setCell ⟨b, i, none⟩ (.int .i64 x)) b t n (up f i x) :=
  World.rowIs.congr (World.rowIs.set h i (.int .i64 x)) (fun j _ => by show (if j = i then _ else _) = Value.int .i64 (up f i x j); unfold up; split <;> rfl)
theorem ArrI.other {w : World} {b n : Nat} {t : TypeId} {f : Nat → Int} (h : ArrI w b t n f) {a : Addr} (ha : b ≠ a.block) (v : Value) : ArrI (w.setCell a v) b t n f := World.rowIs.setOther h ha v
theorem ArrI.alloc {w : World} {b n : Nat} {t : TypeId} {f : Nat → Int} (h : ArrI w b t n f) (o : Obj) : ArrI (w.alloc o) b t n f := World.rowIs.alloc h o
theorem ArrI.drew {w : World} {b n : Nat} {t : TypeId} {f : Nat → Int} (h : ArrI w b t n f) : ArrI w.drew b t n f := h
theorem ArrI.setRow {w : World} {b n : Nat} {t : TypeId} {f : Nat → Int} (h : ArrI w b t n f) (g : Nat → Int) : ArrI (w.setRow b (an n g)) b t n g := ArrI.of (setRow_heap w b _ _ t _ h.heap)
theorem ArrI.otherRow {w : World} {b n : Nat} {t : TypeId} {f : Nat → Int} (h : ArrI w b t n f) {g : Nat} (hg : b ≠ g) (cs : Array Value) : ArrI (w.setRow g cs) b t n f := h.block (setRow_other w g b cs hg)
theorem ArrI.cells {w : World} {b n : Nat} {t : TypeId} {f : Nat → Int} (h : ArrI w b t n f) : Cells b 0 n f w := ⟨fun j hj => by rw [Nat.zero_add]; exact h.cell hj, fun j _ => h.frozen _⟩

/-- one place more of a row that is filled from its head on -/
def fll (g f : Nat → Int) (k : Nat) : Nat → Int := fun j => if j < k then g j else f j
theorem fll_zero (g f : Nat → Int) : fll g f 0 = f := funext fun j => by simp [fll]
theorem fll_at (g f : Nat → Int) (k : Nat) : fll g f k k = f k := by simp [fll]
theorem fll_up (g f : Nat → Int) (k : Nat) : up (fll g f k) k (g k) = fll g f (k + 1) := funext fun j => by
  unfold up fll
  by_cases h : j = k
  · subst h; simp
  · rw [if_neg h]
    by_cases h2 : j < k
    · rw [if_pos h2, if_pos (by omega)]
    · rw [if_neg h2, if_neg (by omega)]
theorem fll_all {g f : Nat → Int} {n j : Nat} (h : j < n) : fll g f n j = g j := by simp [fll, h]
theorem ArrI.next {w : World} {b n : Nat} {t : TypeId} {g f : Nat → Int} {k : Nat} (h : ArrI w b t n (fll g f k)) : ArrI (w.setCell ⟨b, k, none⟩ (.int .i64 (g k))) b t n (fll g f (k + 1)) := by
  rw [← fll_up]; exact h.set k (g k)

theorem wpList_load_an {P : Program} {ops : Array Oper} {rest : List Oper} {o : Oper} {a : Act} {w : World} {Q : Exit → Act → World → Prop} (hgd : o.guard = none) (ty : TypeId) (x : Operand) (ho : o.op = .load ty x)
    (g : Nat) (hx : a.eval x = .pointer (some ⟨g, 0, none⟩)) (t : TypeId) (n m : Nat) (e : TypeId) (f : Nat → Int) (hr : ArrI w g t n f) (hu : P.underlying ty = some (.array m e)) (hi : (P.info? ty).map (·.size) = some n)
    (h : wpList P ops Q rest (a.put o.dst (.agg (an n f))) w) : wpList P ops Q (o :: rest) a w :=
  wpList_load_row hgd ty x ho g hx t (an n f) (0, 0) _ hr.heap hu rfl (by rw [an_size]; exact hi) h
theorem wpList_store_an {P : Program} {ops : Array Oper} {rest : List Oper} {o : Oper} {a : Act} {w : World} {Q : Exit → Act → World → Prop} (hgd : o.guard = none) (ty : TypeId) (x y : Operand) (ho : o.op = .store ty x y)
    (g n : Nat) (f h0 : Nat → Int) (hx : a.eval x = .pointer (some ⟨g, 0, none⟩)) (hy : a.eval y = .agg (an n f)) (t : TypeId) (hr : ArrI w g t n h0) (hi : (P.info? ty).map (·.size) = some n)
    (h : wpList P ops Q rest (a.put o.dst undef) (w.setRow g (an n f))) : wpList P ops Q (o :: rest) a w :=
  wpList_store_row hgd ty x y ho g (an n f) hx hy t (an n h0) hr.heap (by rw [an_size]; exact hi) (by rw [an_size, an_size]) (an_one n f) h

/-- an array result -/
theorem results_an {P : Program} {fn : Func} {p : Tmp} {ty : TypeId} (h : fn.results = #[.cell p ty]) (tmps : Array Value) (w : World) (g : Nat) (t : TypeId) (n m : Nat) (e : TypeId) (f : Nat → Int)
    (hp : tmps.getD p undef = .pointer (some ⟨g, 0, none⟩)) (hr : ArrI w g t n f) (hu : P.underlying ty = some (.array m e)) (hi : (P.info? ty).map (·.size) = some n) :
    (results fn tmps).run P w = .ok (.agg (an n f)) w :=
  results_cell_row h tmps w g t (an n f) (0, 0) _ hp hr.heap hu rfl (by rw [an_size]; exact hi)

end Go.Proofs.YtaibngnabhmabajGreatDoor

namespace Go.Proofs.YtaibngnabhmabajGreatDoor
open Go.RowKit

/-- a sponge in memory: its field lies in block b, n is its power, d what undoes it -/
structure SpgAt (w : World) (s b q n d : Nat) : Prop where
  f : w.cell? ⟨s, 0, none⟩ = some (.pointer (some ⟨b, 0, none⟩))
  pw : w.cell? ⟨s, 1, none⟩ = some (.int .i64 n)
  rt : w.cell? ⟨s, 2, none⟩ = some (.int .i64 d)
  mat : ∀ i j, i < 8 → j < 8 → w.cell? ⟨s, 3 + i * 8 + j, none⟩ = some (.int .i64 (invn q ((i + j + 8 : Nat) : Int)))
  wts : ∀ i, i < 8 → w.cell? ⟨s, 67 + i, none⟩ = some (.int .i64 (wt q i))
  cst : ∀ r i, r < 8 → i < 8 → w.cell? ⟨s, 75 + r * 8 + i, none⟩ = some (.int .i64 (cst q r i))
  p : w.cell? ⟨b, 0, none⟩ = some (.int .i64 q)
theorem SpgAt.lt {w : World} {s b q n d : Nat} (h : SpgAt w s b q n d) : s < w.heap.size := heap_lt h.f
theorem SpgAt.ltb {w : World} {s b q n d : Nat} (h : SpgAt w s b q n d) : b < w.heap.size := heap_lt h.p
theorem SpgAt.blocks {w w' : World} {s b q n d : Nat} (h : SpgAt w s b q n d) (e : w'.heap[s]? = w.heap[s]?) (e2 : w'.heap[b]? = w.heap[b]?) : SpgAt w' s b q n d :=
  ⟨(World.cell?_of_block (w := w) (a := ⟨s, 0, none⟩) e).trans h.f, (World.cell?_of_block (w := w) (a := ⟨s, 1, none⟩) e).trans h.pw, (World.cell?_of_block (w := w) (a := ⟨s, 2, none⟩) e).trans h.rt,
    fun i j hi hj => (World.cell?_of_block (w := w) (a := ⟨s, 3 + i * 8 + j, none⟩) e).trans (h.mat i j hi hj), fun i hi => (World.cell?_of_block (w := w) (a := ⟨s, 67 + i, none⟩) e).trans (h.wts i hi),
    fun r i hr hi => (World.cell?_of_block (w := w) (a := ⟨s, 75 + r * 8 + i, none⟩) e).trans (h.cst r i hr hi), (World.cell?_of_block (w := w) (a := ⟨b, 0, none⟩) e2).trans h.p⟩
theorem SpgAt.below {w w' : World} {s b q n d n0 : Nat} (h : SpgAt w s b q n d) (e : Below n0 w w') (hs : s < n0) (hb : b < n0) : SpgAt w' s b q n d := h.blocks (e.block s hs) (e.block b hb)
theorem SpgAt.keep {w w' : World} {s b q n d : Nat} (h : SpgAt w s b q n d) (e : Below w.heap.size w w') : SpgAt w' s b q n d := h.below e h.lt h.ltb

theorem prod_fit {x y : Int} {q : Nat} (hm : q ≤ 2147483647) (h1 : 0 ≤ x) (h2 : x < q) (h3 : 0 ≤ y) (h4 : y < q) : 0 ≤ x * y ∧ x * y ≤ 4611686014132420609 := by
  refine ⟨Int.mul_nonneg h1 h3, ?_⟩
  have := Int.mul_le_mul (show x ≤ 2147483647 by omega) (show y ≤ 2147483647 by omega) h3 (by decide)
  omega

theorem mxs_step (q : Nat) (f : Nat → Int) (i k : Nat) : (mxs q f i k + (invn q ((i + k + 8 : Nat) : Int) : Int) * f k) % (q : Int) = mxs q f i (k + 1) := by
  rw [← mxs_succ, Int.mul_comm, Int.add_emod_emod]

end Go.Proofs.YtaibngnabhmabajGreatDoor

namespace Go.Proofs.YtaibngnabhmabajGreatDoor
open Go.RowKit

/-- what a sponge's numbers are -/
structure SpgOk (q n d : Nat) : Prop where
  pr : Num.Prime q
  h23 : 23 ≤ q
  hm : q ≤ 2147483647
  pw : Spo.PowIs q n
  bk : d * n % (q - 1) = 1
  d1 : 1 ≤ d
  dm : d ≤ 2147483647
  nm : n ≤ 2147483647

theorem powz_int (q n : Nat) (a : Int) (hq : Num.Prime q) (h3 : 3 ≤ q) (hn : 1 ≤ n) : ((powz q a n : Nat) : Int) = a ^ n % (q : Int) := by
  by_cases hz : a % (q : Int) = 0
  · unfold powz
    rw [if_pos ⟨hz, by omega⟩]
    obtain ⟨m, rfl⟩ : ∃ m, n = m + 1 := ⟨n - 1, by omega⟩
    have : (q : Int) ∣ a ^ (m + 1) := by
      rw [Int.pow_succ]
      exact Int.dvd_trans (Int.dvd_of_emod_eq_zero hz) (Int.dvd_mul_left _ _)
    rw [Int.emod_eq_zero_of_dvd this]
    rfl
  · rw [powz_nat q a n hq h3 hz]
    exact pwm_int q a n h3

/-- what a round makes ahead of Mix -/
def pwr (q n : Nat) (f : Nat → Int) (k i : Nat) : Int := (stir q n f k i + cst q k i) ^ n % (q : Int)

end Go.Proofs.YtaibngnabhmabajGreatDoor

namespace Go.Proofs.YtaibngnabhmabajGreatDoor
open Go.RowKit

end Go.Proofs.YtaibngnabhmabajGreatDoor

namespace Go.Proofs.YtaibngnabhmabajGreatDoor
open Go.RowKit

theorem enters_of {P : Program} {f : FuncId} {fn : Func} (hf : P.funcs[f]? = some fn) (hb : fn.body.isNone = false) (hn : (fn.name == "runtime.NumGoroutine") = false) (args : Array Value) (w : World) : (callFunc f args).run P w = .ok (.enter f args) w := by
  simp only [callFunc, Sem.run_bind, run_program, Result.andThen_ok, hf, hn, hb]
  rfl

end Go.Proofs.YtaibngnabhmabajGreatDoor

namespace Go.Proofs.YtaibngnabhmabajGreatDoor
open Go.RowKit

end Go.Proofs.YtaibngnabhmabajGreatDoor

namespace Go.Proofs.YtaibngnabhmabajGreatDoor
open Go.RowKit

theorem div_any (p b : Nat) (x y : Int) (w : World) (hpr : Num.Prime p) (h3 : 3 ≤ p) (hm : p ≤ 2147483647) (hp : w.cell? ⟨b, 0, none⟩ = some (.int .i64 p))
    (hx : -9223372036854775808 ≤ x) (hx2 : x ≤ 9223372036854775807) (hy : -9223372036854775808 ≤ y) (hy2 : y ≤ 9223372036854775807) :
    Calls Tryz.prog 161 #[.pointer (some ⟨b, 0, none⟩), .int .i64 x, .int .i64 y] w fun e w' => e = .returned (.int .i64 (x * (invn p y : Int) % p)) ∧ w' = w := by
  have hl := invn_lt p y h3
  have hi := hid (inv_any p b y w h3 hm hp hy hy2)
  rw [inv_ref p y hpr h3] at hi
  have hmu := hid (mul_any p b x (invn p y) w h3 hm hp hx hx2 (by omega) (by omega))
  generalize invn p y = t at *
  clear hpr
  go_enter Tryz.func161, Tryz.ntmps161
  go_wp2_with fail
  refine hi.out.mono ?_
  rintro e w' ⟨rfl, rfl⟩
  go_wp2_with fail
  refine hmu.out.mono ?_
  rintro e w' ⟨rfl, rfl⟩
  go_wp2_with fail
  go_ret
  exact ⟨rfl, rfl⟩

end Go.Proofs.YtaibngnabhmabajGreatDoor

namespace Go.Proofs.YtaibngnabhmabajGreatDoor
open Go.RowKit

/-- the matrix and the constants, as rows of one block -/
def mtr (q : Nat) (t : Nat) : Int := (invn q ((t / 8 + t % 8 + 8 : Nat) : Int) : Int)
def ctr (q : Nat) (t : Nat) : Int := cst q ((t / 8 : Nat) : Int) ((t % 8 : Nat) : Int)
theorem mtr_at (q i j : Nat) (hj : j < 8) : mtr q (i * 8 + j) = (invn q ((i + j + 8 : Nat) : Int) : Int) := by
  unfold mtr
  rw [show (i * 8 + j) / 8 = i from by omega, show (i * 8 + j) % 8 = j from by omega]
theorem ctr_at (q i j : Nat) (hj : j < 8) : ctr q (i * 8 + j) = cst q i j := by
  unfold ctr
  rw [show (i * 8 + j) / 8 = i from by omega, show (i * 8 + j) % 8 = j from by omega]

theorem inv_invn (p b : Nat) (a : Int) (w : World) (hpr : Num.Prime p) (h3 : 3 ≤ p) (hm : p ≤ 2147483647) (hp : w.cell? ⟨b, 0, none⟩ = some (.int .i64 p)) (ha : -9223372036854775808 ≤ a) (ha2 : a ≤ 9223372036854775807) :
    Calls Tryz.prog 182 #[.pointer (some ⟨b, 0, none⟩), .int .i64 a] w fun e w' => e = .returned (.int .i64 (invn p a)) ∧ w' = w := by
  have h := inv_any p b a w h3 hm hp ha ha2
  rwa [inv_ref p a hpr h3] at h

end Go.Proofs.YtaibngnabhmabajGreatDoor

namespace Go.Proofs.YtaibngnabhmabajGreatDoor
open Go.RowKit

/-! ## a struct that is built of rows -/
theorem put_list (off i : Nat) : ∀ (l : List Value) (k : Nat) (cells : Array Value), ((l.zipIdx k).foldl (fun cs (p : Value × Nat) => cs.setIfInBounds (off + p.2) p.1) cells)[i]? = if off + k ≤ i ∧ i < off + k + l.length ∧ i < cells.size then l[i - off - k]? else cells[i]?
  | [], k, cells => by
    rw [if_neg (by simp; omega)]
    rfl
  | v :: t, k, cells => by
    rw [List.zipIdx_cons, List.foldl_cons, put_list off i t (k + 1)]
    simp only [Array.size_setIfInBounds, List.length_cons]
    by_cases h1 : off + (k + 1) ≤ i ∧ i < off + (k + 1) + t.length ∧ i < cells.size
    · rw [if_pos h1, if_pos (by omega), show i - off - k = (i - off - (k + 1)) + 1 from by omega, List.getElem?_cons_succ]
    · rw [if_neg h1]
      by_cases h2 : i = off + k
      · subst h2
        by_cases h3 : off + k < cells.size
        · rw [if_pos (by omega), show off + k - off - k = 0 from by omega, Array.getElem?_setIfInBounds_self]
          simp [h3]
        · rw [if_neg (by omega), Array.getElem?_eq_none (by simp; omega), Array.getElem?_eq_none (by omega)]
      · rw [if_neg (by omega), Array.getElem?_setIfInBounds_ne (by omega)]

def putc (off : Nat) (vs cells : Array Value) : Array Value := vs.zipIdx.foldl (fun cs (c, j) => cs.setIfInBounds (off + j) c) cells
theorem putc_at (off i : Nat) (vs cells : Array Value) (h : off + vs.size ≤ cells.size) : (putc off vs cells)[i]? = if off ≤ i ∧ i < off + vs.size then vs[i - off]? else cells[i]? := by
  have e := put_list off i vs.toList 0 cells
  have e2 : putc off vs cells = (vs.toList.zipIdx 0).foldl (fun cs (p : Value × Nat) => cs.setIfInBounds (off + p.2) p.1) cells := by
    unfold putc
    rw [← Array.foldl_toList, Array.toList_zipIdx]
  rw [e2, e]
  simp only [Nat.add_zero, Nat.sub_zero, Array.length_toList, Array.getElem?_toList]
  by_cases h1 : off ≤ i ∧ i < off + vs.size
  · rw [if_pos h1, if_pos (by omega)]
  · rw [if_neg h1, if_neg (by omega)]
theorem putc_size (off : Nat) (vs cells : Array Value) (h : off + vs.size ≤ cells.size) : (putc off vs cells).size = cells.size := by
  rcases Nat.lt_trichotomy (putc off vs cells).size cells.size with g | g | g
  · have h1 := putc_at off (putc off vs cells).size vs cells h
    rw [Array.getElem?_eq_none (Nat.le_refl _)] at h1
    split at h1
    · rw [Array.getElem?_eq_getElem (by omega)] at h1; exact absurd h1 (by simp)
    · rw [Array.getElem?_eq_getElem g] at h1; exact absurd h1 (by simp)
  · exact g
  · have h1 := putc_at off cells.size vs cells h
    rw [Array.getElem?_eq_getElem g, if_neg (by omega), Array.getElem?_eq_none (Nat.le_refl _)] at h1
    exact absurd h1 (by simp)

theorem fill_one {place : Nat → Option (Nat × Nat)} {cells : Array Value} {i off size : Nat} {v : Value} {rest : List (Nat × Value)} (hp : place i = some (off, size)) (hv : v.cells.size = size) (hs : off + size ≤ cells.size) :
    Instr.fill place cells ((i, v) :: rest) = Instr.fill place (putc off v.cells cells) rest := by
  subst hv
  simp only [Instr.fill, hp]
  rw [if_neg (by simp; omega)]
  rfl

theorem wpList_build_r {P : Program} {ops : Array Oper} {rest : List Oper} {o : Oper} {a : Act} {w : World} {Q : Exit → Act → World → Prop} (hg : o.guard = none) (t : TypeId) (l : List (Nat × Operand)) (ho : o.op = .build t l.toArray) (R : Array Value)
    (vs : List (Nat × Value)) (hv : l.map (fun p => (p.1, a.eval p.2)) = vs) (hf : P.built t vs = some R) (h : wpList P ops Q rest (a.put o.dst (.agg R)) w) : wpList P ops Q (o :: rest) a w := by
  have e : (l.toArray.map fun (i, x) => (i, a.eval x)).toList = vs := by rw [← hv]; simp
  exact wpList_build hg t l.toArray ho (by rw [e, hf]; rfl) (by rw [e, hf]; exact h)

/-- the sponge's places -/
def spl : Array (Nat × Nat) := #[(0, 1), (1, 1), (2, 1), (3, 64), (67, 8), (75, 64)]
/-- the cells of a sponge -/
def SpgC (R : Array Value) (q b n d : Nat) : Prop := R.size = 139 ∧ R[0]? = some (.pointer (some ⟨b, 0, none⟩)) ∧ R[1]? = some (.int .i64 n) ∧ R[2]? = some (.int .i64 d) ∧ (∀ t, t < 64 → R[3 + t]? = some (.int .i64 (mtr q t))) ∧
  (∀ t, t < 8 → R[67 + t]? = some (.int .i64 (wt q t))) ∧ (∀ t, t < 64 → R[75 + t]? = some (.int .i64 (ctr q t)))

theorem SpgC.at {R : Array Value} {q b n d s : Nat} (h : SpgC R q b n d) {w : World} {t : TypeId} (hw : w.heap[s]? = some (.cells R t (0, 0))) (hp : w.cell? ⟨b, 0, none⟩ = some (.int .i64 q)) : SpgAt w s b q n d := by
  obtain ⟨_, h1, h2, h3, h4, h5, h6⟩ := h
  have hc : ∀ i, w.cell? ⟨s, i, none⟩ = R[i]? := fun i => cell_of_row w s i R t (0, 0) hw
  refine ⟨by rw [hc, h1], by rw [hc, h2], by rw [hc, h3], fun i j hi hj => ?_, fun i hi => by rw [hc, h5 i hi], fun r i hr hi => ?_, hp⟩
  · rw [hc, Nat.add_assoc, h4 (i * 8 + j) (by omega), mtr_at q i j hj]
  · rw [hc, Nat.add_assoc, h6 (r * 8 + i) (by omega), ctr_at q r i hi]

end Go.Proofs.YtaibngnabhmabajGreatDoor

namespace Go.Proofs.YtaibngnabhmabajGreatDoor
open Go.RowKit

/-- rows of a matrix: each is a list of its own -/
def MatR (w : World) (q n0 k : Nat) (V : Nat → Value) : Prop := ∀ j, j < k → ∃ g N, V j = .slice (some ⟨g, 0, none⟩) 8 N ∧ n0 < g ∧ g < w.heap.size ∧ ∀ i, i < 8 → w.cell? ⟨g, i, none⟩ = some (.int .i64 (invn q ((j + i + 8 : Nat) : Int)))
theorem MatR.step {w w' : World} {q n0 k : Nat} {V : Nat → Value} (h : MatR w q n0 k V) (e : ∀ g, n0 < g → g < w.heap.size → w'.heap[g]? = w.heap[g]?) (hs : w.heap.size ≤ w'.heap.size) : MatR w' q n0 k V := fun j hj => by
  obtain ⟨g, N, h1, h2, h3, h4⟩ := h j hj
  exact ⟨g, N, h1, h2, by omega, fun i hi => (World.cell?_of_block (w := w) (a := ⟨g, i, none⟩) (e g h2 h3)).trans (h4 i hi)⟩

theorem Tryz.infoSl : (Tryz.prog.info? 22).map (fun i => (i.zero, i.size, i.bytes)) = some (some (.slice none 0 0), 1, 24) := by kernel_rfl

end Go.Proofs.YtaibngnabhmabajGreatDoor
