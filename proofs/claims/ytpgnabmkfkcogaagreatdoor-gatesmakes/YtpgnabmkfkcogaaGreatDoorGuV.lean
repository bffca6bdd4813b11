/- Chapter 18, plainly: the end of a layer, its line; Check takes what Make tells. -/
import Derived.Test.YtpgnabmkfkcogaaGreatDoorGmAU
namespace Go.Proofs.YtpgnabmkfkcogaaGreatDoor
open Go.RowKit

theorem lnz_len (p : Nat) (t x y : List Int) (m : Nat) : (lnz p t x y m).length = m + 1 := ls_len _ _
/-- what is told so far in a layer: where the chain is, what was drawn -/
def mks (q n : Nat) (gs : List GatZ) (t : List Int) (m : Nat) (z D : List Int) : Nat → List Int × List Int
  | 0 => (D, [])
  | k + 1 => (gan q n (mks q n gs t m z D k).1 (tld q gs t m z (mks q n gs t m z D k).2), (mks q n gs t m z D k).2 ++ [zat (gan q n (mks q n gs t m z D k).1 (tld q gs t m z (mks q n gs t m z D k).2)) 0])
/-- a layer's rounds -/
def mkr (q n : Nat) (gs : List GatZ) (t : List Int) (m : Nat) (z D : List Int) (k : Nat) : List (List Int) := (List.range k).map (fun j => tld q gs t m z (mks q n gs t m z D j).2)
theorem mkr_len (q n : Nat) (gs : List GatZ) (t : List Int) (m : Nat) (z D : List Int) (k : Nat) : (mkr q n gs t m z D k).length = k := by simp [mkr]
theorem mkr_rat {q n : Nat} {gs : List GatZ} {t : List Int} {m : Nat} {z D : List Int} {k j : Nat} (h : j < k) : rat (mkr q n gs t m z D k) j = tld q gs t m z (mks q n gs t m z D j).2 := by
  unfold rat mkr
  rw [List.getD_eq_getElem?_getD]
  simp [h]
theorem mks_gds {q n : Nat} {gs : List GatZ} {t : List Int} {m : Nat} {z D : List Int} {K : Nat} : ∀ k, k ≤ K → gds q n (mkr q n gs t m z D K) D k = (mks q n gs t m z D k).1 ∧ gxs q n (mkr q n gs t m z D K) D k = (mks q n gs t m z D k).2
  | 0, _ => ⟨rfl, rfl⟩
  | k + 1, h => by
    obtain ⟨h1, h2⟩ := mks_gds (q := q) (n := n) (gs := gs) (t := t) (m := m) (z := z) (D := D) (K := K) k (by omega)
    have e1 : gds q n (mkr q n gs t m z D K) D (k + 1) = (mks q n gs t m z D (k + 1)).1 := by
      show gan q n (gds q n (mkr q n gs t m z D K) D k) (rat (mkr q n gs t m z D K) k) = _
      rw [h1, mkr_rat (by omega)]
      rfl
    refine ⟨e1, ?_⟩
    rw [gxs_succ, h2, e1]
    rfl
theorem mks_len {q n : Nat} {gs : List GatZ} {t : List Int} {m : Nat} {z D : List Int} : ∀ k, (mks q n gs t m z D k).2.length = k
  | 0 => rfl
  | k + 1 => by
    show ((mks q n gs t m z D k).2 ++ [_]).length = _
    rw [List.length_append, mks_len k]
    rfl
/-- where one is who makes what shows a circuit; what is told of a layer -/
def mrs (q n : Nat) (wide : Int) (lys : List (List GatZ)) (inputs : List Int) (ly : Nat) (s : GSt) : List (List Int) := mkr q n (lyt lys ly) (gvs q lys inputs ly) (bnn wide lys ly) s.z s.D (2 * bnn wide lys ly)
def mln (q n : Nat) (wide : Int) (lys : List (List GatZ)) (inputs : List Int) (ly : Nat) (s : GSt) : List Int := lnz q (gvs q lys inputs ly) ((mks q n (lyt lys ly) (gvs q lys inputs ly) (bnn wide lys ly) s.z s.D (2 * bnn wide lys ly)).2.take (bnn wide lys ly)) ((mks q n (lyt lys ly) (gvs q lys inputs ly) (bnn wide lys ly) s.z s.D (2 * bnn wide lys ly)).2.drop (bnn wide lys ly)) (bnn wide lys ly)
def mst (q n : Nat) (wide : Int) (lys : List (List GatZ)) (inputs : List Int) : Nat → GSt
  | 0 => gs0 q n wide lys (gvs q lys inputs lys.length)
  | i + 1 => gnx q n (bnn wide lys (lys.length - 1 - i)) (mrs q n wide lys inputs (lys.length - 1 - i) (mst q n wide lys inputs i)) (mln q n wide lys inputs (lys.length - 1 - i) (mst q n wide lys inputs i)) (mst q n wide lys inputs i)
/-- what Make tells of the first layers from above -/
def mRs (q n : Nat) (wide : Int) (lys : List (List GatZ)) (inputs : List Int) (k : Nat) : List (List (List Int)) := (List.range k).map (fun i => mrs q n wide lys inputs (lys.length - 1 - i) (mst q n wide lys inputs i))
def mLs (q n : Nat) (wide : Int) (lys : List (List GatZ)) (inputs : List Int) (k : Nat) : List (List Int) := (List.range k).map (fun i => mln q n wide lys inputs (lys.length - 1 - i) (mst q n wide lys inputs i))
theorem mRs_len (q n : Nat) (wide : Int) (lys : List (List GatZ)) (inputs : List Int) (k : Nat) : (mRs q n wide lys inputs k).length = k := by simp [mRs]
theorem mLs_len (q n : Nat) (wide : Int) (lys : List (List GatZ)) (inputs : List Int) (k : Nat) : (mLs q n wide lys inputs k).length = k := by simp [mLs]
theorem mRs_at {q n : Nat} {wide : Int} {lys : List (List GatZ)} {inputs : List Int} {k i : Nat} (h : i < k) : rrt (mRs q n wide lys inputs k) i = mrs q n wide lys inputs (lys.length - 1 - i) (mst q n wide lys inputs i) := by
  unfold rrt mRs
  rw [List.getD_eq_getElem?_getD]
  simp [h]
theorem mLs_at {q n : Nat} {wide : Int} {lys : List (List GatZ)} {inputs : List Int} {k i : Nat} (h : i < k) : rat (mLs q n wide lys inputs k) i = mln q n wide lys inputs (lys.length - 1 - i) (mst q n wide lys inputs i) := by
  unfold rat mLs
  rw [List.getD_eq_getElem?_getD]
  simp [h]
theorem gst_mst {q n : Nat} {wide : Int} {lys : List (List GatZ)} {inputs : List Int} : ∀ i, i ≤ lys.length → gst q n wide lys (mRs q n wide lys inputs lys.length) (mLs q n wide lys inputs lys.length) (gs0 q n wide lys (gvs q lys inputs lys.length)) i = mst q n wide lys inputs i
  | 0, _ => rfl
  | i + 1, h => by
    show gnx _ _ _ _ _ _ = gnx _ _ _ _ _ _
    rw [gst_mst i (by omega), mRs_at (by omega), mLs_at (by omega)]
end Go.Proofs.YtpgnabmkfkcogaaGreatDoor
