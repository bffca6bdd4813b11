/- What package attestref1 answers of polynomials: Scaled, Minus, Times, for every list. -/
import Derived.Test.YtbbjbhiihfnkmahGreatDoorPls
namespace Go.Proofs.YtbbjbhiihfnkmahGreatDoor
open Go.RowKit

theorem zat_app (k j : Nat) (ms : List Int) : zat (List.replicate k (0 : Int) ++ ms) j = if j < k then 0 else zat ms (j - k) := by
  unfold zat
  by_cases h : j < k
  · rw [if_pos h, List.getElem?_append_left (by simp; exact h)]; simp [h]
  · rw [if_neg h, List.getElem?_append_right (by simp; omega)]; simp

theorem pscale_ls {p : Nat} (h3 : 3 ≤ p) (zs : List Int) (c : Int) (k : Nat) : Pol.trim p (List.replicate k (0 : Int) ++ ls (fun j => zat zs j * c % (p : Int)) zs.length) = Pol.pscale p zs c k := by
  refine Pol.mk_congr (by omega) (Pol.cf_behind p _) (Pol.pscale_b p zs c k) (fun j => ?_)
  rw [show Pol.cf (List.replicate k (0 : Int) ++ ls (fun j => zat zs j * c % (p : Int)) zs.length) j = zat (List.replicate k (0 : Int) ++ ls (fun j => zat zs j * c % (p : Int)) zs.length) j from rfl, zat_app]
  simp only [Pol.sh, Pol.sc]
  by_cases h : j < k
  · rw [if_pos h, if_pos h]; simp
  · rw [if_neg h, if_neg h]
    by_cases h2 : j - k < zs.length
    · rw [ls_at _ _ _ h2, Int.mul_comm c]
      exact Pol.emod_dvd p _
    · rw [Pol.cf_ge (by omega)]
      have : zat (ls (fun j => zat zs j * c % (p : Int)) zs.length) (j - k) = 0 := by
        unfold zat; rw [List.getElem?_eq_none (by rw [ls_len]; omega)]; rfl
      rw [this]; simp

theorem psub_ls {p : Nat} (h3 : 3 ≤ p) (xs ys : List Int) : Pol.padd p xs (Pol.pscale p ys (-1) 0) = Pol.psub p xs ys := by
  refine Pol.mk_congr (by omega) (Pol.padd_b p _ _) (Pol.psub_b p xs ys) ?_
  refine ((Pol.Eqp.refl p (Pol.cf xs)).add (Pol.pscale_eqp p ys (-1) 0)).trans (Pol.Eqp.of_eq ?_)
  funext j
  simp only [Pol.add, Pol.sub, Pol.sc, Pol.sh]
  rw [if_neg (by omega)]
  simp; omega

theorem pscale_can {p : Nat} (h3 : 3 ≤ p) (zs : List Int) (c : Int) (k : Nat) : Pol.Can p (Pol.pscale p zs c k) := Pol.mk_can (by omega) _ _
theorem padd_can {p : Nat} (h3 : 3 ≤ p) (xs ys : List Int) : Pol.Can p (Pol.padd p xs ys) := Pol.mk_can (by omega) _ _
theorem psub_can {p : Nat} (h3 : 3 ≤ p) (xs ys : List Int) : Pol.Can p (Pol.psub p xs ys) := Pol.mk_can (by omega) _ _
theorem pmul_can {p : Nat} (h3 : 3 ≤ p) (xs ys : List Int) : Pol.Can p (Pol.pmul p xs ys) := Pol.mk_can (by omega) _ _
theorem fits_of_can {p : Nat} (hm : p ≤ 2147483647) {zs : List Int} (h : Pol.Can p zs) : Fits zs := fun j hj => by
  have := h.elem j hj
  have e : zat zs j = zs.getD j 0 := rfl
  omega

/-- the product while the first i of xs are taken -/
def tm (p : Nat) (xs ys : List Int) (i : Nat) : List Int := Pol.mk p (Pol.mul (Pol.lo i (Pol.cf xs)) (Pol.cf ys)) (i + ys.length)

theorem tm_b (p : Nat) (xs ys : List Int) (i : Nat) : ∀ j, i + ys.length ≤ j → Pol.mul (Pol.lo i (Pol.cf xs)) (Pol.cf ys) j % (p : Int) = 0 := fun j hj => by
  have : Pol.mul (Pol.lo i (Pol.cf xs)) (Pol.cf ys) j = 0 := Pol.ml_zero_beyond _ _ i ys.length (fun j h => by simp only [Pol.lo]; rw [if_neg (by omega)]) (fun j h => Pol.cf_ge h) j (by omega)
  rw [this]; simp
theorem tm_zero (p : Nat) (xs ys : List Int) : tm p xs ys 0 = [] := by
  have : (tm p xs ys 0).length = 0 := by
    rw [tm, Pol.mk_length]
    exact Nat.le_zero.1 (Pol.tp_bound (fun j _ => by rw [Pol.lo_zero, Pol.zero_mul]; exact Int.dvd_zero _))
  exact List.length_eq_zero_iff.1 this
theorem tm_succ {p : Nat} (h3 : 3 ≤ p) (xs ys : List Int) (i : Nat) : Pol.padd p (tm p xs ys i) (Pol.pscale p ys (zat xs i) i) = tm p xs ys (i + 1) := by
  refine Pol.mk_congr (by omega) (Pol.padd_b p _ _) (tm_b p xs ys (i + 1)) ?_
  rw [Pol.lo_mul_succ]
  exact (Pol.mk_eqp (tm_b p xs ys i)).add (Pol.pscale_eqp p ys (zat xs i) i)
theorem tm_done {p : Nat} (h3 : 3 ≤ p) (xs ys : List Int) : tm p xs ys xs.length = Pol.pmul p xs ys := by
  refine Pol.mk_congr (by omega) (tm_b p xs ys xs.length) (Pol.pmul_b p xs ys) ?_
  rw [Pol.lo_len]; exact Pol.Eqp.refl _ _
theorem tm_le (p : Nat) (xs ys : List Int) (i : Nat) : (tm p xs ys i).length ≤ i + ys.length := by rw [tm, Pol.mk_length]; exact Pol.tp_le _ _ _
theorem tm_can {p : Nat} (h3 : 3 ≤ p) (xs ys : List Int) (i : Nat) : Pol.Can p (tm p xs ys i) := Pol.mk_can (by omega) _ _

end Go.Proofs.YtbbjbhiihfnkmahGreatDoor
