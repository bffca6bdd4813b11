/- Plain facts on what Values and Coefficients answer: the values of a product, the sum of all values, the way back; an element of the order of a size. -/
import Derived.Test.YtidkhgplejglaacDoorDomI
import Derived.Test.YtidkhgplejglaacDoorGen
import Derived.Test.YtidkhgplejglaacDoorPolC
namespace Go.Proofs.YtidkhgplejglaacDoor
open Go.RowKit

theorem evz_mk {p : Nat} (hp : 0 < p) (f : Nat → Int) (n : Nat) (h : ∀ j, n ≤ j → f j % (p : Int) = 0) (x : Int) : evz p (Pol.mk p f n) x = Pol.ps f x n % (p : Int) := by
  unfold evz
  rw [Pol.emod_eq_iff hp]
  have hl : (Pol.mk p f n).length ≤ n := by rw [Pol.mk_length]; exact Pol.tp_le _ _ _
  have h1 := Pol.ps_more (p := p) (f := Pol.cf (Pol.mk p f n)) x (Pol.mk p f n).length n hl (fun j hj => by rw [Pol.cf_ge hj]; exact Int.dvd_zero _)
  have h2 := Pol.ps_congr (p := p) x n (fun j _ => Pol.mk_eqp h j)
  have := Int.dvd_sub h2 h1
  rwa [show ∀ a b c : Int, a - b - (a - c) = c - b from fun a b c => by omega] at this
theorem evz_trim {p : Nat} (hp : 0 < p) (zs : List Int) (x : Int) : evz p (Pol.trim p zs) x = evz p zs x := evz_mk hp (Pol.cf zs) zs.length (Pol.cf_behind p zs) x

theorem evz_mul {p : Nat} (hp : 0 < p) (xs ys : List Int) (x : Int) : evz p xs x * evz p ys x % (p : Int) = evz p (Pol.pmul p xs ys) x := by
  rw [Pol.pmul, evz_mk hp _ _ (Pol.pmul_b p xs ys), Dom.ps_mul (Pol.cf xs) (Pol.cf ys) x xs.length ys.length (fun j hj => Pol.cf_ge hj) (fun j hj => Pol.cf_ge hj)]
  unfold evz
  rw [← Int.mul_emod]
  rfl

theorem two_pow_nd {p : Nat} (hp : Num.Prime p) (h3 : 3 ≤ p) (k : Nat) : ¬ (p : Int) ∣ ((2 ^ k : Nat) : Int) := by
  rw [Int.natCast_pow]
  refine Dom.pow_nd hp (fun h => ?_) k
  have := Int.le_of_dvd (by decide) h
  omega

/-- the way back -/
theorem evz_coefs {p n : Nat} (hp : Num.Prime p) (h3 : 3 ≤ p) {r s : Int} (zs : List Int) (h : Dom.Ord p r n) (hs : ¬ (p : Int) ∣ s) (hn : ¬ (p : Int) ∣ (n : Int)) (j : Nat) (hj : j < n) :
    evz p (Pol.trim p (ls (coefs p zs n (invn p r) (invn p n) (invn p s)) n)) (Dom.pt p s r j) = zat zs j % (p : Int) := by
  have hb := Dom.back hp h (inv_dvd_one hp h3 (h.nd hp)) (inv_dvd_one hp h3 hs) (inv_dvd_one hp h3 hn) (zat zs) (coefs p zs n (invn p r) (invn p n) (invn p s)) (fun j hj => Dom.back_coef (zat zs) _ _ _ hj _ rfl) j hj
  rw [evz_trim (by omega), ← evz_pt p (by omega), ls_len, Pol.emod_eq_iff (by omega)]
  rwa [show Pol.ps (zat (ls (coefs p zs n (invn p r) (invn p n) (invn p s)) n)) (s * r ^ j) n = Pol.ps (coefs p zs n (invn p r) (invn p n) (invn p s)) (s * r ^ j) n from by
    rw [Dom.ps_sm, Dom.ps_sm]; exact Dom.sm_same (fun i hi => by rw [ls_at _ _ _ hi])]

/-- the sum of all values -/
theorem sum_evz {p n : Nat} (hp : Num.Prime p) {r : Int} (s : Int) (zs : List Int) (h : Dom.Ord p r n) (hd : tpn p (zat zs) zs.length ≤ n) :
    Dom.sm (fun i => evz p zs (Dom.pt p s r i)) n % (p : Int) = zat zs 0 * (n : Int) % (p : Int) := by
  have hp0 : 0 < p := by have := hp.1; omega
  have h1 := Dom.sum_values hp h (zat zs) s (zs.length + 1) (by omega) (fun j h1 h2 => by
    by_cases e : j < zs.length
    · exact Pol.emod_zero_iff.1 (Pol.tp_behind p (zat zs) zs.length j (Nat.le_trans hd h1) e)
    · rw [show zat zs j = 0 from by simp [zat, show zs.length ≤ j from by omega]]; exact Int.dvd_zero _)
  rw [Pol.emod_eq_iff hp0]
  have h2 : (p : Int) ∣ Dom.sm (fun i => evz p zs (Dom.pt p s r i)) n - Dom.sm (fun i => Pol.ps (zat zs) (s * r ^ i) (zs.length + 1)) n := by
    refine Dom.sm_congr (fun i _ => ?_)
    rw [← evz_pt p hp0, show Pol.ps (zat zs) (s * r ^ i) (zs.length + 1) = Pol.ps (zat zs) (s * r ^ i) zs.length from by
      rw [Pol.ps, show zat zs zs.length = 0 from by simp [zat]]; simp]
    exact Pol.emod_dvd p _
  have := Int.dvd_add h2 h1
  rwa [show ∀ a b c d : Int, a - b + (b - c * d) = a - d * c from fun a b c d => by grind] at this

/-- what Root answers for a size that may be -/
theorem root_ord2 {p k r : Nat} (hp : Num.Prime p) (h3 : 3 ≤ p) (hd : (p - 1) % 2 ^ k = 0) (h : RootIs p ((2 ^ k : Nat) : Int) r) : Dom.Ord p (r : Int) (2 ^ k) ∧ r < p := by
  have hpos : 1 ≤ 2 ^ k := Nat.pow_pos (by decide)
  rcases h with ⟨h1, _⟩ | ⟨_, _, g, hg, rfl⟩
  · rcases h1 with h1 | h1
    · omega
    · exact absurd (sizeOk_nat h3 hd) h1
  · obtain ⟨g1, g2, g3⟩ := Num.genIs_some hp h3 hg
    rw [Int.toNat_natCast]
    exact ⟨Num.root_circle hp h3 g1 g2 g3 hpos (Nat.dvd_of_mod_eq_zero hd), Num.pwm_lt _ _ _ (by omega)⟩

end Go.Proofs.YtidkhgplejglaacDoor
