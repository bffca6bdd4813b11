/- What package attestref1 answers of polynomials: Scaled, Minus, Times, for every list. Plain facts on division with a rest, for lists modulo a prime: what the reference's rounds and the program's rounds keep; both end at the one quotient and the one rest. What package poly's Vanish and its helpers answer. Plain facts on mending a word: lists of places; what is 0 at given points alone; the polynomial that a word is of, but for few places, is what the division gives. Package code: a domain as it lies still; mayBound, Encode. Package code: Distance; the reference's. Plain facts on folding words, of no program. Plain facts on folded words: low degrees, distances. What package fold's Fold must answer; attestlaw5.plain, lives. -/
import Derived.Test.YtgcjpddpolaofahGreatPls
import Derived.Deep.RegionWith
import Derived.Test.YtgcjpddpolaofahGreatPlain
import Derived.Test.YtgcjpddpolaofahGreatDoms
import Derived.Deep.QuietTactic
namespace Go.Proofs.YtgcjpddpolaofahGreat
open Go.RowKit

theorem zat_app (k j : Nat) (ms : List Int) : zat (List.replicate k (0 : Int) ++ ms) j = if j < k then 0 else zat ms (j - k) := by
  unfold zat
  by_cases h : j < k
  · rw [if_pos h, List.getElem?_append_left (by simp; exact h)]; simp [h]
  · rw [if_neg h, List.getElem?_append_right (by simp; omega)]; simp

theorem pscale_ls {p : Nat} (h3 : 3 ≤ p) (zs : List Int) (c : Int) (k : Nat) : Pol.trim p (List.replicate k (0 : Int) ++ ls (fun j => zat zs j * c % (p : Int)) zs.length) = Pol.pscale p zs c k := by
  refine Pol.mk_congr (by omega) (Pol.cf_behind p _) (Pol.pscale_b p zs c k) (fun j => ?_)
  rw [show Pol.cf (List.replicate k (0 : Int) ++ ls (fun j => zat zs j * c % (p : Int)) zs.length) j = zat (List.replicate k (0 : Int) ++ ls (fun j => zat zs j * c % (p : Int)) zs.length) j from rfl, zat_app]
  simp only [Pol.sh, Pol.sc]
  by_cases h : j < k
  · rw [if_pos h, if_pos h]; simp
  · rw [if_neg h, if_neg h]
    by_cases h2 : j - k < zs.length
    · rw [ls_at _ _ _ h2, Int.mul_comm c]
      exact Pol.emod_dvd p _
    · rw [Pol.cf_ge (by omega)]
      have : zat (ls (fun j => zat zs j * c % (p : Int)) zs.length) (j - k) = 0 := by
        unfold zat; rw [List.getElem?_eq_none (by rw [ls_len]; omega)]; rfl
      rw [this]; simp

theorem psub_ls {p : Nat} (h3 : 3 ≤ p) (xs ys : List Int) : Pol.padd p xs (Pol.pscale p ys (-1) 0) = Pol.psub p xs ys := by
  refine Pol.mk_congr (by omega) (Pol.padd_b p _ _) (Pol.psub_b p xs ys) ?_
  refine ((Pol.Eqp.refl p (Pol.cf xs)).add (Pol.pscale_eqp p ys (-1) 0)).trans (Pol.Eqp.of_eq ?_)
  funext j
  simp only [Pol.add, Pol.sub, Pol.sc, Pol.sh]
  rw [if_neg (by omega)]
  simp; omega

theorem pscale_can {p : Nat} (h3 : 3 ≤ p) (zs : List Int) (c : Int) (k : Nat) : Pol.Can p (Pol.pscale p zs c k) := Pol.mk_can (by omega) _ _
theorem padd_can {p : Nat} (h3 : 3 ≤ p) (xs ys : List Int) : Pol.Can p (Pol.padd p xs ys) := Pol.mk_can (by omega) _ _
theorem psub_can {p : Nat} (h3 : 3 ≤ p) (xs ys : List Int) : Pol.Can p (Pol.psub p xs ys) := Pol.mk_can (by omega) _ _
theorem pmul_can {p : Nat} (h3 : 3 ≤ p) (xs ys : List Int) : Pol.Can p (Pol.pmul p xs ys) := Pol.mk_can (by omega) _ _
theorem fits_of_can {p : Nat} (hm : p ≤ 2147483647) {zs : List Int} (h : Pol.Can p zs) : Fits zs := fun j hj => by
  have := h.elem j hj
  have e : zat zs j = zs.getD j 0 := rfl
  omega

/-- the product while the first i of xs are taken -/
def tm (p : Nat) (xs ys : List Int) (i : Nat) : List Int := Pol.mk p (Pol.mul (Pol.lo i (Pol.cf xs)) (Pol.cf ys)) (i + ys.length)

theorem tm_b (p : Nat) (xs ys : List Int) (i : Nat) : ∀ j, i + ys.length ≤ j → Pol.mul (Pol.lo i (Pol.cf xs)) (Pol.cf ys) j % (p : Int) = 0 := fun j hj => by
  have : Pol.mul (Pol.lo i (Pol.cf xs)) (Pol.cf ys) j = 0 := Pol.ml_zero_beyond _ _ i ys.length (fun j h => by simp only [Pol.lo]; rw [if_neg (by omega)]) (fun j h => Pol.cf_ge h) j (by omega)
  rw [this]; simp
theorem tm_zero (p : Nat) (xs ys : List Int) : tm p xs ys 0 = [] := by
  have : (tm p xs ys 0).length = 0 := by
    rw [tm, Pol.mk_length]
    exact Nat.le_zero.1 (Pol.tp_bound (fun j _ => by rw [Pol.lo_zero, Pol.zero_mul]; exact Int.dvd_zero _))
  exact List.length_eq_zero_iff.1 this
theorem tm_succ {p : Nat} (h3 : 3 ≤ p) (xs ys : List Int) (i : Nat) : Pol.padd p (tm p xs ys i) (Pol.pscale p ys (zat xs i) i) = tm p xs ys (i + 1) := by
  refine Pol.mk_congr (by omega) (Pol.padd_b p _ _) (tm_b p xs ys (i + 1)) ?_
  rw [Pol.lo_mul_succ]
  exact (Pol.mk_eqp (tm_b p xs ys i)).add (Pol.pscale_eqp p ys (zat xs i) i)
theorem tm_done {p : Nat} (h3 : 3 ≤ p) (xs ys : List Int) : tm p xs ys xs.length = Pol.pmul p xs ys := by
  refine Pol.mk_congr (by omega) (tm_b p xs ys xs.length) (Pol.pmul_b p xs ys) ?_
  rw [Pol.lo_len]; exact Pol.Eqp.refl _ _
theorem tm_le (p : Nat) (xs ys : List Int) (i : Nat) : (tm p xs ys i).length ≤ i + ys.length := by rw [tm, Pol.mk_length]; exact Pol.tp_le _ _ _
theorem tm_can {p : Nat} (h3 : 3 ≤ p) (xs ys : List Int) (i : Nat) : Pol.Can p (tm p xs ys i) := Pol.mk_can (by omega) _ _

end Go.Proofs.YtgcjpddpolaofahGreat

namespace Go.Proofs.YtgcjpddpolaofahGreat
open Go.RowKit Pol

theorem nonneg_dvd_zero {p : Nat} {x : Int} (h0 : 0 ≤ x) (h1 : x < p) (hd : (p : Int) ∣ x) : x = 0 := by
  rcases Int.lt_or_le 0 x with g | g
  · have := Int.le_of_dvd g hd; omega
  · omega

theorem invn_dvd {p : Nat} (hp : Num.Prime p) (h3 : 3 ≤ p) {z : Int} (h : ¬ (p : Int) ∣ z) : (p : Int) ∣ (invn p z : Int) * z - 1 := by
  have hz : z % (p : Int) ≠ 0 := fun e => h (Int.dvd_of_emod_eq_zero e)
  have h1 : 0 < el p z := by have := (emod_bounds z p h3).1; unfold el; omega
  have h2 := el_lt p z h3
  have key : invn p z * el p z % p = 1 := by
    unfold invn
    have : el p z = Num.pwm p (el p z) 1 := (Num.pwm_one p _ h2).symm
    rw [show Num.pwm p (el p z) (p - 2) * el p z = Num.pwm p (el p z) (p - 2) * Num.pwm p (el p z) 1 from by rw [← this], Num.pwm_add, show p - 2 + 1 = p - 1 from by omega]
    exact Num.pwm_fermat hp h1 h2
  have e1 := el_cast p z h3
  have d1 : (p : Int) ∣ ((invn p z * el p z : Nat) : Int) - 1 := by
    have hm := Nat.div_add_mod (invn p z * el p z) p
    rw [key] at hm
    obtain ⟨k, hk⟩ : ∃ k, p * k + 1 = invn p z * el p z := ⟨_, hm⟩
    rw [← hk]
    exact ⟨(k : Int), by push_cast; omega⟩
  have d2 : (p : Int) ∣ (invn p z : Int) * (z % (p : Int) - z) := Int.dvd_mul_of_dvd_right (emod_dvd p z)
  have := Int.dvd_sub d1 d2
  rw [show ((invn p z * el p z : Nat) : Int) - 1 - (invn p z : Int) * (z % (p : Int) - z) = (invn p z : Int) * z - 1 from by push_cast; rw [e1]; grind] at this
  exact this

/-- q and r are quotient and rest; ts has no zeros at its end and is not empty -/
structure IsD (p : Nat) (az ts q r : List Int) : Prop where
  cq : Pol.Can p q
  cr : Pol.Can p r
  lt : r.length < ts.length
  eq : Eqp p (cf az) (add (mul (cf q) (cf ts)) (cf r))

theorem IsD.unique {p : Nat} (hp : Num.Prime p) (h3 : 3 ≤ p) {az ts q r q' r' : List Int} (ht : Pol.Can p ts) (h : IsD p az ts q r) (h' : IsD p az ts q' r') : q = q' ∧ r = r' := by
  have hpos : 0 < ts.length := by have := h.lt; omega
  have z : ∀ (l : List Int) (N : Nat), l.length ≤ N → ∀ j, N ≤ j → (p : Int) ∣ cf l j := fun l N hN j hj => by rw [cf_ge (by omega)]; exact Int.dvd_zero _
  obtain ⟨e1, e2⟩ := div_unique hp (N := max q.length q'.length) (t := ts.length - 1) (z q _ (by omega)) (z q' _ (by omega)) (fun j hj => by rw [cf_ge (by omega)]; exact Int.dvd_zero _) (ht.last_nd hpos)
    (z r _ (by have := h.lt; omega)) (z r' _ (by have := h'.lt; omega)) (h.eq.symm.trans h'.eq)
  exact ⟨can_eq (by omega) h.cq h'.cq e1, can_eq (by omega) h.cr h'.cr e2⟩

/-- what the reference's rounds keep -/
structure RD (p : Nat) (az ts q r : List Int) (n : Nat) : Prop where
  cq : Pol.Can p q
  cr : Pol.Can p r
  lq : q.length ≤ n
  lr : r.length ≤ n
  eq : Eqp p (cf az) (add (mul (cf q) (cf ts)) (cf r))

theorem RD.start {p : Nat} (h3 : 3 ≤ p) (az ts : List Int) : RD p az ts [] (trim p az) az.length :=
  ⟨Pol.Can.nil p, trim_can (by omega) az, by simp, trim_le p az, by
    rw [cf_nil, zero_mul]
    refine (trim_eqp p az).symm.trans (Eqp.of_eq ?_)
    funext j; simp [add, zero]⟩

def rc (p : Nat) (r ts : List Int) : Int := zat r (r.length - 1) * (invn p (zat ts (ts.length - 1)) : Int) % (p : Int)

theorem RD.step {p : Nat} (hp : Num.Prime p) (h3 : 3 ≤ p) {az ts q r : List Int} {n : Nat} (ht : Pol.Can p ts) (hts : 0 < ts.length) (h : RD p az ts q r n) (hl : ts.length ≤ r.length) :
    RD p az ts (padd p q (pscale p [1] (rc p r ts) (r.length - ts.length))) (psub p r (pscale p ts (rc p r ts) (r.length - ts.length))) n ∧ (psub p r (pscale p ts (rc p r ts) (r.length - ts.length))).length < r.length := by
  have hc : ∀ c, c = rc p r ts → (p : Int) ∣ zat r (r.length - 1) - c * zat ts (ts.length - 1) := fun c e => by
    have d1 := emod_dvd p (zat r (r.length - 1) * (invn p (zat ts (ts.length - 1)) : Int))
    rw [show zat r (r.length - 1) * (invn p (zat ts (ts.length - 1)) : Int) % (p : Int) = c from e.symm] at d1
    obtain ⟨u, hu⟩ := invn_dvd hp h3 (ht.last_nd hts)
    rw [show cf ts (ts.length - 1) = zat ts (ts.length - 1) from rfl] at hu
    obtain ⟨v, hv⟩ := d1
    refine ⟨- (zat r (r.length - 1) * u) - v * zat ts (ts.length - 1), ?_⟩
    have e1 : c = zat r (r.length - 1) * (invn p (zat ts (ts.length - 1)) : Int) + p * v := by omega
    have e2 : (invn p (zat ts (ts.length - 1)) : Int) * zat ts (ts.length - 1) = 1 + p * u := by omega
    rw [e1]
    grind
  generalize rc p r ts = c at *
  have hc := hc c rfl
  have hk : r.length - ts.length + ts.length = r.length := by omega
  have hrow : ∀ j, r.length - 1 ≤ j → (p : Int) ∣ sub (cf r) (cf (pscale p ts c (r.length - ts.length))) j := fun j hj => by
    have d := pscale_eqp p ts c (r.length - ts.length) j
    simp only [sub]
    have hr : (p : Int) ∣ cf r j - sh (r.length - ts.length) (sc c (cf ts)) j := by
      simp only [sh, sc]
      rw [if_neg (by omega)]
      by_cases e : j = r.length - 1
      · subst e
        rw [show r.length - 1 - (r.length - ts.length) = ts.length - 1 from by omega]
        exact hc
      · rw [cf_ge (by omega), cf_ge (by omega)]; simp
    have := Int.dvd_sub hr d
    rwa [show ∀ x y z : Int, x - y - (z - y) = x - z from fun x y z => by omega] at this
  have hlen : (psub p r (pscale p ts c (r.length - ts.length))).length ≤ r.length - 1 := by
    rw [psub, mk_length]; exact tp_bound hrow
  refine ⟨⟨padd_can h3 _ _, psub_can h3 _ _, ?_, ?_, ?_⟩, ?_⟩
  · have h1 := padd_le p q (pscale p [1] c (r.length - ts.length))
    have h2 := pscale_le p [1] c (r.length - ts.length)
    have := h.lq; have := h.lr
    simp at h2
    omega
  · have := h.lr; omega
  · have e1 := padd_eqp p q (pscale p [1] c (r.length - ts.length))
    have e2 := psub_eqp p r (pscale p ts c (r.length - ts.length))
    have e3 := pscale_eqp p [1] c (r.length - ts.length)
    have e4 := pscale_eqp p ts c (r.length - ts.length)
    refine h.eq.trans (Eqp.symm ?_)
    refine (((e1.trans ((Eqp.refl p (cf q)).add e3)).mul_left (cf ts)).add (e2.trans ((Eqp.refl p (cf r)).sub e4))).trans (Eqp.of_eq ?_)
    rw [add_mul, cf_one, sh_mul, sc_mul, one_mul]
    funext j
    simp only [add, sub]
    omega
  · omega

theorem RD.done {p : Nat} {az ts q r : List Int} {n : Nat} (h : RD p az ts q r n) (hl : r.length < ts.length) : IsD p az ts q r := ⟨h.cq, h.cr, hl, h.eq⟩

/-- what the program's rounds keep: i places of the quotient are told -/
structure PD (p : Nat) (az ts : List Int) (m n top i : Nat) (qf rf : Nat → Int) : Prop where
  rb : ∀ j, j < n → 0 ≤ rf j ∧ rf j < p
  qb : ∀ j, j < m → 0 ≤ qf j ∧ qf j < p
  q0 : ∀ j, j < m - i → qf j = 0
  r0 : ∀ j, m - i + top ≤ j → j < n → rf j = 0
  eq : Eqp p (cf az) (add (mul (lo m qf) (cf ts)) (lo n rf))
  first : i = 0 → ∀ j, j < n → rf j = zat (trim p az) j
  last : 0 < i → qf (m - 1) ≠ 0

theorem lo_cf {l : List Int} {f : Nat → Int} (h : ∀ j, j < l.length → f j = zat l j) : lo l.length f = cf l := by
  funext j; simp only [lo]
  by_cases hj : j < l.length
  · rw [if_pos hj, h j hj]; rfl
  · rw [if_neg hj, cf_ge (by omega)]

theorem PD.start {p : Nat} (h3 : 3 ≤ p) (az ts : List Int) (m top : Nat) (hm : (trim p az).length ≤ m + top) : PD p az ts m (trim p az).length top 0 (fun _ => 0) (zat (trim p az)) := by
  refine ⟨fun j hj => (trim_can (by omega) az).elem j hj, fun j _ => by omega, fun _ _ => rfl, fun j h1 h2 => by omega, ?_, fun _ _ _ => rfl, fun h => by omega⟩
  rw [show lo m (fun _ => (0 : Int)) = zero from by funext j; simp [lo, zero], zero_mul, show lo (trim p az).length (zat (trim p az)) = cf (trim p az) from lo_len _]
  refine (trim_eqp p az).symm.trans (Eqp.of_eq ?_)
  funext j; simp [add, zero]

theorem PD.step {p : Nat} (hp : Num.Prime p) (h3 : 3 ≤ p) {az ts : List Int} {m n top i : Nat} {qf rf : Nat → Int} (ht : Pol.Can p ts) (htop : ts.length = top + 1) (hn : n = m + top) (hnl : n = (trim p az).length) (h : PD p az ts m n top i qf rf) (hi : i < m) :
    PD p az ts m n top (i + 1) (Go.Proofs.YtgcjpddpolaofahGreat.up qf (m - 1 - i) (rf (m - 1 - i + top) * (invn p (zat ts top) : Int) % (p : Int)))
      (addf p rf (zat ts) ((0 - rf (m - 1 - i + top) * (invn p (zat ts top) : Int) % (p : Int)) % (p : Int)) (m - 1 - i) ts.length) := by
  have hnd : ¬ (p : Int) ∣ zat ts top := by
    have := ht.last_nd (by omega)
    rw [show ts.length - 1 = top from by omega] at this
    exact this
  obtain ⟨x, hx⟩ : ∃ x, x = rf (m - 1 - i + top) := ⟨_, rfl⟩
  obtain ⟨q, hq⟩ : ∃ q, q = x * (invn p (zat ts top) : Int) % (p : Int) := ⟨_, rfl⟩
  rw [← hx, ← hq]
  have hqb := emod_bounds (x * (invn p (zat ts top) : Int)) p h3
  rw [← hq] at hqb
  obtain ⟨pl, hpl⟩ : ∃ pl, pl = m - 1 - i := ⟨_, rfl⟩
  rw [← hpl] at hx ⊢
  -- the place that goes
  have hc : (p : Int) ∣ x - q * zat ts top := by
    have d1 := emod_dvd p (x * (invn p (zat ts top) : Int))
    rw [← hq] at d1
    obtain ⟨u, hu⟩ := invn_dvd hp h3 hnd
    obtain ⟨v, hv⟩ := d1
    refine ⟨- (x * u) - v * zat ts top, ?_⟩
    have e1 : q = x * (invn p (zat ts top) : Int) + p * v := by omega
    have e2 : (invn p (zat ts top) : Int) * zat ts top = 1 + p * u := by omega
    rw [e1]
    grind
  have hneg : (p : Int) ∣ (0 - q) % (p : Int) - (0 - q) := emod_dvd p _
  have hrb : ∀ j, j < n → 0 ≤ addf p rf (zat ts) ((0 - q) % (p : Int)) pl ts.length j ∧ addf p rf (zat ts) ((0 - q) % (p : Int)) pl ts.length j < p := fun j hj => by
    unfold addf
    split
    · exact emod_bounds _ p h3
    · exact h.rb j hj
  refine ⟨hrb, fun j hj => ?_, fun j hj => ?_, fun j h1 h2 => ?_, ?_, fun e => by omega, fun _ => ?_⟩
  · unfold Go.Proofs.YtgcjpddpolaofahGreat.up
    split
    · exact hqb
    · exact h.qb j hj
  · unfold Go.Proofs.YtgcjpddpolaofahGreat.up
    rw [if_neg (by omega)]
    exact h.q0 j (by omega)
  · by_cases e : j = pl + top
    · refine nonneg_dvd_zero (hrb j h2).1 (hrb j h2).2 ?_
      unfold addf
      rw [if_pos (by omega), e, Nat.add_sub_cancel_left, ← hx]
      have d1 := emod_dvd p (x + zat ts top * ((0 - q) % (p : Int)))
      obtain ⟨u, hu⟩ := hneg
      obtain ⟨v, hv⟩ := hc
      obtain ⟨s, hs⟩ := d1
      have e1 : (0 - q) % (p : Int) = p * u + (0 - q) := by omega
      refine ⟨s + v + zat ts top * u, ?_⟩
      have e2 : (x + zat ts top * ((0 - q) % (p : Int))) % (p : Int) = p * s + (x + zat ts top * ((0 - q) % (p : Int))) := by omega
      rw [e2, e1]
      grind
    · unfold addf
      rw [if_neg (by omega)]
      exact h.r0 j (by omega) h2
  · have hq' : lo m (Go.Proofs.YtgcjpddpolaofahGreat.up qf pl q) = add (lo m qf) (sh pl (sc q one)) := by
      funext j
      simp only [lo, add, sh, sc, one, Go.Proofs.YtgcjpddpolaofahGreat.up]
      by_cases e : j = pl
      · subst e
        rw [if_pos (by omega), if_pos rfl, if_pos (by omega), if_neg (by omega), h.q0 j (by omega)]
        simp
      · by_cases e2 : j < m
        · rw [if_pos e2, if_neg e, if_pos e2]
          by_cases e3 : j < pl
          · rw [if_pos e3]; omega
          · rw [if_neg e3, if_neg (by omega)]; omega
        · rw [if_neg e2, if_neg e2, if_neg (by omega), if_neg (by omega)]; simp
    have hr' : Eqp p (lo n (addf p rf (zat ts) ((0 - q) % (p : Int)) pl ts.length)) (sub (lo n rf) (sh pl (sc q (cf ts)))) := fun j => by
      simp only [lo, sub, sh, sc]
      by_cases e2 : j < n
      · rw [if_pos e2, if_pos e2]
        unfold addf
        by_cases e : pl ≤ j ∧ j < pl + ts.length
        · rw [if_pos e, if_neg (by omega)]
          obtain ⟨u, hu⟩ := hneg
          obtain ⟨s, hs⟩ := emod_dvd p (rf j + zat ts (j - pl) * ((0 - q) % (p : Int)))
          refine ⟨s + zat ts (j - pl) * u, ?_⟩
          have e3 : (0 - q) % (p : Int) = p * u + (0 - q) := by omega
          have e4 : (rf j + zat ts (j - pl) * ((0 - q) % (p : Int))) % (p : Int) = p * s + (rf j + zat ts (j - pl) * ((0 - q) % (p : Int))) := by omega
          rw [e4, e3, show cf ts (j - pl) = zat ts (j - pl) from rfl]
          grind
        · rw [if_neg e]
          by_cases e3 : j < pl
          · rw [if_pos e3]; simp
          · rw [if_neg e3, cf_ge (by omega)]; simp
      · rw [if_neg e2, if_neg e2, if_neg (by omega), cf_ge (by omega)]; simp
    rw [hq']
    refine h.eq.trans (Eqp.symm (((Eqp.refl p _).add hr').trans (Eqp.of_eq ?_)))
    rw [add_mul, sh_mul, sc_mul, one_mul]
    funext j
    simp only [add, sub]
    omega
  · unfold Go.Proofs.YtgcjpddpolaofahGreat.up
    by_cases e : m - 1 = pl
    · rw [if_pos e]
      intro e0
      have i0 : i = 0 := by omega
      have hf := h.first i0 (n - 1) (by omega)
      rw [show pl + top = n - 1 from by omega, hf, hnl] at hx
      have hl := (trim_can (p := p) (by omega) az).last_nd (by omega)
      rw [e0, show (0 : Int) * zat ts top = 0 from by simp, Int.sub_zero, hx] at hc
      exact hl hc
    · rw [if_neg e]
      exact h.last (by omega)

theorem PD.done {p : Nat} (h3 : 3 ≤ p) {az ts : List Int} {m n top : Nat} {qf rf : Nat → Int} (htop : ts.length = top + 1) (h : PD p az ts m n top m qf rf) : IsD p az ts (ls qf m) (Pol.mk p rf n) := by
  have hb : ∀ j, n ≤ j → lo n rf j % (p : Int) = 0 := fun j hj => by simp only [lo]; rw [if_neg (by omega)]; simp
  have hcong : Pol.mk p rf n = Pol.mk p (lo n rf) n := by
    have ht : tp p rf n = tp p (lo n rf) n := tp_congr p _ _ n (fun j hj => by simp only [lo]; rw [if_pos hj])
    unfold Pol.mk
    rw [ht]
    refine List.map_congr_left (fun j hj => ?_)
    have := tp_le p (lo n rf) n
    have hj2 : j < tp p (lo n rf) n := List.mem_range.1 hj
    simp only [lo]
    rw [if_pos (by omega)]
  refine ⟨⟨fun j hj => ?_, fun hj => ?_⟩, mk_can (by omega) _ _, ?_, ?_⟩
  · rw [ls_len] at hj
    have := ls_at qf m j hj
    rw [show (ls qf m).getD j 0 = zat (ls qf m) j from rfl, this]
    exact h.qb j hj
  · rw [ls_len] at hj ⊢
    rw [show (ls qf m).getD (m - 1) 0 = zat (ls qf m) (m - 1) from rfl, ls_at _ _ _ (by omega)]
    exact h.last hj
  · rw [mk_length]
    have : tp p rf n ≤ top := by
      rcases Nat.lt_or_ge top (tp p rf n) with g | g
      · have h1 := tp_last p rf n (by omega)
        have h2 := tp_le p rf n
        rw [h.r0 _ (by omega) (by omega)] at h1
        simp at h1
      · exact g
    omega
  · refine h.eq.trans (Eqp.add (Eqp.mul_left _ (Eqp.of_eq ?_)) ?_)
    · funext j; simp only [lo]
      by_cases e : j < m
      · rw [if_pos e]; exact (ls_at qf m j e).symm
      · rw [if_neg e, cf_ge (by rw [ls_len]; omega)]
    · rw [hcong]; exact (mk_eqp hb).symm

end Go.Proofs.YtgcjpddpolaofahGreat

namespace Go.Proofs.YtgcjpddpolaofahGreat
open Go.RowKit

/-- what stands a place ahead -/
def bef (f : Nat → Int) (i : Nat) : Int := if i = 0 then 0 else f (i - 1)

/-- the last k of the first L places multiplied by x - root -/
def trf (p : Nat) (f : Nat → Int) (x : Int) (L k : Nat) : Nat → Int := fun j => if L - k ≤ j ∧ j < L then (bef f j - f j * x % (p : Int)) % (p : Int) else f j
theorem trf_zero (p : Nat) (f : Nat → Int) (x : Int) (L : Nat) : trf p f x L 0 = f := by
  funext j; unfold trf; rw [if_neg (by omega)]
theorem trf_succ (p : Nat) (f : Nat → Int) (x : Int) (L k : Nat) (hk : k < L) : up (trf p f x L k) (L - 1 - k) ((bef f (L - 1 - k) - f (L - 1 - k) * x % (p : Int)) % (p : Int)) = trf p f x L (k + 1) := by
  funext j; unfold up trf
  by_cases h : j = L - 1 - k
  · rw [if_pos h, if_pos (by omega), h]
  · rw [if_neg h]
    by_cases h2 : L - k ≤ j ∧ j < L
    · rw [if_pos h2, if_pos (by omega)]
    · rw [if_neg h2, if_neg (by omega)]
theorem trf_at (p : Nat) (f : Nat → Int) (x : Int) (L k j : Nat) (h : j < L - k) : trf p f x L k j = f j := by unfold trf; rw [if_neg (by omega)]

/-- the product of x - xs[i] of the first n, modulo p -/
def vn (p : Nat) (xs : List Int) (n : Nat) : Nat → Int := fun j => Pol.van (zat xs) n j % (p : Int)
theorem vn_zero (p : Nat) (xs : List Int) (h3 : 3 ≤ p) : vn p xs 0 = fun j => if j = 0 then 1 else 0 := by
  funext j; unfold vn; simp only [Pol.van, Pol.one]
  split
  · exact Int.emod_eq_of_lt (by omega) (by omega)
  · simp
theorem vn_succ (p : Nat) (xs : List Int) (n : Nat) : trf p (vn p xs n) (zat xs n) (n + 2) (n + 2) = vn p xs (n + 1) := by
  funext j
  unfold trf bef vn
  rw [Pol.van, Pol.mul_lin]
  simp only [Pol.sub, Pol.sh, Pol.sc]
  by_cases h : j < n + 2
  · rw [if_pos (by omega)]
    by_cases h0 : j = 0
    · subst h0
      rw [if_pos rfl, if_pos (by omega), Int.sub_emod 0, Int.emod_emod_of_dvd _ (Int.dvd_refl _), Int.mul_emod, Int.emod_emod_of_dvd _ (Int.dvd_refl _), ← Int.mul_emod, ← Int.sub_emod, Int.mul_comm]
    · rw [if_neg h0, if_neg (by omega), Int.sub_emod, Int.emod_emod_of_dvd _ (Int.dvd_refl _), Int.emod_emod_of_dvd _ (Int.dvd_refl _), Int.mul_emod, Int.emod_emod_of_dvd _ (Int.dvd_refl _), ← Int.mul_emod, ← Int.sub_emod, Int.mul_comm]
  · rw [if_neg (by omega), if_neg (by omega), Pol.van_zero _ _ _ (by omega), Pol.van_zero _ _ _ (by omega)]; simp
theorem vn_bounds (p : Nat) (xs : List Int) (n j : Nat) (h3 : 3 ≤ p) : 0 ≤ vn p xs n j ∧ vn p xs n j < p := emod_bounds _ p h3

/-- the list of Vanish -/
def pvan (p : Nat) (xs : List Int) : List Int := Pol.mk p (Pol.van (zat xs) xs.length) (xs.length + 1)
theorem pvan_list {p : Nat} (h3 : 3 ≤ p) (xs : List Int) : (pvan p xs).length = xs.length + 1 ∧ ∀ j, j < xs.length + 1 → zat (pvan p xs) j = vn p xs xs.length j := by
  have hl : (pvan p xs).length = xs.length + 1 := by
    rw [pvan, Pol.mk_length]
    refine Pol.tp_unique p _ _ _ (Nat.le_refl _) (fun j h1 h2 => by omega) (fun _ => ?_)
    rw [Nat.add_sub_cancel, Pol.van_top, Int.emod_eq_of_lt (by omega) (by omega)]
    omega
  refine ⟨hl, fun j hj => ?_⟩
  rw [← hl, pvan, Pol.mk_length] at hj
  exact Pol.mk_at p _ _ j hj

end Go.Proofs.YtgcjpddpolaofahGreat

namespace Go.Proofs.YtgcjpddpolaofahGreat
open Go.RowKit Pol

/-- of the first n places those of which P holds, each as F tells it -/
def pk (P : Nat → Bool) (F : Nat → Int) : Nat → List Int
  | 0 => []
  | n + 1 => if P n then pk P F n ++ [F n] else pk P F n

theorem pk_len (P : Nat → Bool) (F : Nat → Int) (n : Nat) : (pk P F n).length = Cod.cnt P n := by
  induction n with
  | zero => rfl
  | succ n ih => simp only [pk, Cod.cnt]; split <;> simp [ih]
theorem pk_congr {P Q : Nat → Bool} {F G : Nat → Int} {n : Nat} (h : ∀ j, j < n → P j = Q j) (h2 : ∀ j, j < n → P j = true → F j = G j) : pk P F n = pk Q G n := by
  induction n with
  | zero => rfl
  | succ n ih =>
    simp only [pk]
    rw [ih (fun j hj => h j (by omega)) (fun j hj => h2 j (by omega)), ← h n (by omega)]
    by_cases g : P n = true
    · simp only [g, if_true]; rw [h2 n (by omega) g]
    · rw [if_neg g, if_neg g]
/-- each stands for a place -/
theorem pk_at (P : Nat → Bool) (F : Nat → Int) (n i : Nat) (hi : i < (pk P F n).length) : ∃ j, j < n ∧ P j = true ∧ zat (pk P F n) i = F j := by
  induction n with
  | zero => simp [pk] at hi
  | succ n ih =>
    simp only [pk] at hi ⊢
    by_cases g : P n = true
    · simp only [g, if_true] at hi ⊢
      by_cases e : i < (pk P F n).length
      · obtain ⟨j, h1, h2, h3⟩ := ih e
        exact ⟨j, by omega, h2, by rw [← h3]; simp [zat, List.getElem?_append, e]⟩
      · refine ⟨n, by omega, g, ?_⟩
        rw [List.length_append, List.length_singleton] at hi
        have : i = (pk P F n).length := by omega
        subst this
        simp [zat]
    · simp only [g] at hi ⊢
      obtain ⟨j, h1, h2, h3⟩ := ih hi
      exact ⟨j, by omega, h2, h3⟩
/-- each place is there -/
theorem pk_has (P : Nat → Bool) (F : Nat → Int) (n j : Nat) (hj : j < n) (hP : P j = true) : ∃ i, i < (pk P F n).length ∧ zat (pk P F n) i = F j := by
  induction n with
  | zero => omega
  | succ n ih =>
    by_cases e : j = n
    · subst e
      simp only [pk, hP, if_true]
      exact ⟨(pk P F j).length, by simp, by simp [zat]⟩
    · obtain ⟨i, h1, h2⟩ := ih (by omega)
      simp only [pk]
      by_cases g : P n = true
      · simp only [g, if_true]
        exact ⟨i, by simp; omega, by rw [← h2]; simp [zat, List.getElem?_append, h1]⟩
      · simp only [g]
        exact ⟨i, h1, h2⟩

/-! ## 0 at given points alone -/
theorem ps_lin (x y : Int) : ps (lin y) x 2 = x - y := by simp [ps, lin, sub, sh, sc, one, Int.pow_succ]; omega
theorem lin_far (y : Int) (j : Nat) (h : 2 ≤ j) : lin y j = 0 := by
  simp only [lin, sub, sh, sc, one]
  rw [if_neg (show ¬ j < 1 by omega), if_neg (show ¬ j - 1 = 0 by omega), if_neg (show ¬ j = 0 by omega)]; simp
theorem ps_van (xs : Nat → Int) (x : Int) (n : Nat) : ps (van xs (n + 1)) x (n + 2) = ps (van xs n) x (n + 1) * (x - xs n) := by
  have h1 := Dom.ps_mul (van xs n) (lin (xs n)) x (n + 1) 2 (fun j hj => van_zero xs n j (by omega)) (fun j hj => lin_far _ j hj)
  rw [ps_lin] at h1
  have h2 : van xs (n + 1) = mul (van xs n) (lin (xs n)) := rfl
  rw [← h1, ← h2]
  exact (Dom.ps_stay _ x (n + 2) (n + 1 + 2) (by omega) (fun j hj => van_zero xs (n + 1) j (by omega))).symm
theorem van_zero_iff {p : Nat} (hp : Num.Prime p) (xs : Nat → Int) (x : Int) (n : Nat) : (p : Int) ∣ ps (van xs n) x (n + 1) ↔ ∃ i, i < n ∧ (p : Int) ∣ x - xs i := by
  induction n with
  | zero =>
    have : ps (van xs 0) x 1 = 1 := by simp [ps, van, one]
    rw [this]
    refine ⟨fun h => ?_, fun ⟨i, hi, _⟩ => absurd hi (by omega)⟩
    have := Int.le_of_dvd (by decide) h
    have := hp.1
    omega
  | succ n ih =>
    rw [ps_van]
    constructor
    · intro h
      rcases prime_mul hp h with h | h
      · obtain ⟨i, h1, h2⟩ := ih.1 h; exact ⟨i, by omega, h2⟩
      · exact ⟨n, by omega, h⟩
    · rintro ⟨i, hi, hd⟩
      by_cases e : i = n
      · subst e; exact Int.dvd_mul_of_dvd_right hd
      · exact Int.dvd_mul_of_dvd_left (ih.2 ⟨i, by omega, hd⟩)

theorem evz_pvan {p : Nat} (hp : Num.Prime p) (xs : List Int) (x : Int) : evz p (pvan p xs) x = 0 ↔ ∃ i, i < xs.length ∧ (p : Int) ∣ x - zat xs i := by
  have h0 : 0 < p := by have := hp.1; omega
  rw [pvan, evz_mkn h0 _ _ (fun j hj => by rw [van_zero _ _ _ (by omega)]; simp), emod_zero_iff]
  exact van_zero_iff hp _ _ _
theorem pvan_can {p : Nat} (hp : 0 < p) (xs : List Int) : Pol.Can p (pvan p xs) := mk_can hp _ _

/-- what is 0 at the points of the places of which G holds, at these alone -/
theorem evz_lost {p n : Nat} (hp : Num.Prime p) {r s : Int} (ho : Dom.Ord p r n) (hs : ¬ (p : Int) ∣ s) (G : Nat → Bool) (j : Nat) (hj : j < n) : evz p (pvan p (pk G (Dom.pt p s r) n)) (Dom.pt p s r j) = 0 ↔ G j = true := by
  rw [evz_pvan hp]
  constructor
  · rintro ⟨i, hi, hd⟩
    obtain ⟨m, h1, h2, h3⟩ := pk_at G (Dom.pt p s r) n i hi
    rw [h3] at hd
    rcases Nat.lt_trichotomy j m with e | e | e
    · have := Int.dvd_neg.2 hd
      rw [show -(Dom.pt p s r j - Dom.pt p s r m) = Dom.pt p s r m - Dom.pt p s r j from by omega] at this
      exact absurd this (Cod.pt_unlike hp ho hs j m e h1)
    · rw [e]; exact h2
    · exact absurd hd (Cod.pt_unlike hp ho hs m j e hj)
  · intro hg
    obtain ⟨i, h1, h2⟩ := pk_has G (Dom.pt p s r) n j hj hg
    exact ⟨i, h1, by rw [h2, Int.sub_self]; exact Int.dvd_zero _⟩

/-! ## the way back to the polynomial -/
theorem evz_ps {p : Nat} (zs : List Int) (x : Int) (N : Nat) (h : zs.length ≤ N) : (p : Int) ∣ evz p zs x - ps (cf zs) x N := by
  have h1 : ps (cf zs) x N = ps (cf zs) x zs.length := Dom.ps_stay _ x _ _ h (fun j hj => cf_ge hj)
  have h2 : ps (zat zs) x zs.length = ps (cf zs) x zs.length := by rw [show zat zs = cf zs from funext fun j => zat_cf zs j]
  unfold evz
  rw [h1, h2]
  exact emod_dvd p _

theorem evz_ps_mul {p : Nat} (xs bs : List Int) (x : Int) (N : Nat) (h : xs.length + bs.length ≤ N + 1) : (p : Int) ∣ evz p xs x * evz p bs x - ps (mul (cf xs) (cf bs)) x N := by
  have h1 := Dom.ps_mul (cf xs) (cf bs) x xs.length bs.length (fun j hj => cf_ge hj) (fun j hj => cf_ge hj)
  have h2 : ps (mul (cf xs) (cf bs)) x N = ps (cf xs) x xs.length * ps (cf bs) x bs.length := by
    rw [← h1]
    rcases Nat.lt_or_ge N (xs.length + bs.length) with g | g
    · exact (Dom.ps_stay _ x N _ (by omega) (fun j hj => pmul_z xs bs j (by omega))).symm
    · exact Dom.ps_stay _ x _ N g (fun j hj => pmul_z xs bs j (by omega))
  rw [h2]
  have e1 := evz_ps (p := p) xs x xs.length (Nat.le_refl _)
  have e2 := evz_ps (p := p) bs x bs.length (Nat.le_refl _)
  have := Int.dvd_add (Int.dvd_mul_of_dvd_left (c := evz p bs x) e1) (Int.dvd_mul_of_dvd_right (b := ps (cf xs) x xs.length) e2)
  rwa [show (evz p xs x - ps (cf xs) x xs.length) * evz p bs x + ps (cf xs) x xs.length * (evz p bs x - ps (cf bs) x bs.length) = evz p xs x * evz p bs x - ps (cf xs) x xs.length * ps (cf bs) x bs.length from by grind] at this

theorem cnt_true (n : Nat) : Cod.cnt (fun _ => true) n = n := by
  induction n with
  | zero => rfl
  | succ n ih => simp only [Cod.cnt, ih, if_true]

theorem mend {p n : Nat} (hp : Num.Prime p) (h3 : 3 ≤ p) {r s : Int} (ho : Dom.Ord p r n) (hs : ¬ (p : Int) ∣ s) (k sp : Nat) (G E : Nat → Bool) (w g U A h nx bf t B : List Int)
    (hsp : sp + k + Cod.cnt G n = n) (hg : Pol.Can p g) (hgl : g.length ≤ k) (hE : ∀ j, j < n → E j = (!G j && !(evz p g (Dom.pt p s r j) == zat w j % (p : Int)))) (hc : 2 * Cod.cnt E n ≤ sp)
    (hU : Pol.Can p U) (hUl : U.length = Cod.cnt G n + 1) (hUz : ∀ j, j < n → (evz p U (Dom.pt p s r j) = 0 ↔ G j = true))
    (hAl : A.length ≤ n) (hA : ∀ j, j < n → evz p A (Dom.pt p s r j) = evz p U (Dom.pt p s r j) * zat w j % (p : Int))
    (hL : Cod.LI p sp (cf (A.drop (n - sp))) h nx bf t) (hx : 2 * nx.length < sp + 2)
    (hBl : B.length ≤ n) (hB : ∀ j, j < n → evz p B (Dom.pt p s r j) = evz p (pmul p U t) (Dom.pt p s r j) * zat w j % (p : Int)) :
    IsD p B (trim p (pmul p U t)) g [] := by
  have h0 : 0 < p := by omega
  have htl : 2 * t.length ≤ sp + 2 := by have := hL.dh; have := hL.df; omega
  have ht1 : 1 ≤ t.length := by have := hL.db; omega
  have hD : Pol.Can p (pmul p U t) := mk_can h0 _ _
  have hDl := pmul_len hp hU hL.cf (by omega) (by omega)
  -- what is wrong
  have hev : ∀ j, j < n → (p : Int) ∣ ps (sub (cf A) (mul (cf g) (cf U))) (Dom.pt p s r j) n - evz p U (Dom.pt p s r j) * (zat w j - evz p g (Dom.pt p s r j)) := fun j hj => by
    have hsub : ∀ (x : Int) (m : Nat), ps (sub (cf A) (mul (cf g) (cf U))) x m = ps (cf A) x m - ps (mul (cf g) (cf U)) x m := fun x m => by
      induction m with
      | zero => rfl
      | succ m ih => simp only [ps, ih, sub]; grind
    rw [hsub]
    have e1 := evz_ps (p := p) A (Dom.pt p s r j) n hAl
    have e2 := evz_ps_mul (p := p) g U (Dom.pt p s r j) n (by omega)
    have e3 := emod_dvd p (evz p U (Dom.pt p s r j) * zat w j)
    rw [← hA j hj] at e3
    have := Int.dvd_add (Int.dvd_sub e2 e1) e3
    rwa [show ∀ a b c d u v : Int, c * u - d - (a - b) + (a - u * v) = b - d - u * (v - c) from fun a b c d u v => by grind] at this
  have hnd : ∀ (zs : List Int) (x : Int), (p : Int) ∣ evz p zs x → evz p zs x = 0 := fun zs x hd => nonneg_dvd_zero (evz_bounds p zs x h3).1 (evz_bounds p zs x h3).2 hd
  have hwg : ∀ j, (p : Int) ∣ zat w j - evz p g (Dom.pt p s r j) ↔ evz p g (Dom.pt p s r j) = zat w j % (p : Int) := fun j => by
    have e1 : evz p g (Dom.pt p s r j) % (p : Int) = evz p g (Dom.pt p s r j) := Int.emod_eq_of_lt (evz_bounds p g _ h3).1 (evz_bounds p g _ h3).2
    rw [← emod_eq_iff h0, e1]
    exact ⟨fun h => h.symm, fun h => h.symm⟩
  have hloc := Cod.locate hp ho hs (sub (cf A) (mul (cf g) (cf U))) (cf t) sp (by omega)
    (fun j hj => by simp only [sub]; rw [cf_ge (l := A) (by omega), show mul (cf g) (cf U) j = 0 from pmul_z g U j (by omega)]; rfl)
    (fun j hj => cf_ge (by omega))
    (fun i h1 h2 => by
      have e1 := hL.en i h1
      rw [cf_ge (l := nx) (by omega), Int.zero_sub] at e1
      have e2 : (fun j => sub (cf A) (mul (cf g) (cf U)) (n - sp + j)) = cf (A.drop (n - sp)) := by
        funext j
        simp only [sub]
        rw [show mul (cf g) (cf U) (n - sp + j) = 0 from pmul_z g U _ (by omega), Int.sub_zero]
        simp [cf, List.getElem?_drop]
      rw [e2]
      exact Int.dvd_neg.1 e1)
    E
    (fun j hj hEj => by
      have e1 := hev j hj
      rw [hE j hj] at hEj
      have e2 : (p : Int) ∣ evz p U (Dom.pt p s r j) * (zat w j - evz p g (Dom.pt p s r j)) := by
        cases hG : G j with
        | true => rw [(hUz j hj).2 hG, Int.zero_mul]; exact Int.dvd_zero _
        | false =>
          rw [hG] at hEj
          simp at hEj
          exact Int.dvd_mul_of_dvd_right ((hwg j).2 hEj)
      have := Int.dvd_add e1 e2
      rwa [show ∀ a b : Int, a - b + b = a from fun a b => by omega] at this)
    hc
  have hagree : ∀ j, j < n → (p : Int) ∣ ps (cf B) (Dom.pt p s r j) n - ps (mul (cf g) (cf (pmul p U t))) (Dom.pt p s r j) n := fun j hj => by
    have e1 := evz_ps (p := p) B (Dom.pt p s r j) n hBl
    have e2 := evz_ps_mul (p := p) g (pmul p U t) (Dom.pt p s r j) n (by omega)
    have e3 := emod_dvd p (evz p (pmul p U t) (Dom.pt p s r j) * zat w j)
    rw [← hB j hj] at e3
    have e4 : (p : Int) ∣ evz p (pmul p U t) (Dom.pt p s r j) * (zat w j - evz p g (Dom.pt p s r j)) := by
      have e5 : evz p (pmul p U t) (Dom.pt p s r j) = evz p U (Dom.pt p s r j) * evz p t (Dom.pt p s r j) % (p : Int) := (evz_mul h0 U t _).symm
      cases hG : G j with
      | true => rw [e5, (hUz j hj).2 hG]; simp
      | false =>
        by_cases hw : evz p g (Dom.pt p s r j) = zat w j % (p : Int)
        · exact Int.dvd_mul_of_dvd_right ((hwg j).2 hw)
        · have ht : (p : Int) ∣ ps (cf t) (Dom.pt p s r j) n := by
            refine (prime_mul hp (hloc j hj)).resolve_left (fun hd => ?_)
            have e6 := Int.dvd_sub hd (hev j hj)
            rw [show ∀ a b : Int, a - (a - b) = b from fun a b => by omega] at e6
            rcases prime_mul hp e6 with e7 | e7
            · have := (hUz j hj).1 (hnd _ _ e7)
              rw [hG] at this
              exact absurd this (by decide)
            · exact hw ((hwg j).1 e7)
          have e8 : evz p t (Dom.pt p s r j) = 0 := by
            have e9 := Int.dvd_add (evz_ps (p := p) t (Dom.pt p s r j) n (by omega)) ht
            rw [show ∀ a b : Int, a - b + b = a from fun a b => by omega] at e9
            exact hnd _ _ e9
          rw [e5, e8]; simp
    have := Int.dvd_add (Int.dvd_sub (Int.dvd_add e2 e4) e1) e3
    rwa [show ∀ a b c d u v : Int, c * u - d + u * (v - c) - (a - b) + (a - u * v) = b - d from fun a b c d u v => by grind] at this
  have hsame := Cod.same_of_agree hp (Cod.pt_unlike hp ho hs) (cf B) (mul (cf g) (cf (pmul p U t))) n (fun _ => true) (fun j hj _ => hagree j hj) (by rw [cnt_true]; exact Nat.le_refl _)
  rw [trim_id h0 hD]
  refine ⟨hg, Pol.Can.nil p, by simp; omega, fun j => ?_⟩
  rw [cf_nil]
  simp only [add, zero, Int.add_zero]
  by_cases hj : j < n
  · exact hsame j hj
  · rw [cf_ge (l := B) (by omega), show mul (cf g) (cf (pmul p U t)) j = 0 from pmul_z g _ j (by omega), Int.sub_self]; exact Int.dvd_zero _

end Go.Proofs.YtgcjpddpolaofahGreat

namespace Go.Proofs.YtgcjpddpolaofahGreat
open Go.RowKit

/-- a domain that was made, as it lies in a world -/
structure DO (w : World) (p b d n : Nat) (r s : Int) : Prop where
  pr : Num.Prime p
  h3 : 3 ≤ p
  hm : p ≤ 2147483647
  hp : w.cell? ⟨b, 0, none⟩ = some (.int .i64 p)
  da : DomAt w d b n r s
  hk : ∃ k, k ≤ 16 ∧ n = 2 ^ k
  hr0 : 0 ≤ r
  hr1 : r < p
  ord : Dom.Ord p r n
  hs0 : 0 ≤ s
  hs1 : s < p
  hsd : ¬ (p : Int) ∣ s

theorem DO.below {w w' : World} {p b d n n0 : Nat} {r s : Int} (h : DO w p b d n r s) (e : Below n0 w w') (hb : b < n0) (hd : d < n0) : DO w' p b d n r s :=
  ⟨h.pr, h.h3, h.hm, (e.cell (p := ⟨b, 0, none⟩) hb).trans h.hp, h.da.below e hd, h.hk, h.hr0, h.hr1, h.ord, h.hs0, h.hs1, h.hsd⟩
theorem DO.blt {w : World} {p b d n : Nat} {r s : Int} (h : DO w p b d n r s) : b < w.heap.size := heap_lt h.hp
theorem DO.dlt {w : World} {p b d n : Nat} {r s : Int} (h : DO w p b d n r s) : d < w.heap.size := h.da.lt
theorem DO.step {w w' : World} {p b d n : Nat} {r s : Int} (h : DO w p b d n r s) (e : Below w.heap.size w w') : DO w' p b d n r s := h.below e h.blt h.dlt
theorem DO.pos {w : World} {p b d n : Nat} {r s : Int} (h : DO w p b d n r s) : 0 < n ∧ n ≤ 65536 := by
  obtain ⟨k, h1, h2⟩ := h.hk
  have := two_pow_le h1
  have : 0 < 2 ^ k := Nat.pow_pos (by decide)
  omega
theorem DO.nnd {w : World} {p b d n : Nat} {r s : Int} (h : DO w p b d n r s) : ¬ (p : Int) ∣ (n : Int) := by
  obtain ⟨k, h1, h2⟩ := h.hk
  rw [h2]
  exact two_pow_nd h.pr h.h3 k

theorem values_ok {w : World} {p b d n : Nat} {r s : Int} (D : DO w p b d n r s) (a : Option Addr) (cap : Nat) (zs : List Int) (hlen : zs.length ≤ 281474976710656) (hfit : Fits zs) (hrow : RowB w.heap.size w a zs) :
    Calls Tryz.prog 13 #[.pointer (some ⟨d, 0, none⟩), .slice a zs.length cap] w fun e w' =>
      e = .returned (.slice (some ⟨w.heap.size, 0, none⟩) n n) ∧ w'.rowIs w.heap.size 3 n (fun j => .int .i64 (evz p zs (Dom.pt p s r j))) ∧ Below w.heap.size w w' ∧ w.heap.size < w'.heap.size := by
  obtain ⟨k, h1, h2⟩ := D.hk
  exact values_any p b d k n cap r s (· < w.heap.size) a zs w D.pr D.h3 D.hm D.hp D.da h1 h2 D.hr0 D.hr1 D.ord D.hs0 D.hs1 hlen hfit hrow (fun _ h => h)

/-- the polynomial that has these values -/
def bk (p n : Nat) (r s : Int) (zs : List Int) : List Int := Pol.trim p (ls (coefs p zs n (invn p r) (invn p n) (invn p s)) n)
theorem bk_len (p n : Nat) (r s : Int) (zs : List Int) : (bk p n r s zs).length ≤ n := by
  have := Pol.trim_le p (ls (coefs p zs n (invn p r) (invn p n) (invn p s)) n); rw [ls_len] at this; exact this
theorem bk_can {p : Nat} (hp : 0 < p) (n : Nat) (r s : Int) (zs : List Int) : Pol.Can p (bk p n r s zs) := Pol.trim_can hp _
theorem DO.bk_at {w : World} {p b d n : Nat} {r s : Int} (D : DO w p b d n r s) (zs : List Int) (j : Nat) (hj : j < n) : evz p (bk p n r s zs) (Dom.pt p s r j) = zat zs j % (p : Int) :=
  evz_coefs D.pr D.h3 zs D.ord D.hsd D.nnd j hj

theorem coef_ok {w : World} {p b d n : Nat} {r s : Int} (D : DO w p b d n r s) (a : Option Addr) (cap : Nat) (zs : List Int) (hlen : zs.length = n) (hfit : Fits zs) (hl : Lst w.heap.size w a cap zs) :
    Calls Tryz.prog 54 #[.pointer (some ⟨d, 0, none⟩), .slice a n cap] w fun e w' =>
      ∃ (g c : Nat), e = .returned (.tuple #[.slice (some ⟨g, 0, none⟩) (bk p n r s zs).length c, .nilIface]) ∧ Lst w'.heap.size w' (some ⟨g, 0, none⟩) c (bk p n r s zs) ∧ Below w.heap.size w w' := by
  obtain ⟨k, h1, h2⟩ := D.hk
  exact coef_any p b d k n cap r s a zs w D.pr D.h3 D.hm D.hp D.da h1 h2 D.hr0 D.hr1 D.ord D.hs0 D.hs1 hlen hfit hl

/-! ## mayBound -/
theorem bound_yes {w : World} {d b n : Nat} {r s : Int} (k : Nat) (h : DomAt w d b n r s) (h1 : 1 ≤ k) (h2 : k ≤ n) (_hn : n ≤ 65536) :
    Calls Tryz.prog 24 #[.pointer (some ⟨d, 0, none⟩), .int .i64 k] w fun e w' => e = .returned (.bool true) ∧ w' = w := by
  have HS := hid (size_any d b n r s w h)
  have e1 : (1 : Int) ≤ (k : Int) := by omega
  have e2 : (k : Int) ≤ (n : Int) := by omega
  clear h
  go_enter Tryz.func24, Tryz.ntmps24
  go_wp2_with fail
  refine HS.out.mono ?_
  rintro e w1 ⟨rfl, rfl⟩
  go_wp2_with fail
  go_ret
  exact ⟨rfl, rfl⟩

theorem bound_no {w : World} {d b n : Nat} {r s : Int} (k : Int) (h : DomAt w d b n r s) (hk : ¬ (1 ≤ k ∧ k ≤ n)) (hk1 : -9223372036854775808 ≤ k) (hk2 : k ≤ 9223372036854775807) (_hn : n ≤ 65536) :
    Calls Tryz.prog 24 #[.pointer (some ⟨d, 0, none⟩), .int .i64 k] w fun e w' => e = .returned (.bool false) ∧ w' = w := by
  have HS := hid (size_any d b n r s w h)
  clear h
  by_cases h1 : 1 ≤ k
  · have e2 : ¬ k ≤ (n : Int) := by omega
    clear hk
    go_enter Tryz.func24, Tryz.ntmps24
    go_wp2_with fail
    refine HS.out.mono ?_
    rintro e w1 ⟨rfl, rfl⟩
    go_wp2_with fail
    go_ret
    have e3 : decide (k ≤ (n : Int)) = false := decide_eq_false (by omega)
    exact ⟨by rw [← e3]; rfl, rfl⟩
  · clear hk
    go_enter Tryz.func24, Tryz.ntmps24
    go_wp2_with fail
    go_ret
    exact ⟨rfl, rfl⟩

/-! ## Encode -/
theorem enc_range {w : World} {d b n : Nat} {r s : Int} (k : Int) (a : Option Addr) (m cap : Nat) (h : DomAt w d b n r s) (hk : ¬ (1 ≤ k ∧ k ≤ n)) (hk1 : -9223372036854775808 ≤ k) (hk2 : k ≤ 9223372036854775807) (hn : n ≤ 65536) :
    Calls Tryz.prog 7 #[.pointer (some ⟨d, 0, none⟩), .int .i64 k, .slice a m cap] w fun e w' => e = .returned (.tuple #[.slice none 0 0, .iface 55 (.int .i64 3)]) ∧ w' = w := by
  have HB := hid (bound_no k h hk hk1 hk2 hn)
  clear h hk
  go_enter Tryz.func7, Tryz.ntmps7
  go_wp2_with fail
  refine HB.out.mono ?_
  rintro e w1 ⟨rfl, rfl⟩
  go_wp2_with fail
  go_ret2
  exact ⟨rfl, rfl⟩

theorem enc_size {w : World} {p b d n : Nat} {r s : Int} (D : DO w p b d n r s) (k : Nat) (a : Option Addr) (cap : Nat) (zs : List Int) (h1 : 1 ≤ k) (h2 : k ≤ n) (hlen : zs.length ≤ 281474976710656) (hfit : Fits zs) (hrow : RowB w.heap.size w a zs) (hd : k < tpn p (zat zs) zs.length) :
    Calls Tryz.prog 7 #[.pointer (some ⟨d, 0, none⟩), .int .i64 k, .slice a zs.length cap] w fun e w' => e = .returned (.tuple #[.slice none 0 0, .iface 55 (.int .i64 2)]) ∧ w' = w := by
  have hn := D.pos.2
  have HB := hid (bound_yes k D.da h1 h2 hn)
  have HF := hid (dfield_any d b n r s w D.da)
  have HD := hid (deg_any p b zs.length cap (· < w.heap.size) a (zat zs) w D.h3 D.hm D.hp (by omega) hfit hrow.f)
  have hle := tpn_le p (zat zs) zs.length
  have e1 : (k : Int) ≤ (tpn p (zat zs) zs.length : Int) - 1 := by omega
  generalize tpn p (zat zs) zs.length = t at *
  clear D hfit hrow
  go_enter Tryz.func7, Tryz.ntmps7
  go_wp2_with fail
  refine HB.out.mono ?_
  rintro e w1 ⟨rfl, rfl⟩
  go_wp2_with fail
  refine HF.out.mono ?_
  rintro e w1 ⟨rfl, rfl⟩
  go_wp2_with fail
  refine HD.out.mono ?_
  rintro e w1 ⟨rfl, rfl⟩
  go_wp2_with fail
  go_ret2
  exact ⟨rfl, rfl⟩

theorem enc_any {w : World} {p b d n : Nat} {r s : Int} (D : DO w p b d n r s) (k : Nat) (a : Option Addr) (cap : Nat) (zs : List Int) (h1 : 1 ≤ k) (h2 : k ≤ n) (hlen : zs.length ≤ 281474976710656) (hfit : Fits zs) (hrow : RowB w.heap.size w a zs) (hd : tpn p (zat zs) zs.length ≤ k) :
    Calls Tryz.prog 7 #[.pointer (some ⟨d, 0, none⟩), .int .i64 k, .slice a zs.length cap] w fun e w' => e = .returned (.tuple #[.slice (some ⟨w.heap.size, 0, none⟩) n n, .nilIface]) ∧ w'.rowIs w.heap.size 3 n (fun j => .int .i64 (evz p zs (Dom.pt p s r j))) ∧ Below w.heap.size w w' ∧ w.heap.size < w'.heap.size := by
  have hn := D.pos.2
  have HB := hid (bound_yes k D.da h1 h2 hn)
  have HF := hid (dfield_any d b n r s w D.da)
  have HD := hid (deg_any p b zs.length cap (· < w.heap.size) a (zat zs) w D.h3 D.hm D.hp (by omega) hfit hrow.f)
  have HV := hid (values_ok D a cap zs hlen hfit hrow)
  have hle := tpn_le p (zat zs) zs.length
  have e1 : ¬ (k : Int) ≤ (tpn p (zat zs) zs.length : Int) - 1 := by omega
  generalize tpn p (zat zs) zs.length = t at *
  clear D hfit hrow
  go_enter Tryz.func7, Tryz.ntmps7
  go_wp2_with fail
  refine HB.out.mono ?_
  rintro e w1 ⟨rfl, rfl⟩
  go_wp2_with fail
  refine HF.out.mono ?_
  rintro e w1 ⟨rfl, rfl⟩
  go_wp2_with fail
  refine HD.out.mono ?_
  rintro e w1 ⟨rfl, rfl⟩
  go_wp2_with fail
  refine HV.out.mono ?_
  rintro e w2 ⟨rfl, h5, h6, h7⟩
  have HE : Hid (w2.rowIs w1.heap.size 3 n (fun j => .int .i64 (evz p zs (Dom.pt p s r j))) ∧ Below w1.heap.size w1 w2 ∧ w1.heap.size < w2.heap.size) := ⟨h5, h6, h7⟩
  clear h5 h6 h7
  go_wp2_with fail
  go_ret2
  exact ⟨rfl, HE.out⟩

end Go.Proofs.YtgcjpddpolaofahGreat

namespace Go.Proofs.YtgcjpddpolaofahGreat
open Go.RowKit

/-- do two lists differ at a place? -/
def dq (p : Nat) (xs ys : List Int) (j : Nat) : Bool := !(decide (j < xs.length) && decide (j < ys.length) && (zat xs j % (p : Int) == zat ys j % (p : Int)))
/-- at how many places two lists differ -/
def dist (p : Nat) (xs ys : List Int) : Nat := Cod.cnt (dq p xs ys) (max xs.length ys.length)

theorem dq_comm (p : Nat) (xs ys : List Int) (j : Nat) : dq p xs ys j = dq p ys xs j := by
  unfold dq
  rw [Bool.and_comm (decide (j < xs.length)), show (zat xs j % (p : Int) == zat ys j % (p : Int)) = (zat ys j % (p : Int) == zat xs j % (p : Int)) from by rw [Bool.eq_iff_iff, beq_iff_eq, beq_iff_eq]; exact ⟨fun h => h.symm, fun h => h.symm⟩]
theorem cnt_far (P : Nat → Bool) (m t : Nat) (h : ∀ j, m ≤ j → j < m + t → P j = true) : Cod.cnt P (m + t) = Cod.cnt P m + t := by
  induction t with
  | zero => rfl
  | succ t ih =>
    rw [← Nat.add_assoc]
    simp only [Cod.cnt]
    rw [ih (fun j h1 h2 => h j h1 (by omega)), h (m + t) (by omega) (by omega)]
    simp; omega
theorem dist_short (p : Nat) (xs ys : List Int) (h : xs.length ≤ ys.length) : dist p xs ys = (ys.length - xs.length) + Cod.cnt (dq p xs ys) xs.length := by
  unfold dist
  rw [show max xs.length ys.length = xs.length + (ys.length - xs.length) from by omega, cnt_far _ _ _ (fun j h1 h2 => by unfold dq; simp; omega)]
  omega
theorem dist_comm (p : Nat) (xs ys : List Int) : dist p xs ys = dist p ys xs := by
  unfold dist
  rw [Nat.max_comm]
  exact Cod.cnt_congr (fun j _ => dq_comm p xs ys j)

end Go.Proofs.YtgcjpddpolaofahGreat

namespace Go.Proofs.YtgcjpddpolaofahGreat.Fol
open Pol Dom

theorem dvdm {p : Nat} {a b c d : Int} (h : (p : Int) ∣ a - b) (k : (p : Int) ∣ c - d) : (p : Int) ∣ a * c - b * d := by
  have h1 := Int.dvd_mul_of_dvd_left (c := c) h
  have h2 := Int.dvd_mul_of_dvd_right (b := b) k
  have := Int.dvd_add h1 h2
  rwa [show (a - b) * c + b * (c - d) = a * c - b * d from by grind] at this
theorem dvda {p : Nat} {a b c d : Int} (h : (p : Int) ∣ a - b) (k : (p : Int) ∣ c - d) : (p : Int) ∣ (a + c) - (b + d) := by
  have := Int.dvd_add h k
  rwa [show (a - b) + (c - d) = (a + c) - (b + d) from by omega] at this
theorem dvds {p : Nat} {a b c d : Int} (h : (p : Int) ∣ a - b) (k : (p : Int) ∣ c - d) : (p : Int) ∣ (a - c) - (b - d) := by
  have := Int.dvd_sub h k
  rwa [show (a - b) - (c - d) = (a - c) - (b - d) from by omega] at this
theorem dvdt {p : Nat} {a b c : Int} (h : (p : Int) ∣ a - b) (k : (p : Int) ∣ b - c) : (p : Int) ∣ a - c := by
  have := Int.dvd_add h k
  rwa [show (a - b) + (b - c) = a - c from by omega] at this
theorem dvdn {p : Nat} {a b : Int} (h : (p : Int) ∣ a - b) : (p : Int) ∣ b - a := by
  have := Int.dvd_neg.2 h
  rwa [Int.neg_sub] at this
theorem dvd0 (p : Nat) (a : Int) : (p : Int) ∣ a - a := by rw [Int.sub_self]; exact Int.dvd_zero _
theorem two_nd {p : Nat} (h3 : 3 ≤ p) : ¬ (p : Int) ∣ 2 := fun h => by
  have := Int.le_of_dvd (by omega) h
  omega

/-- what a pair becomes -/
def pairz (p : Nat) (x a b c : Int) : Int := ((a + b) * (invn p 2 : Int) + (a - b) * (invn p (x * 2 % (p : Int)) : Int) * c) % (p : Int)
theorem pairz_bounds (p : Nat) (x a b c : Int) (h3 : 3 ≤ p) : 0 ≤ pairz p x a b c ∧ pairz p x a b c < p := emod_bounds _ p h3
/-- its two parts -/
theorem parts {p : Nat} (hp : Num.Prime p) (h3 : 3 ≤ p) {x : Int} (hx : ¬ (p : Int) ∣ x) (a b : Int) : ∃ A B : Int, (∀ c, (p : Int) ∣ pairz p x a b c - (A + c * B)) ∧ (p : Int) ∣ A + x * B - a ∧ (p : Int) ∣ A - x * B - b ∧ (∀ E O : Int, (p : Int) ∣ a - (E + x * O) → (p : Int) ∣ b - (E - x * O) → (p : Int) ∣ A - E ∧ (p : Int) ∣ B - O) := by
  have h2 := two_nd h3
  have hx2 : ¬ (p : Int) ∣ x * 2 % (p : Int) := fun h => by
    have : (p : Int) ∣ x * 2 := by
      have := Int.dvd_sub h (emod_dvd p (x * 2))
      rwa [show x * 2 % (p : Int) - (x * 2 % (p : Int) - x * 2) = x * 2 from by omega] at this
    exact (prime_mul hp this).elim hx h2
  have i2 := invn_dvd hp h3 h2
  have ix := invn_dvd hp h3 hx2
  obtain ⟨I, hI⟩ : ∃ I : Int, I = (invn p 2 : Int) := ⟨_, rfl⟩
  obtain ⟨J, hJ⟩ : ∃ J : Int, J = (invn p (x * 2 % (p : Int)) : Int) := ⟨_, rfl⟩
  rw [← hI] at i2
  rw [← hJ] at ix
  have ix2 : (p : Int) ∣ J * (x * 2) - 1 := dvdt (dvdm (dvd0 p J) (dvdn (emod_dvd p (x * 2)))) ix
  -- twice and x times
  have c2 : ∀ {y z : Int}, (p : Int) ∣ y * 2 - z * 2 → (p : Int) ∣ y - z := fun {y z} h => by
    rw [show y * 2 - z * 2 = (y - z) * 2 from by omega] at h
    exact (prime_mul hp h).resolve_right h2
  have hA : (p : Int) ∣ (a + b) * I * 2 - (a + b) := by
    have := dvdm (dvd0 p (a + b)) i2
    rwa [show (a + b) * (I * 2) - (a + b) * 1 = (a + b) * I * 2 - (a + b) from by grind] at this
  have hB : (p : Int) ∣ (a - b) * J * (x * 2) - (a - b) := by
    have := dvdm (dvd0 p (a - b)) ix2
    rwa [show (a - b) * (J * (x * 2)) - (a - b) * 1 = (a - b) * J * (x * 2) - (a - b) from by grind] at this
  refine ⟨(a + b) * I, (a - b) * J, fun c => ?_, ?_, ?_, fun E O ha hb => ⟨?_, ?_⟩⟩
  · unfold pairz
    rw [← hI, ← hJ]
    have := emod_dvd p ((a + b) * I + (a - b) * J * c)
    rwa [show (a - b) * J * c = c * ((a - b) * J) from by grind] at this ⊢
  · refine c2 ?_
    have := dvda hA hB
    rwa [show (a + b) * I * 2 + (a - b) * J * (x * 2) - (a + b + (a - b)) = ((a + b) * I + x * ((a - b) * J)) * 2 - a * 2 from by grind] at this
  · refine c2 ?_
    have := dvds hA hB
    rwa [show (a + b) * I * 2 - (a - b) * J * (x * 2) - (a + b - (a - b)) = ((a + b) * I - x * ((a - b) * J)) * 2 - b * 2 from by grind] at this
  · refine c2 (dvdt hA ?_)
    have := dvda ha hb
    rwa [show a + b - (E + x * O + (E - x * O)) = a + b - E * 2 from by omega] at this
  · have h4 := dvdt hB (dvds ha hb)
    rw [show (a - b) * J * (x * 2) - (E + x * O - (E - x * O)) = ((a - b) * J - O) * (x * 2) from by grind] at h4
    exact (prime_mul hp h4).resolve_right (fun h => (prime_mul hp h).elim hx h2)
theorem pair_of {p : Nat} (hp : Num.Prime p) (h3 : 3 ≤ p) {x a b E O : Int} (hx : ¬ (p : Int) ∣ x) (ha : (p : Int) ∣ a - (E + x * O)) (hb : (p : Int) ∣ b - (E - x * O)) (c : Int) : (p : Int) ∣ pairz p x a b c - (E + c * O) := by
  obtain ⟨A, B, h1, _, _, h4⟩ := parts hp h3 hx a b
  obtain ⟨g1, g2⟩ := h4 E O ha hb
  exact dvdt (h1 c) (dvda g1 (dvdm (dvd0 p c) g2))
/-- two unlike elements tell the pair -/
theorem pair_back {p : Nat} (hp : Num.Prime p) (h3 : 3 ≤ p) {x a b E O r s : Int} (hx : ¬ (p : Int) ∣ x) (hrs : ¬ (p : Int) ∣ s - r) (h1 : (p : Int) ∣ pairz p x a b r - (E + r * O)) (h2 : (p : Int) ∣ pairz p x a b s - (E + s * O)) : (p : Int) ∣ a - (E + x * O) ∧ (p : Int) ∣ b - (E - x * O) := by
  obtain ⟨A, B, k1, k2, k3, _⟩ := parts hp h3 hx a b
  have e1 := dvdt (dvdn (k1 r)) h1
  have e2 := dvdt (dvdn (k1 s)) h2
  have e3 := dvds e2 e1
  rw [show A + s * B - (A + r * B) - (E + s * O - (E + r * O)) = (s - r) * (B - O) from by grind] at e3
  have hB := (prime_mul hp e3).resolve_left hrs
  have hA : (p : Int) ∣ A - E := by
    have := dvds e1 (dvdm (dvd0 p r) hB)
    rwa [show A + r * B - r * B - (E + r * O - r * O) = A - E from by omega] at this
  exact ⟨dvdt (dvdn k2) (dvda hA (dvdm (dvd0 p x) hB)), dvdt (dvdn k3) (dvds hA (dvdm (dvd0 p x) hB))⟩

/-- a circle of n points -/
structure Cir (p n : Nat) (r s : Int) : Prop where
  pr : Num.Prime p
  h3 : 3 ≤ p
  ord : Ord p r n
  sd : ¬ (p : Int) ∣ s
theorem Cir.pt_nd {p n : Nat} {r s : Int} (C : Cir p n r s) (i : Nat) : ¬ (p : Int) ∣ pt p s r i := fun h => by
  have : (p : Int) ∣ s * r ^ i := by
    have := Int.dvd_sub h (emod_dvd p (s * r ^ i))
    unfold pt at this
    rwa [show s * r ^ i % (p : Int) - (s * r ^ i % (p : Int) - s * r ^ i) = s * r ^ i from by omega] at this
  exact (prime_mul C.pr this).elim C.sd (pow_nd C.pr (C.ord.nd C.pr) i)
theorem Cir.neg {p m : Nat} {r s : Int} (C : Cir p (2 * m) r s) (i : Nat) : (p : Int) ∣ pt p s r (i + m) + pt p s r i := by
  have h := C.ord.half C.pr
  have e : (p : Int) ∣ s * r ^ (i + m) + s * r ^ i := by
    have := Int.dvd_mul_of_dvd_right (b := s * r ^ i) h
    rwa [show s * r ^ i * (r ^ m + 1) = s * r ^ (i + m) + s * r ^ i from by rw [Int.pow_add]; grind] at this
  have e1 := emod_dvd p (s * r ^ (i + m))
  have e2 := emod_dvd p (s * r ^ i)
  have := Int.dvd_add (Int.dvd_add e1 e2) e
  unfold pt
  rwa [show s * r ^ (i + m) % (p : Int) - s * r ^ (i + m) + (s * r ^ i % (p : Int) - s * r ^ i) + (s * r ^ (i + m) + s * r ^ i) = s * r ^ (i + m) % (p : Int) + s * r ^ i % (p : Int) from by omega] at this
/-- half of it -/
theorem Cir.half {p m : Nat} {r s : Int} (C : Cir p (2 * m) r s) : Cir p m (r * r % (p : Int)) (s * s % (p : Int)) := by
  refine ⟨C.pr, C.h3, C.ord.sqm, fun h => ?_⟩
  have : (p : Int) ∣ s * s := by
    have := Int.dvd_sub h (emod_dvd p (s * s))
    rwa [show s * s % (p : Int) - (s * s % (p : Int) - s * s) = s * s from by omega] at this
  exact (prime_mul C.pr this).elim C.sd C.sd
theorem pow_mod {p : Nat} {a b : Int} (h : (p : Int) ∣ a - b) : ∀ i : Nat, (p : Int) ∣ a ^ i - b ^ i
  | 0 => by simp
  | i + 1 => by rw [Int.pow_succ, Int.pow_succ]; exact dvdm (pow_mod h i) h
theorem pt_sq (p : Nat) (r s : Int) (i : Nat) : (p : Int) ∣ pt p (s * s % (p : Int)) (r * r % (p : Int)) i - pt p s r i * pt p s r i := by
  unfold pt
  have e1 : (p : Int) ∣ s * s % (p : Int) * (r * r % (p : Int)) ^ i - s * s * (r * r) ^ i := dvdm (emod_dvd p _) (pow_mod (emod_dvd p _) i)
  have e2 : (p : Int) ∣ s * r ^ i % (p : Int) * (s * r ^ i % (p : Int)) - s * r ^ i * (s * r ^ i) := dvdm (emod_dvd p _) (emod_dvd p _)
  have e3 : s * s * (r * r) ^ i = s * r ^ i * (s * r ^ i) := by rw [Int.mul_pow]; grind
  rw [e3] at e1
  exact dvdt (dvdt (emod_dvd p _) e1) (dvdn e2)

/-- a word folded -/
def foldz (p m : Nat) (r s : Int) (word : List Int) (c : Int) : List Int := ls (fun i => pairz p (pt p s r i) (zat word i) (zat word (i + m)) c) m
theorem foldz_len (p m : Nat) (r s : Int) (word : List Int) (c : Int) : (foldz p m r s word c).length = m := ls_len _ _
theorem foldz_at {p m : Nat} {r s : Int} {word : List Int} {c : Int} {i : Nat} (h : i < m) : zat (foldz p m r s word c) i = pairz p (pt p s r i) (zat word i) (zat word (i + m)) c := ls_at _ _ _ h
/-- the even places and c times the odd ones -/
def evod (f : Nat → Int) (c : Int) : Nat → Int := fun j => f (2 * j) + c * f (2 * j + 1)
theorem ps_evod (f : Nat → Int) (c x : Int) (M : Nat) : ps (evod f c) x M = ps (ev f) x M + c * ps (od f) x M := by
  rw [show evod f c = Pol.add (ev f) (Pol.sc c (od f)) from rfl, ps_add, ps_sc]
/-- the values of a polynomial become those of its halves -/
theorem Cir.fold_vals {p m : Nat} {r s : Int} (C : Cir p (2 * m) r s) (f : Nat → Int) (M : Nat) (word : List Int) (hw : ∀ j, j < 2 * m → (p : Int) ∣ zat word j - ps f (pt p s r j) (2 * M)) (c : Int) {i : Nat} (hi : i < m) :
    (p : Int) ∣ zat (foldz p m r s word c) i - ps (evod f c) (pt p (s * s % (p : Int)) (r * r % (p : Int)) i) M := by
  rw [foldz_at hi]
  have h1 := hw i (by omega)
  rw [ps_halves] at h1
  have h2 := dvdt (hw (i + m) (by omega)) (ps_neg f (x := pt p s r i) (y := pt p s r (i + m)) (C.neg i) M)
  have h3 := pair_of C.pr C.h3 (C.pt_nd i) h1 h2 c
  refine dvdt h3 ?_
  rw [← ps_evod]
  exact ps_point _ (dvdn (pt_sq p r s i)) M
/-- and the other way, where two unlike elements say so -/
theorem Cir.fold_back {p m : Nat} {r s : Int} (C : Cir p (2 * m) r s) (g h : Nat → Int) (M : Nat) (word : List Int) {c d : Int} (hcd : ¬ (p : Int) ∣ d - c) {i : Nat} (hi : i < m)
    (h1 : (p : Int) ∣ zat (foldz p m r s word c) i - ps (fun j => g j + c * h j) (pt p (s * s % (p : Int)) (r * r % (p : Int)) i) M)
    (h2 : (p : Int) ∣ zat (foldz p m r s word d) i - ps (fun j => g j + d * h j) (pt p (s * s % (p : Int)) (r * r % (p : Int)) i) M) :
    (p : Int) ∣ zat word i - (ps g (pt p s r i * pt p s r i) M + pt p s r i * ps h (pt p s r i * pt p s r i) M) ∧ (p : Int) ∣ zat word (i + m) - (ps g (pt p s r i * pt p s r i) M - pt p s r i * ps h (pt p s r i * pt p s r i) M) := by
  rw [foldz_at hi] at h1 h2
  have e : ∀ (c x : Int), ps (fun j => g j + c * h j) x M = ps g x M + c * ps h x M := fun c x => by
    rw [show (fun j => g j + c * h j) = Pol.add g (Pol.sc c h) from rfl, ps_add, ps_sc]
  refine pair_back C.pr C.h3 (C.pt_nd i) hcd (dvdt h1 ?_) (dvdt h2 ?_)
  · rw [← e]; exact ps_point _ (pt_sq p r s i) M
  · rw [← e]; exact ps_point _ (pt_sq p r s i) M

end Go.Proofs.YtgcjpddpolaofahGreat.Fol

namespace Go.Proofs.YtgcjpddpolaofahGreat.Fol
open Pol Dom

theorem Cir.unlike {p n : Nat} {r s : Int} (C : Cir p n r s) {i j : Nat} (hij : i < j) (hj : j < n) : ¬ (p : Int) ∣ pt p s r j - pt p s r i := fun h => by
  unfold pt at h
  have h1 : (p : Int) ∣ s * r ^ j - s * r ^ i := dvdt (dvdn (emod_dvd p (s * r ^ j))) (dvdt h (emod_dvd p (s * r ^ i)))
  rw [show s * r ^ j - s * r ^ i = s * (r ^ j - r ^ i) from by grind] at h1
  exact (prime_mul C.pr h1).elim C.sd (C.ord.unlike C.pr hij hj)
/-- what the word is of, place by place -/
theorem Cir.bk_is {p n : Nat} {r s : Int} (C : Cir p n r s) (hn : ¬ (p : Int) ∣ (n : Int)) (zs : List Int) (f : Nat → Int) (hf : ∀ j, j < n → (p : Int) ∣ zat zs j - ps f (pt p s r j) n) : ∀ j, j < n → (p : Int) ∣ cf (bk p n r s zs) j - f j := by
  have hl := bk_len p n r s zs
  have hp0 : 0 < p := by have := C.h3; omega
  refine roots C.pr n (Pol.sub (cf (bk p n r s zs)) f) (pt p s r) (fun i j h1 h2 => C.unlike h1 h2) (fun i hi => ?_)
  have e1 : evz p (bk p n r s zs) (pt p s r i) = zat zs i % (p : Int) := evz_coefs C.pr C.h3 zs C.ord C.sd hn i hi
  have e2 : (p : Int) ∣ ps (cf (bk p n r s zs)) (pt p s r i) n - zat zs i := by
    rw [ps_stay (cf (bk p n r s zs)) _ (bk p n r s zs).length n hl (fun j hj => cf_ge hj)]
    have : evz p (bk p n r s zs) (pt p s r i) = ps (cf (bk p n r s zs)) (pt p s r i) (bk p n r s zs).length % (p : Int) := rfl
    rw [this] at e1
    exact (emod_eq_iff hp0).1 e1
  have e3 := dvdt e2 (hf i hi)
  have e4 : ps (Pol.sub (cf (bk p n r s zs)) f) (pt p s r i) n = ps (cf (bk p n r s zs)) (pt p s r i) n - ps f (pt p s r i) n := by
    have h := ps_add (Pol.sub (cf (bk p n r s zs)) f) f (pt p s r i) n
    rw [show Pol.add (Pol.sub (cf (bk p n r s zs)) f) f = cf (bk p n r s zs) from funext fun j => by unfold Pol.add Pol.sub; omega] at h
    omega
  rw [e4]
  exact e3
theorem Cir.bk_low {p n : Nat} {r s : Int} (C : Cir p n r s) (hn : ¬ (p : Int) ∣ (n : Int)) (zs : List Int) (f : Nat → Int) (hf : ∀ j, j < n → (p : Int) ∣ zat zs j - ps f (pt p s r j) n) (K : Nat) : (bk p n r s zs).length ≤ K ↔ ∀ j, K ≤ j → j < n → (p : Int) ∣ f j := by
  have hp0 : 0 < p := by have := C.h3; omega
  have hl := bk_len p n r s zs
  have hb := C.bk_is hn zs f hf
  constructor
  · intro h j h1 h2
    have := hb j h2
    rw [cf_ge (by omega)] at this
    have := dvdn this
    rwa [Int.sub_zero] at this
  · intro h
    rcases Nat.lt_or_ge K (bk p n r s zs).length with g | g
    · exfalso
      refine (bk_can hp0 n r s zs).last_nd (by omega) ?_
      have h1 := hb ((bk p n r s zs).length - 1) (by omega)
      have h2 := h ((bk p n r s zs).length - 1) (by omega) (by omega)
      have := Int.dvd_add h1 h2
      rwa [show ∀ a b : Int, a - b + b = a from fun a b => by omega] at this
    · exact g
/-- the word, by what it is of -/
theorem Cir.word_is {p n : Nat} {r s : Int} (C : Cir p n r s) (hn : ¬ (p : Int) ∣ (n : Int)) (zs : List Int) : ∀ j, j < n → (p : Int) ∣ zat zs j - ps (cf (bk p n r s zs)) (pt p s r j) n := fun j hj => by
  have hp0 : 0 < p := by have := C.h3; omega
  have e1 : evz p (bk p n r s zs) (pt p s r j) = zat zs j % (p : Int) := evz_coefs C.pr C.h3 zs C.ord C.sd hn j hj
  rw [ps_stay (cf (bk p n r s zs)) _ (bk p n r s zs).length n (bk_len p n r s zs) (fun j hj => cf_ge hj)]
  exact dvdn ((emod_eq_iff hp0).1 e1)
/-- low degrees stay low, high ones high with all elements but one -/
theorem Cir.catches {p m : Nat} {r s : Int} (C : Cir p (2 * m) r s) (hn : ¬ (p : Int) ∣ ((2 * m : Nat) : Int)) (hm : ¬ (p : Int) ∣ (m : Int)) (word : List Int) (K : Nat) :
    ((bk p (2 * m) r s word).length ≤ 2 * K → ∀ c, (bk p m (r * r % (p : Int)) (s * s % (p : Int)) (foldz p m r s word c)).length ≤ K) ∧
    (∀ c d, ¬ (p : Int) ∣ d - c → (bk p m (r * r % (p : Int)) (s * s % (p : Int)) (foldz p m r s word c)).length ≤ K → (bk p m (r * r % (p : Int)) (s * s % (p : Int)) (foldz p m r s word d)).length ≤ K → (bk p (2 * m) r s word).length ≤ 2 * K) := by
  obtain ⟨f, hf⟩ : ∃ f, f = cf (bk p (2 * m) r s word) := ⟨_, rfl⟩
  have hw := C.word_is hn word
  rw [← hf] at hw
  have hlow := C.bk_low hn word f hw
  have hfold := fun c => C.half.bk_low hm (foldz p m r s word c) (evod f c) (fun j hj => C.fold_vals f m word hw c hj)
  refine ⟨fun h c => (hfold c K).2 fun j h1 h2 => ?_, fun c d hcd h1 h2 => (hlow (2 * K)).2 fun j h3 h4 => ?_⟩
  · have h' := (hlow (2 * K)).1 h
    unfold evod
    exact Int.dvd_add (h' (2 * j) (by omega) (by omega)) (Int.dvd_mul_of_dvd_right (h' (2 * j + 1) (by omega) (by omega)))
  · have g1 := (hfold c K).1 h1 (j / 2) (by omega) (by omega)
    have g2 := (hfold d K).1 h2 (j / 2) (by omega) (by omega)
    unfold evod at g1 g2
    have ho : (p : Int) ∣ f (2 * (j / 2) + 1) := by
      have := Int.dvd_sub g2 g1
      rw [show f (2 * (j / 2)) + d * f (2 * (j / 2) + 1) - (f (2 * (j / 2)) + c * f (2 * (j / 2) + 1)) = (d - c) * f (2 * (j / 2) + 1) from by grind] at this
      exact (prime_mul C.pr this).resolve_left hcd
    have he : (p : Int) ∣ f (2 * (j / 2)) := by
      have := Int.dvd_sub g1 (Int.dvd_mul_of_dvd_right (b := c) ho)
      rwa [show ∀ a b : Int, a + b - b = a from fun a b => by omega] at this
    rcases Nat.mod_two_eq_zero_or_one j with e | e
    · rwa [show 2 * (j / 2) = j from by omega] at he
    · rwa [show 2 * (j / 2) + 1 = j from by omega] at ho

theorem cnt_split (P : Nat → Bool) (m n : Nat) : Cod.cnt P (m + n) = Cod.cnt P m + Cod.cnt (fun j => P (m + j)) n := by
  induction n with
  | zero => simp [Cod.cnt]
  | succ n ih => rw [← Nat.add_assoc, Cod.cnt, ih, Cod.cnt]; omega
/-- what is near stays near -/
theorem Cir.near {p m : Nat} {r s : Int} (C : Cir p (2 * m) r s) (f : Nat → Int) (M : Nat) (word y z W : List Int) {c d : Int} (hcd : ¬ (p : Int) ∣ d - c) (hlw : word.length = 2 * m) (hly : y.length = m) (hlz : z.length = m) (hlW : W.length = 2 * m)
    (hy : ∀ i, i < m → (p : Int) ∣ zat y i - ps (evod f c) (pt p (s * s % (p : Int)) (r * r % (p : Int)) i) M) (hz : ∀ i, i < m → (p : Int) ∣ zat z i - ps (evod f d) (pt p (s * s % (p : Int)) (r * r % (p : Int)) i) M)
    (hW : ∀ j, j < 2 * m → (p : Int) ∣ zat W j - ps f (pt p s r j) (2 * M)) : dist p word W ≤ 2 * (dist p (foldz p m r s word c) y + dist p (foldz p m r s word d) z) := by
  have hp0 : 0 < p := by have := C.h3; omega
  have hlf : ∀ c, (foldz p m r s word c).length = m := fun c => foldz_len _ _ _ _ _ _
  unfold dist
  rw [hlw, hlW, hlf, hlf, hly, hlz, Nat.max_self, Nat.max_self, show 2 * m = m + m from by omega, cnt_split]
  have key : ∀ i, i < m → dq p (foldz p m r s word c) y i = false → dq p (foldz p m r s word d) z i = false → dq p word W i = false ∧ dq p word W (m + i) = false := fun i hi h1 h2 => by
    unfold dq at h1 h2
    rw [hlf, hly] at h1
    rw [hlf, hlz] at h2
    simp only [hi, decide_true, Bool.true_and, Bool.not_eq_false', beq_iff_eq] at h1 h2
    have e1 := dvdt ((emod_eq_iff hp0).1 h1) (hy i hi)
    have e2 := dvdt ((emod_eq_iff hp0).1 h2) (hz i hi)
    obtain ⟨b1, b2⟩ := C.fold_back (ev f) (od f) M word hcd hi e1 e2
    have w1 := hW i (by omega)
    rw [ps_halves] at w1
    have w2 := dvdt (hW (i + m) (by omega)) (ps_neg f (x := pt p s r i) (y := pt p s r (i + m)) (C.neg i) M)
    have k1 := (emod_eq_iff hp0).2 (dvdt b1 (dvdn w1))
    have k2 := (emod_eq_iff hp0).2 (dvdt b2 (dvdn w2))
    unfold dq
    rw [hlw, hlW]
    rw [Nat.add_comm m i]
    constructor
    · simp [show i < 2 * m from by omega, k1]
    · simp [show i + m < 2 * m from by omega, k2]
  have hA : Cod.cnt (dq p word W) m ≤ Cod.cnt (fun i => dq p (foldz p m r s word c) y i || dq p (foldz p m r s word d) z i) m := Cod.cnt_mono (fun i hi h => by
    cases h1 : dq p (foldz p m r s word c) y i with
    | true => rfl
    | false =>
      cases h2 : dq p (foldz p m r s word d) z i with
      | true => simp
      | false => rw [(key i hi h1 h2).1] at h; cases h)
  have hB : Cod.cnt (fun j => dq p word W (m + j)) m ≤ Cod.cnt (fun i => dq p (foldz p m r s word c) y i || dq p (foldz p m r s word d) z i) m := Cod.cnt_mono (fun i hi h => by
    cases h1 : dq p (foldz p m r s word c) y i with
    | true => rfl
    | false =>
      cases h2 : dq p (foldz p m r s word d) z i with
      | true => simp
      | false => rw [(key i hi h1 h2).2] at h; cases h)
  have hor := Cod.cnt_or (dq p (foldz p m r s word c) y) (dq p (foldz p m r s word d) z) m
  omega

end Go.Proofs.YtgcjpddpolaofahGreat.Fol

namespace Go.Proofs.YtgcjpddpolaofahGreat
open Go.RowKit

theorem DO.cir {w : World} {p b d n : Nat} {r s : Int} (D : DO w p b d n r s) : Fol.Cir p n r s := ⟨D.pr, D.h3, D.ord, D.hsd⟩
/-- what Fold must answer -/
def FldAs : Prop := ∀ (p b d n cap : Nat) (a : Option Addr) (r s c : Int) (word : List Int) (W : World), DO W p b d n r s → word.length ≤ 17592186043904 → Fits word → Lst W.heap.size W a cap word → -9223372036854775808 ≤ c → c ≤ 9223372036854775807 →
  Calls Tryz.prog 14 #[.pointer (some ⟨d, 0, none⟩), .slice a word.length cap, .int .i64 c] W fun e w' => Below W.heap.size W w' ∧
    ((word.length = n ∧ 1 < n) → ∃ a' c', e = .returned (.tuple #[.slice a' (n / 2) c', .nilIface]) ∧ Lst w'.heap.size w' a' c' (Fol.foldz p (n / 2) r s word c)) ∧
    (¬ (word.length = n ∧ 1 < n) → ∃ a' c', e = .returned (.tuple #[.slice a' 0 c', .iface 55 (.int .i64 2)]))

/-- a domain and half of it -/
structure Dh (w : World) (q b d h m : Nat) (r s : Int) : Prop where
  dom : DO w q b d (2 * m) r s
  half : DO w q b h m (r * r % (q : Int)) (s * s % (q : Int))
theorem Dh.step {w w' : World} {q b d h m : Nat} {r s : Int} (D : Dh w q b d h m r s) (e : Below w.heap.size w w') : Dh w' q b d h m r s := ⟨D.dom.step e, D.half.step e⟩
def Good5 (p n s : Int) : Prop := ∃ q k : Nat, p = (q : Int) ∧ n = ((2 ^ (k + 1) : Nat) : Int) ∧ GoodAt q (k + 1) s

set_option maxRecDepth 100000 in
set_option maxHeartbeats 1000000 in
theorem plain5_yes (q k : Nat) (s : Int) (w : World) (hg : GoodAt q (k + 1) s) (hs1 : -9223372036854775808 ≤ s) (hs2 : s ≤ 9223372036854775807) :
    Calls Tryz.prog 5 #[.int .i64 q, .int .i64 ((2 ^ (k + 1) : Nat) : Int), .int .i64 s] w fun e w' =>
      ∃ (b d h r : Nat), e = .returned (.tuple #[.pointer (some ⟨b, 0, none⟩), .pointer (some ⟨d, 0, none⟩), .pointer (some ⟨h, 0, none⟩)]) ∧ RootIs q ((2 ^ (k + 1) : Nat) : Int) r ∧ Dh w' q b d h (2 ^ k) r (s % (q : Int)) ∧ Below w.heap.size w w' := by
  obtain ⟨hpr, h3, h4, hk, hd, hs⟩ := hg
  have HN := hid (new_yes q w h3 h4 hpr)
  have HD : Hid (∀ w1 : World, w1.cell? ⟨w.heap.size, 0, none⟩ = some (.int .i64 q) → Calls Tryz.prog 16 #[.pointer (some ⟨w.heap.size, 0, none⟩), .int .i64 ((2 ^ (k + 1) : Nat) : Int), .int .i64 s] w1 fun e w' =>
      ∃ (d r : Nat), e = .returned (.tuple #[.pointer (some ⟨d, 0, none⟩), .nilIface]) ∧ w1.heap.size ≤ d ∧ RootIs q ((2 ^ (k + 1) : Nat) : Int) r ∧ DomAt w' d w.heap.size ((2 ^ (k + 1) : Nat) : Int) r (s % (q : Int)) ∧ Below w1.heap.size w1 w') :=
    fun w1 h => dnew_ok q w.heap.size (k + 1) s w1 hpr h3 h4 h hk hd hs1 hs2 hs
  have hle := two_pow_le hk
  have h2k : 2 ^ (k + 1) = 2 * 2 ^ k := by rw [Nat.pow_succ]; omega
  have hpos : 0 < 2 ^ k := Nat.two_pow_pos k
  have HRB : Hid (∀ r : Nat, RootIs q ((2 ^ (k + 1) : Nat) : Int) r → Dom.Ord q (r : Int) (2 ^ (k + 1)) ∧ r < q) := fun r h => root_ord2 hpr h3 hd h
  obtain ⟨t1, t2⟩ := emod_bounds s q h3
  have HSD : Hid (¬ (q : Int) ∣ s % (q : Int)) := not_dvd_of_emod hs
  have HFIN : Hid (∀ (r d h : Nat) (W : World), Dom.Ord q (r : Int) (2 ^ (k + 1)) → r < q → W.cell? ⟨w.heap.size, 0, none⟩ = some (.int .i64 q) → DomAt W d w.heap.size ((2 * 2 ^ k : Nat) : Int) r (s % (q : Int)) → DomAt W h w.heap.size ((2 ^ k : Nat) : Int) ((r : Int) * (r : Int) % (q : Int)) (s % (q : Int) * (s % (q : Int)) % (q : Int)) → Dh W q w.heap.size d h (2 ^ k) r (s % (q : Int))) := fun r d h W ho hr hc hda hha => by
    rw [h2k] at ho
    obtain ⟨x1, x2⟩ := emod_bounds ((r : Int) * (r : Int)) q h3
    obtain ⟨y1, y2⟩ := emod_bounds (s % (q : Int) * (s % (q : Int))) q h3
    have hC : Fol.Cir q (2 * 2 ^ k) (r : Int) (s % (q : Int)) := ⟨hpr, h3, ho, HSD.out⟩
    exact ⟨⟨hpr, h3, h4, hc, hda, ⟨k + 1, hk, by rw [h2k]⟩, by omega, by omega, ho, t1, t2, HSD.out⟩, ⟨hpr, h3, h4, hc, hha, ⟨k, by omega, rfl⟩, x1, x2, hC.half.ord, y1, y2, hC.half.sd⟩⟩
  have HHF : Hid (∀ (r d : Nat) (W : World), r < q → W.cell? ⟨w.heap.size, 0, none⟩ = some (.int .i64 q) → DomAt W d w.heap.size ((2 * 2 ^ k : Nat) : Int) r (s % (q : Int)) → Calls Tryz.prog 17 #[.pointer (some ⟨d, 0, none⟩)] W fun e w' => ∃ d' : Nat, e = .returned (.tuple #[.pointer (some ⟨d', 0, none⟩), .nilIface]) ∧ W.heap.size ≤ d' ∧ DomAt w' d' w.heap.size ((2 ^ k : Nat) : Int) ((r : Int) * (r : Int) % (q : Int)) (s % (q : Int) * (s % (q : Int)) % (q : Int)) ∧ Below W.heap.size W w') := fun r d W hr hc hda =>
    half_any q w.heap.size d (2 ^ k) (r : Int) (s % (q : Int)) W h3 h4 hc hda hpos (by omega) (by omega) (by omega) t1 t2
  rw [← h2k] at HHF HFIN
  clear hpr hd hs h2k hle hpos HSD
  generalize ((2 ^ (k + 1) : Nat) : Int) = n at *
  go_enter Tryz.func5, Tryz.ntmps5
  go_wp2_with fail
  refine HN.out.mono ?_
  rintro e w1 ⟨rfl, hc1, hb1, hlt1⟩
  have HC1 := hid hc1
  have HB1 := hid hb1
  clear hc1 hb1
  go_wp2_with fail
  refine (HD.out w1 HC1.out).mono ?_
  rintro e w2 ⟨d, r, rfl, hld, hr, hda, hb2⟩
  have HRR := hid hr
  have HC2 := hid ((hb2.cell (p := ⟨w.heap.size, 0, none⟩) hlt1).trans HC1.out)
  have HDA := hid hda
  have HB2 : Hid (Below w.heap.size w w2) := HB1.out.trans (hb2.mono HB1.out.size)
  have HRO := hid (HRB.out r hr)
  have HH2 := hid (HHF.out r d w2 HRO.out.2 HC2.out HDA.out)
  clear hr hda hb2 HN HD
  go_wp2_with fail
  refine HH2.out.mono ?_
  rintro e w3 ⟨h, rfl, hlh, hha, hb3⟩
  have HE : Hid (Dh w3 q w.heap.size d h (2 ^ k) r (s % (q : Int)) ∧ Below w.heap.size w w3) := ⟨HFIN.out r d h w3 HRO.out.1 HRO.out.2 ((hb3.cell (p := ⟨w.heap.size, 0, none⟩) (heap_lt HC2.out)).trans HC2.out) (HDA.out.below hb3 HDA.out.lt) hha, HB2.out.trans (hb3.mono HB2.out.size)⟩
  clear hha hb3 HH2
  go_wp2_with fail
  go_ret3
  exact ⟨w.heap.size, d, h, r, rfl, HRR.out, HE.out.1, HE.out.2⟩

set_option maxRecDepth 100000 in
set_option maxHeartbeats 1000000 in
theorem plain5_no (p n s : Int) (w : World) (hno : ¬ Good5 p n s) (hp1 : -9223372036854775808 ≤ p) (hp2 : p ≤ 9223372036854775807) (hn1 : -9223372036854775808 ≤ n) (hn2 : n ≤ 9223372036854775807) (hs1 : -9223372036854775808 ≤ s) (hs2 : s ≤ 9223372036854775807) :
    Calls Tryz.prog 5 #[.int .i64 p, .int .i64 n, .int .i64 s] w fun e w' => e = .returned (.tuple #[.pointer none, .pointer none, .pointer none]) ∧ Below w.heap.size w w' := by
  by_cases hok : okPrime p
  · obtain ⟨q, rfl⟩ := Int.eq_ofNat_of_zero_le (show 0 ≤ p by have := hok.1; omega)
    obtain ⟨hq3, hq4, hqp⟩ := hok
    rw [Int.toNat_natCast] at hqp
    have h3 : 3 ≤ q := by omega
    have h4 : q ≤ 2147483647 := by omega
    have HN := hid (new_yes q w h3 h4 hqp)
    by_cases hgd : Good (q : Int) n s
    · obtain ⟨q', k, e1, rfl, hg⟩ := hgd
      obtain rfl : q' = q := by omega
      obtain rfl : k = 0 := by
        rcases Nat.eq_zero_or_pos k with g | g
        · exact g
        · exact absurd ⟨q', k - 1, rfl, by rw [Nat.sub_add_cancel g], by rw [Nat.sub_add_cancel g]; exact hg⟩ hno
      have HD : Hid (∀ w1 : World, w1.cell? ⟨w.heap.size, 0, none⟩ = some (.int .i64 q') → Calls Tryz.prog 16 #[.pointer (some ⟨w.heap.size, 0, none⟩), .int .i64 ((2 ^ 0 : Nat) : Int), .int .i64 s] w1 fun e w' =>
          ∃ (d r : Nat), e = .returned (.tuple #[.pointer (some ⟨d, 0, none⟩), .nilIface]) ∧ w1.heap.size ≤ d ∧ RootIs q' ((2 ^ 0 : Nat) : Int) r ∧ DomAt w' d w.heap.size ((2 ^ 0 : Nat) : Int) r (s % (q' : Int)) ∧ Below w1.heap.size w1 w') :=
        fun w1 h => dnew_ok q' w.heap.size 0 s w1 hqp h3 h4 h hg.hk hg.hd hs1 hs2 hg.hs
      rw [show ((2 ^ 0 : Nat) : Int) = 1 from rfl] at HD ⊢
      clear hno hqp hg
      go_enter Tryz.func5, Tryz.ntmps5
      go_wp2_with fail
      refine HN.out.mono ?_
      rintro e w1 ⟨rfl, hc1, hb1, hlt1⟩
      have HC1 := hid hc1
      have HB1 := hid hb1
      clear hc1 hb1
      go_wp2_with fail
      refine (HD.out w1 HC1.out).mono ?_
      rintro e w2 ⟨d, r, rfl, hld, hr, hda, hb2⟩
      have HB2 : Hid (Below w.heap.size w w2) := HB1.out.trans (hb2.mono HB1.out.size)
      have HH2 := hid (half_one w.heap.size d r (s % (q' : Int)) w2 hda)
      clear hr hda hb2
      go_wp2_with fail
      refine HH2.out.mono ?_
      rintro e w3 ⟨rfl, rfl⟩
      go_wp2_with fail
      go_ret3
      exact ⟨rfl, HB2.out⟩
    · have HD : Hid (∀ w1 : World, w1.cell? ⟨w.heap.size, 0, none⟩ = some (.int .i64 q) → Calls Tryz.prog 16 #[.pointer (some ⟨w.heap.size, 0, none⟩), .int .i64 n, .int .i64 s] w1 fun e w' => ∃ c : Int, e = .returned (.tuple #[.pointer none, .iface 55 (.int .i64 c)]) ∧ w' = w1) := fun w1 h => by
        by_cases hsz : SizeOk q n
        · obtain ⟨k, hk, rfl, hd⟩ := hsz
          by_cases hs : s % (q : Int) = 0
          · exact (dnew_range q w.heap.size k s w1 h3 h4 h hk hd hs1 hs2 hs).mono fun e w' ⟨h1, h2⟩ => ⟨3, h1, h2⟩
          · exact absurd ⟨q, k, rfl, rfl, hqp, h3, h4, hk, hd, hs⟩ hgd
        · exact (dnew_size q w.heap.size n s w1 h3 h4 h hsz hn1 hn2).mono fun e w' ⟨h1, h2⟩ => ⟨2, h1, h2⟩
      clear hno hqp hgd
      go_enter Tryz.func5, Tryz.ntmps5
      go_wp2_with fail
      refine HN.out.mono ?_
      rintro e w1 ⟨rfl, hc1, hb1, hlt1⟩
      have HC1 := hid hc1
      have HB1 := hid hb1
      clear hc1 hb1
      go_wp2_with fail
      refine (HD.out w1 HC1.out).mono ?_
      rintro e w2 ⟨c, rfl, rfl⟩
      go_wp2_with fail
      go_ret3
      exact ⟨rfl, HB1.out⟩
  · have HN := hid (new_no p w hok hp1 hp2)
    clear hno hok
    go_enter Tryz.func5, Tryz.ntmps5
    go_wp2_with fail
    refine HN.out.mono ?_
    rintro e w1 ⟨rfl, rfl⟩
    go_wp2_with fail
    go_ret3
    exact ⟨rfl, Below.refl _ _⟩

end Go.Proofs.YtgcjpddpolaofahGreat
