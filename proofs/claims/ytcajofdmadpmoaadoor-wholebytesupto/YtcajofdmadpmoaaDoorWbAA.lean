/- Plain facts on division with a rest, for lists modulo a prime: what the reference's rounds and the program's rounds keep; both end at the one quotient and the one rest. What package poly's Vanish and its helpers answer. -/
import Derived.Test.YtcajofdmadpmoaaDoorRefQ
import Derived.Test.YtcajofdmadpmoaaDoorPls
import Derived.Deep.RegionWith
namespace Go.Proofs.YtcajofdmadpmoaaDoor
open Go.RowKit Pol

theorem nonneg_dvd_zero {p : Nat} {x : Int} (h0 : 0 ≤ x) (h1 : x < p) (hd : (p : Int) ∣ x) : x = 0 := by
  rcases Int.lt_or_le 0 x with g | g
  · have := Int.le_of_dvd g hd; omega
  · omega

theorem invn_dvd {p : Nat} (hp : Num.Prime p) (h3 : 3 ≤ p) {z : Int} (h : ¬ (p : Int) ∣ z) : (p : Int) ∣ (invn p z : Int) * z - 1 := by
  have hz : z % (p : Int) ≠ 0 := fun e => h (Int.dvd_of_emod_eq_zero e)
  have h1 : 0 < el p z := by have := (emod_bounds z p h3).1; unfold el; omega
  have h2 := el_lt p z h3
  have key : invn p z * el p z % p = 1 := by
    unfold invn
    have : el p z = Num.pwm p (el p z) 1 := (Num.pwm_one p _ h2).symm
    rw [show Num.pwm p (el p z) (p - 2) * el p z = Num.pwm p (el p z) (p - 2) * Num.pwm p (el p z) 1 from by rw [← this], Num.pwm_add, show p - 2 + 1 = p - 1 from by omega]
    exact Num.pwm_fermat hp h1 h2
  have e1 := el_cast p z h3
  have d1 : (p : Int) ∣ ((invn p z * el p z : Nat) : Int) - 1 := by
    have hm := Nat.div_add_mod (invn p z * el p z) p
    rw [key] at hm
    obtain ⟨k, hk⟩ : ∃ k, p * k + 1 = invn p z * el p z := ⟨_, hm⟩
    rw [← hk]
    exact ⟨(k : Int), by push_cast; omega⟩
  have d2 : (p : Int) ∣ (invn p z : Int) * (z % (p : Int) - z) := Int.dvd_mul_of_dvd_right (emod_dvd p z)
  have := Int.dvd_sub d1 d2
  rw [show ((invn p z * el p z : Nat) : Int) - 1 - (invn p z : Int) * (z % (p : Int) - z) = (invn p z : Int) * z - 1 from by push_cast; rw [e1]; grind] at this
  exact this

/-- q and r are quotient and rest; ts has no zeros at its end and is not empty -/
structure IsD (p : Nat) (az ts q r : List Int) : Prop where
  cq : Pol.Can p q
  cr : Pol.Can p r
  lt : r.length < ts.length
  eq : Eqp p (cf az) (add (mul (cf q) (cf ts)) (cf r))

/-- what the reference's rounds keep -/
structure RD (p : Nat) (az ts q r : List Int) (n : Nat) : Prop where
  cq : Pol.Can p q
  cr : Pol.Can p r
  lq : q.length ≤ n
  lr : r.length ≤ n
  eq : Eqp p (cf az) (add (mul (cf q) (cf ts)) (cf r))

def rc (p : Nat) (r ts : List Int) : Int := zat r (r.length - 1) * (invn p (zat ts (ts.length - 1)) : Int) % (p : Int)

theorem RD.step {p : Nat} (hp : Num.Prime p) (h3 : 3 ≤ p) {az ts q r : List Int} {n : Nat} (ht : Pol.Can p ts) (hts : 0 < ts.length) (h : RD p az ts q r n) (hl : ts.length ≤ r.length) :
    RD p az ts (padd p q (pscale p [1] (rc p r ts) (r.length - ts.length))) (psub p r (pscale p ts (rc p r ts) (r.length - ts.length))) n ∧ (psub p r (pscale p ts (rc p r ts) (r.length - ts.length))).length < r.length := by
  have hc : ∀ c, c = rc p r ts → (p : Int) ∣ zat r (r.length - 1) - c * zat ts (ts.length - 1) := fun c e => by
    have d1 := emod_dvd p (zat r (r.length - 1) * (invn p (zat ts (ts.length - 1)) : Int))
    rw [show zat r (r.length - 1) * (invn p (zat ts (ts.length - 1)) : Int) % (p : Int) = c from e.symm] at d1
    obtain ⟨u, hu⟩ := invn_dvd hp h3 (ht.last_nd hts)
    rw [show cf ts (ts.length - 1) = zat ts (ts.length - 1) from rfl] at hu
    obtain ⟨v, hv⟩ := d1
    refine ⟨- (zat r (r.length - 1) * u) - v * zat ts (ts.length - 1), ?_⟩
    have e1 : c = zat r (r.length - 1) * (invn p (zat ts (ts.length - 1)) : Int) + p * v := by omega
    have e2 : (invn p (zat ts (ts.length - 1)) : Int) * zat ts (ts.length - 1) = 1 + p * u := by omega
    rw [e1]
    grind
  generalize rc p r ts = c at *
  have hc := hc c rfl
  have hk : r.length - ts.length + ts.length = r.length := by omega
  have hrow : ∀ j, r.length - 1 ≤ j → (p : Int) ∣ sub (cf r) (cf (pscale p ts c (r.length - ts.length))) j := fun j hj => by
    have d := pscale_eqp p ts c (r.length - ts.length) j
    simp only [sub]
    have hr : (p : Int) ∣ cf r j - sh (r.length - ts.length) (sc c (cf ts)) j := by
      simp only [sh, sc]
      rw [if_neg (by omega)]
      by_cases e : j = r.length - 1
      · subst e
        rw [show r.length - 1 - (r.length - ts.length) = ts.length - 1 from by omega]
        exact hc
      · rw [cf_ge (by omega), cf_ge (by omega)]; simp
    have := Int.dvd_sub hr d
    rwa [show ∀ x y z : Int, x - y - (z - y) = x - z from fun x y z => by omega] at this
  have hlen : (psub p r (pscale p ts c (r.length - ts.length))).length ≤ r.length - 1 := by
    rw [psub, mk_length]; exact tp_bound hrow
  refine ⟨⟨padd_can h3 _ _, psub_can h3 _ _, ?_, ?_, ?_⟩, ?_⟩
  · have h1 := padd_le p q (pscale p [1] c (r.length - ts.length))
    have h2 := pscale_le p [1] c (r.length - ts.length)
    have := h.lq; have := h.lr
    simp at h2
    omega
  · have := h.lr; omega
  · have e1 := padd_eqp p q (pscale p [1] c (r.length - ts.length))
    have e2 := psub_eqp p r (pscale p ts c (r.length - ts.length))
    have e3 := pscale_eqp p [1] c (r.length - ts.length)
    have e4 := pscale_eqp p ts c (r.length - ts.length)
    refine h.eq.trans (Eqp.symm ?_)
    refine (((e1.trans ((Eqp.refl p (cf q)).add e3)).mul_left (cf ts)).add (e2.trans ((Eqp.refl p (cf r)).sub e4))).trans (Eqp.of_eq ?_)
    rw [add_mul, cf_one, sh_mul, sc_mul, one_mul]
    funext j
    simp only [add, sub]
    omega
  · omega

theorem RD.done {p : Nat} {az ts q r : List Int} {n : Nat} (h : RD p az ts q r n) (hl : r.length < ts.length) : IsD p az ts q r := ⟨h.cq, h.cr, hl, h.eq⟩

/-- what the program's rounds keep: i places of the quotient are told -/
structure PD (p : Nat) (az ts : List Int) (m n top i : Nat) (qf rf : Nat → Int) : Prop where
  rb : ∀ j, j < n → 0 ≤ rf j ∧ rf j < p
  qb : ∀ j, j < m → 0 ≤ qf j ∧ qf j < p
  q0 : ∀ j, j < m - i → qf j = 0
  r0 : ∀ j, m - i + top ≤ j → j < n → rf j = 0
  eq : Eqp p (cf az) (add (mul (lo m qf) (cf ts)) (lo n rf))
  first : i = 0 → ∀ j, j < n → rf j = zat (trim p az) j
  last : 0 < i → qf (m - 1) ≠ 0

theorem PD.step {p : Nat} (hp : Num.Prime p) (h3 : 3 ≤ p) {az ts : List Int} {m n top i : Nat} {qf rf : Nat → Int} (ht : Pol.Can p ts) (htop : ts.length = top + 1) (hn : n = m + top) (hnl : n = (trim p az).length) (h : PD p az ts m n top i qf rf) (hi : i < m) :
    PD p az ts m n top (i + 1) (Go.Proofs.YtcajofdmadpmoaaDoor.up qf (m - 1 - i) (rf (m - 1 - i + top) * (invn p (zat ts top) : Int) % (p : Int)))
      (addf p rf (zat ts) ((0 - rf (m - 1 - i + top) * (invn p (zat ts top) : Int) % (p : Int)) % (p : Int)) (m - 1 - i) ts.length) := by
  have hnd : ¬ (p : Int) ∣ zat ts top := by
    have := ht.last_nd (by omega)
    rw [show ts.length - 1 = top from by omega] at this
    exact this
  obtain ⟨x, hx⟩ : ∃ x, x = rf (m - 1 - i + top) := ⟨_, rfl⟩
  obtain ⟨q, hq⟩ : ∃ q, q = x * (invn p (zat ts top) : Int) % (p : Int) := ⟨_, rfl⟩
  rw [← hx, ← hq]
  have hqb := emod_bounds (x * (invn p (zat ts top) : Int)) p h3
  rw [← hq] at hqb
  obtain ⟨pl, hpl⟩ : ∃ pl, pl = m - 1 - i := ⟨_, rfl⟩
  rw [← hpl] at hx ⊢
  -- the place that goes
  have hc : (p : Int) ∣ x - q * zat ts top := by
    have d1 := emod_dvd p (x * (invn p (zat ts top) : Int))
    rw [← hq] at d1
    obtain ⟨u, hu⟩ := invn_dvd hp h3 hnd
    obtain ⟨v, hv⟩ := d1
    refine ⟨- (x * u) - v * zat ts top, ?_⟩
    have e1 : q = x * (invn p (zat ts top) : Int) + p * v := by omega
    have e2 : (invn p (zat ts top) : Int) * zat ts top = 1 + p * u := by omega
    rw [e1]
    grind
  have hneg : (p : Int) ∣ (0 - q) % (p : Int) - (0 - q) := emod_dvd p _
  have hrb : ∀ j, j < n → 0 ≤ addf p rf (zat ts) ((0 - q) % (p : Int)) pl ts.length j ∧ addf p rf (zat ts) ((0 - q) % (p : Int)) pl ts.length j < p := fun j hj => by
    unfold addf
    split
    · exact emod_bounds _ p h3
    · exact h.rb j hj
  refine ⟨hrb, fun j hj => ?_, fun j hj => ?_, fun j h1 h2 => ?_, ?_, fun e => by omega, fun _ => ?_⟩
  · unfold Go.Proofs.YtcajofdmadpmoaaDoor.up
    split
    · exact hqb
    · exact h.qb j hj
  · unfold Go.Proofs.YtcajofdmadpmoaaDoor.up
    rw [if_neg (by omega)]
    exact h.q0 j (by omega)
  · by_cases e : j = pl + top
    · refine nonneg_dvd_zero (hrb j h2).1 (hrb j h2).2 ?_
      unfold addf
      rw [if_pos (by omega), e, Nat.add_sub_cancel_left, ← hx]
      have d1 := emod_dvd p (x + zat ts top * ((0 - q) % (p : Int)))
      obtain ⟨u, hu⟩ := hneg
      obtain ⟨v, hv⟩ := hc
      obtain ⟨s, hs⟩ := d1
      have e1 : (0 - q) % (p : Int) = p * u + (0 - q) := by omega
      refine ⟨s + v + zat ts top * u, ?_⟩
      have e2 : (x + zat ts top * ((0 - q) % (p : Int))) % (p : Int) = p * s + (x + zat ts top * ((0 - q) % (p : Int))) := by omega
      rw [e2, e1]
      grind
    · unfold addf
      rw [if_neg (by omega)]
      exact h.r0 j (by omega) h2
  · have hq' : lo m (Go.Proofs.YtcajofdmadpmoaaDoor.up qf pl q) = add (lo m qf) (sh pl (sc q Pol.one)) := by
      funext j
      simp only [lo, add, sh, sc, Pol.one, Go.Proofs.YtcajofdmadpmoaaDoor.up]
      by_cases e : j = pl
      · subst e
        rw [if_pos (by omega), if_pos rfl, if_pos (by omega), if_neg (by omega), h.q0 j (by omega)]
        simp
      · by_cases e2 : j < m
        · rw [if_pos e2, if_neg e, if_pos e2]
          by_cases e3 : j < pl
          · rw [if_pos e3]; omega
          · rw [if_neg e3, if_neg (by omega)]; omega
        · rw [if_neg e2, if_neg e2, if_neg (by omega), if_neg (by omega)]; simp
    have hr' : Eqp p (lo n (addf p rf (zat ts) ((0 - q) % (p : Int)) pl ts.length)) (sub (lo n rf) (sh pl (sc q (cf ts)))) := fun j => by
      simp only [lo, sub, sh, sc]
      by_cases e2 : j < n
      · rw [if_pos e2, if_pos e2]
        unfold addf
        by_cases e : pl ≤ j ∧ j < pl + ts.length
        · rw [if_pos e, if_neg (by omega)]
          obtain ⟨u, hu⟩ := hneg
          obtain ⟨s, hs⟩ := emod_dvd p (rf j + zat ts (j - pl) * ((0 - q) % (p : Int)))
          refine ⟨s + zat ts (j - pl) * u, ?_⟩
          have e3 : (0 - q) % (p : Int) = p * u + (0 - q) := by omega
          have e4 : (rf j + zat ts (j - pl) * ((0 - q) % (p : Int))) % (p : Int) = p * s + (rf j + zat ts (j - pl) * ((0 - q) % (p : Int))) := by omega
          rw [e4, e3, show cf ts (j - pl) = zat ts (j - pl) from rfl]
          grind
        · rw [if_neg e]
          by_cases e3 : j < pl
          · rw [if_pos e3]; simp
          · rw [if_neg e3, cf_ge (by omega)]; simp
      · rw [if_neg e2, if_neg e2, if_neg (by omega), cf_ge (by omega)]; simp
    rw [hq']
    refine h.eq.trans (Eqp.symm (((Eqp.refl p _).add hr').trans (Eqp.of_eq ?_)))
    rw [add_mul, sh_mul, sc_mul, one_mul]
    funext j
    simp only [add, sub]
    omega
  · unfold Go.Proofs.YtcajofdmadpmoaaDoor.up
    by_cases e : m - 1 = pl
    · rw [if_pos e]
      intro e0
      have i0 : i = 0 := by omega
      have hf := h.first i0 (n - 1) (by omega)
      rw [show pl + top = n - 1 from by omega, hf, hnl] at hx
      have hl := (trim_can (p := p) (by omega) az).last_nd (by omega)
      rw [e0, show (0 : Int) * zat ts top = 0 from by simp, Int.sub_zero, hx] at hc
      exact hl hc
    · rw [if_neg e]
      exact h.last (by omega)

theorem PD.done {p : Nat} (h3 : 3 ≤ p) {az ts : List Int} {m n top : Nat} {qf rf : Nat → Int} (htop : ts.length = top + 1) (h : PD p az ts m n top m qf rf) : IsD p az ts (ls qf m) (Pol.mk p rf n) := by
  have hb : ∀ j, n ≤ j → lo n rf j % (p : Int) = 0 := fun j hj => by simp only [lo]; rw [if_neg (by omega)]; simp
  have hcong : Pol.mk p rf n = Pol.mk p (lo n rf) n := by
    have ht : tp p rf n = tp p (lo n rf) n := tp_congr p _ _ n (fun j hj => by simp only [lo]; rw [if_pos hj])
    unfold Pol.mk
    rw [ht]
    refine List.map_congr_left (fun j hj => ?_)
    have := tp_le p (lo n rf) n
    have hj2 : j < tp p (lo n rf) n := List.mem_range.1 hj
    simp only [lo]
    rw [if_pos (by omega)]
  refine ⟨⟨fun j hj => ?_, fun hj => ?_⟩, mk_can (by omega) _ _, ?_, ?_⟩
  · rw [ls_len] at hj
    have := ls_at qf m j hj
    rw [show (ls qf m).getD j 0 = zat (ls qf m) j from rfl, this]
    exact h.qb j hj
  · rw [ls_len] at hj ⊢
    rw [show (ls qf m).getD (m - 1) 0 = zat (ls qf m) (m - 1) from rfl, ls_at _ _ _ (by omega)]
    exact h.last hj
  · rw [mk_length]
    have : tp p rf n ≤ top := by
      rcases Nat.lt_or_ge top (tp p rf n) with g | g
      · have h1 := tp_last p rf n (by omega)
        have h2 := tp_le p rf n
        rw [h.r0 _ (by omega) (by omega)] at h1
        simp at h1
      · exact g
    omega
  · refine h.eq.trans (Eqp.add (Eqp.mul_left _ (Eqp.of_eq ?_)) ?_)
    · funext j; simp only [lo]
      by_cases e : j < m
      · rw [if_pos e]; exact (ls_at qf m j e).symm
      · rw [if_neg e, cf_ge (by rw [ls_len]; omega)]
    · rw [hcong]; exact (mk_eqp hb).symm

end Go.Proofs.YtcajofdmadpmoaaDoor

namespace Go.Proofs.YtcajofdmadpmoaaDoor
open Go.RowKit

/-- the product of x - xs[i] of the first n, modulo p -/
def vn (p : Nat) (xs : List Int) (n : Nat) : Nat → Int := fun j => Pol.van (zat xs) n j % (p : Int)
end Go.Proofs.YtcajofdmadpmoaaDoor
