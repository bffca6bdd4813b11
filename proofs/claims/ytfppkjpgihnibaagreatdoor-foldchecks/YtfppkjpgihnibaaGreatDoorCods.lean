/- What package attestref1 answers of polynomials: Scaled, Minus, Times, for every list. Plain facts on division with a rest, for lists modulo a prime: what the reference's rounds and the program's rounds keep; both end at the one quotient and the one rest. What package poly's Vanish and its helpers answer. Plain facts on mending a word: lists of places; what is 0 at given points alone; the polynomial that a word is of, but for few places, is what the division gives. Package code: a domain as it lies still; mayBound, Encode. Package code: Distance; the reference's. Plain facts on folding words, of no program. Plain facts on folded words: low degrees, distances. What package fold's Fold must answer; attestlaw5.plain, lives. -/
import Derived.Test.YtfppkjpgihnibaaGreatDoorPls
import Derived.Deep.RegionWith
import Derived.Test.YtfppkjpgihnibaaGreatDoorPlain
import Derived.Test.YtfppkjpgihnibaaGreatDoorDoms
import Derived.Deep.QuietTactic
namespace Go.Proofs.YtfppkjpgihnibaaGreatDoor
open Go.RowKit

theorem padd_can {p : Nat} (h3 : 3 ≤ p) (xs ys : List Int) : Pol.Can p (Pol.padd p xs ys) := Pol.mk_can (by omega) _ _
theorem psub_can {p : Nat} (h3 : 3 ≤ p) (xs ys : List Int) : Pol.Can p (Pol.psub p xs ys) := Pol.mk_can (by omega) _ _
end Go.Proofs.YtfppkjpgihnibaaGreatDoor

namespace Go.Proofs.YtfppkjpgihnibaaGreatDoor
open Go.RowKit Pol

theorem nonneg_dvd_zero {p : Nat} {x : Int} (h0 : 0 ≤ x) (h1 : x < p) (hd : (p : Int) ∣ x) : x = 0 := by
  rcases Int.lt_or_le 0 x with g | g
  · have := Int.le_of_dvd g hd; omega
  · omega

theorem invn_dvd {p : Nat} (hp : Num.Prime p) (h3 : 3 ≤ p) {z : Int} (h : ¬ (p : Int) ∣ z) : (p : Int) ∣ (invn p z : Int) * z - 1 := by
  have hz : z % (p : Int) ≠ 0 := fun e => h (Int.dvd_of_emod_eq_zero e)
  have h1 : 0 < el p z := by have := (emod_bounds z p h3).1; unfold el; omega
  have h2 := el_lt p z h3
  have key : invn p z * el p z % p = 1 := by
    unfold invn
    have : el p z = Num.pwm p (el p z) 1 := (Num.pwm_one p _ h2).symm
    rw [show Num.pwm p (el p z) (p - 2) * el p z = Num.pwm p (el p z) (p - 2) * Num.pwm p (el p z) 1 from by rw [← this], Num.pwm_add, show p - 2 + 1 = p - 1 from by omega]
    exact Num.pwm_fermat hp h1 h2
  have e1 := el_cast p z h3
  have d1 : (p : Int) ∣ ((invn p z * el p z : Nat) : Int) - 1 := by
    have hm := Nat.div_add_mod (invn p z * el p z) p
    rw [key] at hm
    obtain ⟨k, hk⟩ : ∃ k, p * k + 1 = invn p z * el p z := ⟨_, hm⟩
    rw [← hk]
    exact ⟨(k : Int), by push_cast; omega⟩
  have d2 : (p : Int) ∣ (invn p z : Int) * (z % (p : Int) - z) := Int.dvd_mul_of_dvd_right (emod_dvd p z)
  have := Int.dvd_sub d1 d2
  rw [show ((invn p z * el p z : Nat) : Int) - 1 - (invn p z : Int) * (z % (p : Int) - z) = (invn p z : Int) * z - 1 from by push_cast; rw [e1]; grind] at this
  exact this

/-- q and r are quotient and rest; ts has no zeros at its end and is not empty -/
structure IsD (p : Nat) (az ts q r : List Int) : Prop where
  cq : Pol.Can p q
  cr : Pol.Can p r
  lt : r.length < ts.length
  eq : Eqp p (cf az) (add (mul (cf q) (cf ts)) (cf r))

theorem IsD.unique {p : Nat} (hp : Num.Prime p) (h3 : 3 ≤ p) {az ts q r q' r' : List Int} (ht : Pol.Can p ts) (h : IsD p az ts q r) (h' : IsD p az ts q' r') : q = q' ∧ r = r' := by
  have hpos : 0 < ts.length := by have := h.lt; omega
  have z : ∀ (l : List Int) (N : Nat), l.length ≤ N → ∀ j, N ≤ j → (p : Int) ∣ cf l j := fun l N hN j hj => by rw [cf_ge (by omega)]; exact Int.dvd_zero _
  obtain ⟨e1, e2⟩ := div_unique hp (N := max q.length q'.length) (t := ts.length - 1) (z q _ (by omega)) (z q' _ (by omega)) (fun j hj => by rw [cf_ge (by omega)]; exact Int.dvd_zero _) (ht.last_nd hpos)
    (z r _ (by have := h.lt; omega)) (z r' _ (by have := h'.lt; omega)) (h.eq.symm.trans h'.eq)
  exact ⟨can_eq (by omega) h.cq h'.cq e1, can_eq (by omega) h.cr h'.cr e2⟩

/-- what the reference's rounds keep -/
structure RD (p : Nat) (az ts q r : List Int) (n : Nat) : Prop where
  cq : Pol.Can p q
  cr : Pol.Can p r
  lq : q.length ≤ n
  lr : r.length ≤ n
  eq : Eqp p (cf az) (add (mul (cf q) (cf ts)) (cf r))

theorem RD.start {p : Nat} (h3 : 3 ≤ p) (az ts : List Int) : RD p az ts [] (trim p az) az.length :=
  ⟨Pol.Can.nil p, trim_can (by omega) az, by simp, trim_le p az, by
    rw [cf_nil, zero_mul]
    refine (trim_eqp p az).symm.trans (Eqp.of_eq ?_)
    funext j; simp [add, zero]⟩

def rc (p : Nat) (r ts : List Int) : Int := zat r (r.length - 1) * (invn p (zat ts (ts.length - 1)) : Int) % (p : Int)

theorem RD.step {p : Nat} (hp : Num.Prime p) (h3 : 3 ≤ p) {az ts q r : List Int} {n : Nat} (ht : Pol.Can p ts) (hts : 0 < ts.length) (h : RD p az ts q r n) (hl : ts.length ≤ r.length) :
    RD p az ts (padd p q (pscale p [1] (rc p r ts) (r.length - ts.length))) (psub p r (pscale p ts (rc p r ts) (r.length - ts.length))) n ∧ (psub p r (pscale p ts (rc p r ts) (r.length - ts.length))).length < r.length := by
  have hc : ∀ c, c = rc p r ts → (p : Int) ∣ zat r (r.length - 1) - c * zat ts (ts.length - 1) := fun c e => by
    have d1 := emod_dvd p (zat r (r.length - 1) * (invn p (zat ts (ts.length - 1)) : Int))
    rw [show zat r (r.length - 1) * (invn p (zat ts (ts.length - 1)) : Int) % (p : Int) = c from e.symm] at d1
    obtain ⟨u, hu⟩ := invn_dvd hp h3 (ht.last_nd hts)
    rw [show cf ts (ts.length - 1) = zat ts (ts.length - 1) from rfl] at hu
    obtain ⟨v, hv⟩ := d1
    refine ⟨- (zat r (r.length - 1) * u) - v * zat ts (ts.length - 1), ?_⟩
    have e1 : c = zat r (r.length - 1) * (invn p (zat ts (ts.length - 1)) : Int) + p * v := by omega
    have e2 : (invn p (zat ts (ts.length - 1)) : Int) * zat ts (ts.length - 1) = 1 + p * u := by omega
    rw [e1]
    grind
  generalize rc p r ts = c at *
  have hc := hc c rfl
  have hk : r.length - ts.length + ts.length = r.length := by omega
  have hrow : ∀ j, r.length - 1 ≤ j → (p : Int) ∣ sub (cf r) (cf (pscale p ts c (r.length - ts.length))) j := fun j hj => by
    have d := pscale_eqp p ts c (r.length - ts.length) j
    simp only [sub]
    have hr : (p : Int) ∣ cf r j - sh (r.length - ts.length) (sc c (cf ts)) j := by
      simp only [sh, sc]
      rw [if_neg (by omega)]
      by_cases e : j = r.length - 1
      · subst e
        rw [show r.length - 1 - (r.length - ts.length) = ts.length - 1 from by omega]
        exact hc
      · rw [cf_ge (by omega), cf_ge (by omega)]; simp
    have := Int.dvd_sub hr d
    rwa [show ∀ x y z : Int, x - y - (z - y) = x - z from fun x y z => by omega] at this
  have hlen : (psub p r (pscale p ts c (r.length - ts.length))).length ≤ r.length - 1 := by
    rw [psub, mk_length]; exact tp_bound hrow
  refine ⟨⟨padd_can h3 _ _, psub_can h3 _ _, ?_, ?_, ?_⟩, ?_⟩
  · have h1 := padd_le p q (pscale p [1] c (r.length - ts.length))
    have h2 := pscale_le p [1] c (r.length - ts.length)
    have := h.lq; have := h.lr
    simp at h2
    omega
  · have := h.lr; omega
  · have e1 := padd_eqp p q (pscale p [1] c (r.length - ts.length))
    have e2 := psub_eqp p r (pscale p ts c (r.length - ts.length))
    have e3 := pscale_eqp p [1] c (r.length - ts.length)
    have e4 := pscale_eqp p ts c (r.length - ts.length)
    refine h.eq.trans (Eqp.symm ?_)
    refine (((e1.trans ((Eqp.refl p (cf q)).add e3)).mul_left (cf ts)).add (e2.trans ((Eqp.refl p (cf r)).sub e4))).trans (Eqp.of_eq ?_)
    rw [add_mul, cf_one, sh_mul, sc_mul, one_mul]
    funext j
    simp only [add, sub]
    omega
  · omega

theorem RD.done {p : Nat} {az ts q r : List Int} {n : Nat} (h : RD p az ts q r n) (hl : r.length < ts.length) : IsD p az ts q r := ⟨h.cq, h.cr, hl, h.eq⟩

/-- what the program's rounds keep: i places of the quotient are told -/
structure PD (p : Nat) (az ts : List Int) (m n top i : Nat) (qf rf : Nat → Int) : Prop where
  rb : ∀ j, j < n → 0 ≤ rf j ∧ rf j < p
  qb : ∀ j, j < m → 0 ≤ qf j ∧ qf j < p
  q0 : ∀ j, j < m - i → qf j = 0
  r0 : ∀ j, m - i + top ≤ j → j < n → rf j = 0
  eq : Eqp p (cf az) (add (mul (lo m qf) (cf ts)) (lo n rf))
  first : i = 0 → ∀ j, j < n → rf j = zat (trim p az) j
  last : 0 < i → qf (m - 1) ≠ 0

theorem PD.start {p : Nat} (h3 : 3 ≤ p) (az ts : List Int) (m top : Nat) (hm : (trim p az).length ≤ m + top) : PD p az ts m (trim p az).length top 0 (fun _ => 0) (zat (trim p az)) := by
  refine ⟨fun j hj => (trim_can (by omega) az).elem j hj, fun j _ => by omega, fun _ _ => rfl, fun j h1 h2 => by omega, ?_, fun _ _ _ => rfl, fun h => by omega⟩
  rw [show lo m (fun _ => (0 : Int)) = zero from by funext j; simp [lo, zero], zero_mul, show lo (trim p az).length (zat (trim p az)) = cf (trim p az) from lo_len _]
  refine (trim_eqp p az).symm.trans (Eqp.of_eq ?_)
  funext j; simp [add, zero]

theorem PD.step {p : Nat} (hp : Num.Prime p) (h3 : 3 ≤ p) {az ts : List Int} {m n top i : Nat} {qf rf : Nat → Int} (ht : Pol.Can p ts) (htop : ts.length = top + 1) (hn : n = m + top) (hnl : n = (trim p az).length) (h : PD p az ts m n top i qf rf) (hi : i < m) :
    PD p az ts m n top (i + 1) (Go.Proofs.YtfppkjpgihnibaaGreatDoor.up qf (m - 1 - i) (rf (m - 1 - i + top) * (invn p (zat ts top) : Int) % (p : Int)))
      (addf p rf (zat ts) ((0 - rf (m - 1 - i + top) * (invn p (zat ts top) : Int) % (p : Int)) % (p : Int)) (m - 1 - i) ts.length) := by
  have hnd : ¬ (p : Int) ∣ zat ts top := by
    have := ht.last_nd (by omega)
    rw [show ts.length - 1 = top from by omega] at this
    exact this
  obtain ⟨x, hx⟩ : ∃ x, x = rf (m - 1 - i + top) := ⟨_, rfl⟩
  obtain ⟨q, hq⟩ : ∃ q, q = x * (invn p (zat ts top) : Int) % (p : Int) := ⟨_, rfl⟩
  rw [← hx, ← hq]
  have hqb := emod_bounds (x * (invn p (zat ts top) : Int)) p h3
  rw [← hq] at hqb
  obtain ⟨pl, hpl⟩ : ∃ pl, pl = m - 1 - i := ⟨_, rfl⟩
  rw [← hpl] at hx ⊢
  -- the place that goes
  have hc : (p : Int) ∣ x - q * zat ts top := by
    have d1 := emod_dvd p (x * (invn p (zat ts top) : Int))
    rw [← hq] at d1
    obtain ⟨u, hu⟩ := invn_dvd hp h3 hnd
    obtain ⟨v, hv⟩ := d1
    refine ⟨- (x * u) - v * zat ts top, ?_⟩
    have e1 : q = x * (invn p (zat ts top) : Int) + p * v := by omega
    have e2 : (invn p (zat ts top) : Int) * zat ts top = 1 + p * u := by omega
    rw [e1]
    grind
  have hneg : (p : Int) ∣ (0 - q) % (p : Int) - (0 - q) := emod_dvd p _
  have hrb : ∀ j, j < n → 0 ≤ addf p rf (zat ts) ((0 - q) % (p : Int)) pl ts.length j ∧ addf p rf (zat ts) ((0 - q) % (p : Int)) pl ts.length j < p := fun j hj => by
    unfold addf
    split
    · exact emod_bounds _ p h3
    · exact h.rb j hj
  refine ⟨hrb, fun j hj => ?_, fun j hj => ?_, fun j h1 h2 => ?_, ?_, fun e => by omega, fun _ => ?_⟩
  · unfold Go.Proofs.YtfppkjpgihnibaaGreatDoor.up
    split
    · exact hqb
    · exact h.qb j hj
  · unfold Go.Proofs.YtfppkjpgihnibaaGreatDoor.up
    rw [if_neg (by omega)]
    exact h.q0 j (by omega)
  · by_cases e : j = pl + top
    · refine nonneg_dvd_zero (hrb j h2).1 (hrb j h2).2 ?_
      unfold addf
      rw [if_pos (by omega), e, Nat.add_sub_cancel_left, ← hx]
      have d1 := emod_dvd p (x + zat ts top * ((0 - q) % (p : Int)))
      obtain ⟨u, hu⟩ := hneg
      obtain ⟨v, hv⟩ := hc
      obtain ⟨s, hs⟩ := d1
      have e1 : (0 - q) % (p : Int) = p * u + (0 - q) := by omega
      refine ⟨s + v + zat ts top * u, ?_⟩
      have e2 : (x + zat ts top * ((0 - q) % (p : Int))) % (p : Int) = p * s + (x + zat ts top * ((0 - q) % (p : Int))) := by omega
      rw [e2, e1]
      grind
    · unfold addf
      rw [if_neg (by omega)]
      exact h.r0 j (by omega) h2
  · have hq' : lo m (Go.Proofs.YtfppkjpgihnibaaGreatDoor.up qf pl q) = add (lo m qf) (sh pl (sc q one)) := by
      funext j
      simp only [lo, add, sh, sc, one, Go.Proofs.YtfppkjpgihnibaaGreatDoor.up]
      by_cases e : j = pl
      · subst e
        rw [if_pos (by omega), if_pos rfl, if_pos (by omega), if_neg (by omega), h.q0 j (by omega)]
        simp
      · by_cases e2 : j < m
        · rw [if_pos e2, if_neg e, if_pos e2]
          by_cases e3 : j < pl
          · rw [if_pos e3]; omega
          · rw [if_neg e3, if_neg (by omega)]; omega
        · rw [if_neg e2, if_neg e2, if_neg (by omega), if_neg (by omega)]; simp
    have hr' : Eqp p (lo n (addf p rf (zat ts) ((0 - q) % (p : Int)) pl ts.length)) (sub (lo n rf) (sh pl (sc q (cf ts)))) := fun j => by
      simp only [lo, sub, sh, sc]
      by_cases e2 : j < n
      · rw [if_pos e2, if_pos e2]
        unfold addf
        by_cases e : pl ≤ j ∧ j < pl + ts.length
        · rw [if_pos e, if_neg (by omega)]
          obtain ⟨u, hu⟩ := hneg
          obtain ⟨s, hs⟩ := emod_dvd p (rf j + zat ts (j - pl) * ((0 - q) % (p : Int)))
          refine ⟨s + zat ts (j - pl) * u, ?_⟩
          have e3 : (0 - q) % (p : Int) = p * u + (0 - q) := by omega
          have e4 : (rf j + zat ts (j - pl) * ((0 - q) % (p : Int))) % (p : Int) = p * s + (rf j + zat ts (j - pl) * ((0 - q) % (p : Int))) := by omega
          rw [e4, e3, show cf ts (j - pl) = zat ts (j - pl) from rfl]
          grind
        · rw [if_neg e]
          by_cases e3 : j < pl
          · rw [if_pos e3]; simp
          · rw [if_neg e3, cf_ge (by omega)]; simp
      · rw [if_neg e2, if_neg e2, if_neg (by omega), cf_ge (by omega)]; simp
    rw [hq']
    refine h.eq.trans (Eqp.symm (((Eqp.refl p _).add hr').trans (Eqp.of_eq ?_)))
    rw [add_mul, sh_mul, sc_mul, one_mul]
    funext j
    simp only [add, sub]
    omega
  · unfold Go.Proofs.YtfppkjpgihnibaaGreatDoor.up
    by_cases e : m - 1 = pl
    · rw [if_pos e]
      intro e0
      have i0 : i = 0 := by omega
      have hf := h.first i0 (n - 1) (by omega)
      rw [show pl + top = n - 1 from by omega, hf, hnl] at hx
      have hl := (trim_can (p := p) (by omega) az).last_nd (by omega)
      rw [e0, show (0 : Int) * zat ts top = 0 from by simp, Int.sub_zero, hx] at hc
      exact hl hc
    · rw [if_neg e]
      exact h.last (by omega)

theorem PD.done {p : Nat} (h3 : 3 ≤ p) {az ts : List Int} {m n top : Nat} {qf rf : Nat → Int} (htop : ts.length = top + 1) (h : PD p az ts m n top m qf rf) : IsD p az ts (ls qf m) (Pol.mk p rf n) := by
  have hb : ∀ j, n ≤ j → lo n rf j % (p : Int) = 0 := fun j hj => by simp only [lo]; rw [if_neg (by omega)]; simp
  have hcong : Pol.mk p rf n = Pol.mk p (lo n rf) n := by
    have ht : tp p rf n = tp p (lo n rf) n := tp_congr p _ _ n (fun j hj => by simp only [lo]; rw [if_pos hj])
    unfold Pol.mk
    rw [ht]
    refine List.map_congr_left (fun j hj => ?_)
    have := tp_le p (lo n rf) n
    have hj2 : j < tp p (lo n rf) n := List.mem_range.1 hj
    simp only [lo]
    rw [if_pos (by omega)]
  refine ⟨⟨fun j hj => ?_, fun hj => ?_⟩, mk_can (by omega) _ _, ?_, ?_⟩
  · rw [ls_len] at hj
    have := ls_at qf m j hj
    rw [show (ls qf m).getD j 0 = zat (ls qf m) j from rfl, this]
    exact h.qb j hj
  · rw [ls_len] at hj ⊢
    rw [show (ls qf m).getD (m - 1) 0 = zat (ls qf m) (m - 1) from rfl, ls_at _ _ _ (by omega)]
    exact h.last hj
  · rw [mk_length]
    have : tp p rf n ≤ top := by
      rcases Nat.lt_or_ge top (tp p rf n) with g | g
      · have h1 := tp_last p rf n (by omega)
        have h2 := tp_le p rf n
        rw [h.r0 _ (by omega) (by omega)] at h1
        simp at h1
      · exact g
    omega
  · refine h.eq.trans (Eqp.add (Eqp.mul_left _ (Eqp.of_eq ?_)) ?_)
    · funext j; simp only [lo]
      by_cases e : j < m
      · rw [if_pos e]; exact (ls_at qf m j e).symm
      · rw [if_neg e, cf_ge (by rw [ls_len]; omega)]
    · rw [hcong]; exact (mk_eqp hb).symm

end Go.Proofs.YtfppkjpgihnibaaGreatDoor

namespace Go.Proofs.YtfppkjpgihnibaaGreatDoor
open Go.RowKit

/-- the product of x - xs[i] of the first n, modulo p -/
def vn (p : Nat) (xs : List Int) (n : Nat) : Nat → Int := fun j => Pol.van (zat xs) n j % (p : Int)
end Go.Proofs.YtfppkjpgihnibaaGreatDoor

namespace Go.Proofs.YtfppkjpgihnibaaGreatDoor
open Go.RowKit Pol

/-! ## 0 at given points alone -/
/-! ## the way back to the polynomial -/
end Go.Proofs.YtfppkjpgihnibaaGreatDoor

namespace Go.Proofs.YtfppkjpgihnibaaGreatDoor
open Go.RowKit

/-- a domain that was made, as it lies in a world -/
structure DO (w : World) (p b d n : Nat) (r s : Int) : Prop where
  pr : Num.Prime p
  h3 : 3 ≤ p
  hm : p ≤ 2147483647
  hp : w.cell? ⟨b, 0, none⟩ = some (.int .i64 p)
  da : DomAt w d b n r s
  hk : ∃ k, k ≤ 16 ∧ n = 2 ^ k
  hr0 : 0 ≤ r
  hr1 : r < p
  ord : Dom.Ord p r n
  hs0 : 0 ≤ s
  hs1 : s < p
  hsd : ¬ (p : Int) ∣ s

theorem DO.below {w w' : World} {p b d n n0 : Nat} {r s : Int} (h : DO w p b d n r s) (e : Below n0 w w') (hb : b < n0) (hd : d < n0) : DO w' p b d n r s :=
  ⟨h.pr, h.h3, h.hm, (e.cell (p := ⟨b, 0, none⟩) hb).trans h.hp, h.da.below e hd, h.hk, h.hr0, h.hr1, h.ord, h.hs0, h.hs1, h.hsd⟩
theorem DO.blt {w : World} {p b d n : Nat} {r s : Int} (h : DO w p b d n r s) : b < w.heap.size := heap_lt h.hp
theorem DO.dlt {w : World} {p b d n : Nat} {r s : Int} (h : DO w p b d n r s) : d < w.heap.size := h.da.lt
theorem DO.step {w w' : World} {p b d n : Nat} {r s : Int} (h : DO w p b d n r s) (e : Below w.heap.size w w') : DO w' p b d n r s := h.below e h.blt h.dlt
theorem DO.pos {w : World} {p b d n : Nat} {r s : Int} (h : DO w p b d n r s) : 0 < n ∧ n ≤ 65536 := by
  obtain ⟨k, h1, h2⟩ := h.hk
  have := two_pow_le h1
  have : 0 < 2 ^ k := Nat.pow_pos (by decide)
  omega
/-- the polynomial that has these values -/
def bk (p n : Nat) (r s : Int) (zs : List Int) : List Int := Pol.trim p (ls (coefs p zs n (invn p r) (invn p n) (invn p s)) n)
/-! ## mayBound -/
end Go.Proofs.YtfppkjpgihnibaaGreatDoor

namespace Go.Proofs.YtfppkjpgihnibaaGreatDoor
open Go.RowKit

/-- do two lists differ at a place? -/
def dq (p : Nat) (xs ys : List Int) (j : Nat) : Bool := !(decide (j < xs.length) && decide (j < ys.length) && (zat xs j % (p : Int) == zat ys j % (p : Int)))
/-- at how many places two lists differ -/
def dist (p : Nat) (xs ys : List Int) : Nat := Cod.cnt (dq p xs ys) (max xs.length ys.length)

end Go.Proofs.YtfppkjpgihnibaaGreatDoor

namespace Go.Proofs.YtfppkjpgihnibaaGreatDoor.Fol
open Pol Dom

theorem dvdm {p : Nat} {a b c d : Int} (h : (p : Int) ∣ a - b) (k : (p : Int) ∣ c - d) : (p : Int) ∣ a * c - b * d := by
  have h1 := Int.dvd_mul_of_dvd_left (c := c) h
  have h2 := Int.dvd_mul_of_dvd_right (b := b) k
  have := Int.dvd_add h1 h2
  rwa [show (a - b) * c + b * (c - d) = a * c - b * d from by grind] at this
theorem dvda {p : Nat} {a b c d : Int} (h : (p : Int) ∣ a - b) (k : (p : Int) ∣ c - d) : (p : Int) ∣ (a + c) - (b + d) := by
  have := Int.dvd_add h k
  rwa [show (a - b) + (c - d) = (a + c) - (b + d) from by omega] at this
theorem dvds {p : Nat} {a b c d : Int} (h : (p : Int) ∣ a - b) (k : (p : Int) ∣ c - d) : (p : Int) ∣ (a - c) - (b - d) := by
  have := Int.dvd_sub h k
  rwa [show (a - b) - (c - d) = (a - c) - (b - d) from by omega] at this
theorem dvdt {p : Nat} {a b c : Int} (h : (p : Int) ∣ a - b) (k : (p : Int) ∣ b - c) : (p : Int) ∣ a - c := by
  have := Int.dvd_add h k
  rwa [show (a - b) + (b - c) = a - c from by omega] at this
theorem dvdn {p : Nat} {a b : Int} (h : (p : Int) ∣ a - b) : (p : Int) ∣ b - a := by
  have := Int.dvd_neg.2 h
  rwa [Int.neg_sub] at this
theorem dvd0 (p : Nat) (a : Int) : (p : Int) ∣ a - a := by rw [Int.sub_self]; exact Int.dvd_zero _
theorem two_nd {p : Nat} (h3 : 3 ≤ p) : ¬ (p : Int) ∣ 2 := fun h => by
  have := Int.le_of_dvd (by omega) h
  omega

/-- what a pair becomes -/
def pairz (p : Nat) (x a b c : Int) : Int := ((a + b) * (invn p 2 : Int) + (a - b) * (invn p (x * 2 % (p : Int)) : Int) * c) % (p : Int)
/-- its two parts -/
theorem parts {p : Nat} (hp : Num.Prime p) (h3 : 3 ≤ p) {x : Int} (hx : ¬ (p : Int) ∣ x) (a b : Int) : ∃ A B : Int, (∀ c, (p : Int) ∣ pairz p x a b c - (A + c * B)) ∧ (p : Int) ∣ A + x * B - a ∧ (p : Int) ∣ A - x * B - b ∧ (∀ E O : Int, (p : Int) ∣ a - (E + x * O) → (p : Int) ∣ b - (E - x * O) → (p : Int) ∣ A - E ∧ (p : Int) ∣ B - O) := by
  have h2 := two_nd h3
  have hx2 : ¬ (p : Int) ∣ x * 2 % (p : Int) := fun h => by
    have : (p : Int) ∣ x * 2 := by
      have := Int.dvd_sub h (emod_dvd p (x * 2))
      rwa [show x * 2 % (p : Int) - (x * 2 % (p : Int) - x * 2) = x * 2 from by omega] at this
    exact (prime_mul hp this).elim hx h2
  have i2 := invn_dvd hp h3 h2
  have ix := invn_dvd hp h3 hx2
  obtain ⟨I, hI⟩ : ∃ I : Int, I = (invn p 2 : Int) := ⟨_, rfl⟩
  obtain ⟨J, hJ⟩ : ∃ J : Int, J = (invn p (x * 2 % (p : Int)) : Int) := ⟨_, rfl⟩
  rw [← hI] at i2
  rw [← hJ] at ix
  have ix2 : (p : Int) ∣ J * (x * 2) - 1 := dvdt (dvdm (dvd0 p J) (dvdn (emod_dvd p (x * 2)))) ix
  -- twice and x times
  have c2 : ∀ {y z : Int}, (p : Int) ∣ y * 2 - z * 2 → (p : Int) ∣ y - z := fun {y z} h => by
    rw [show y * 2 - z * 2 = (y - z) * 2 from by omega] at h
    exact (prime_mul hp h).resolve_right h2
  have hA : (p : Int) ∣ (a + b) * I * 2 - (a + b) := by
    have := dvdm (dvd0 p (a + b)) i2
    rwa [show (a + b) * (I * 2) - (a + b) * 1 = (a + b) * I * 2 - (a + b) from by grind] at this
  have hB : (p : Int) ∣ (a - b) * J * (x * 2) - (a - b) := by
    have := dvdm (dvd0 p (a - b)) ix2
    rwa [show (a - b) * (J * (x * 2)) - (a - b) * 1 = (a - b) * J * (x * 2) - (a - b) from by grind] at this
  refine ⟨(a + b) * I, (a - b) * J, fun c => ?_, ?_, ?_, fun E O ha hb => ⟨?_, ?_⟩⟩
  · unfold pairz
    rw [← hI, ← hJ]
    have := emod_dvd p ((a + b) * I + (a - b) * J * c)
    rwa [show (a - b) * J * c = c * ((a - b) * J) from by grind] at this ⊢
  · refine c2 ?_
    have := dvda hA hB
    rwa [show (a + b) * I * 2 + (a - b) * J * (x * 2) - (a + b + (a - b)) = ((a + b) * I + x * ((a - b) * J)) * 2 - a * 2 from by grind] at this
  · refine c2 ?_
    have := dvds hA hB
    rwa [show (a + b) * I * 2 - (a - b) * J * (x * 2) - (a + b - (a - b)) = ((a + b) * I - x * ((a - b) * J)) * 2 - b * 2 from by grind] at this
  · refine c2 (dvdt hA ?_)
    have := dvda ha hb
    rwa [show a + b - (E + x * O + (E - x * O)) = a + b - E * 2 from by omega] at this
  · have h4 := dvdt hB (dvds ha hb)
    rw [show (a - b) * J * (x * 2) - (E + x * O - (E - x * O)) = ((a - b) * J - O) * (x * 2) from by grind] at h4
    exact (prime_mul hp h4).resolve_right (fun h => (prime_mul hp h).elim hx h2)
/-- two unlike elements tell the pair -/
theorem pair_back {p : Nat} (hp : Num.Prime p) (h3 : 3 ≤ p) {x a b E O r s : Int} (hx : ¬ (p : Int) ∣ x) (hrs : ¬ (p : Int) ∣ s - r) (h1 : (p : Int) ∣ pairz p x a b r - (E + r * O)) (h2 : (p : Int) ∣ pairz p x a b s - (E + s * O)) : (p : Int) ∣ a - (E + x * O) ∧ (p : Int) ∣ b - (E - x * O) := by
  obtain ⟨A, B, k1, k2, k3, _⟩ := parts hp h3 hx a b
  have e1 := dvdt (dvdn (k1 r)) h1
  have e2 := dvdt (dvdn (k1 s)) h2
  have e3 := dvds e2 e1
  rw [show A + s * B - (A + r * B) - (E + s * O - (E + r * O)) = (s - r) * (B - O) from by grind] at e3
  have hB := (prime_mul hp e3).resolve_left hrs
  have hA : (p : Int) ∣ A - E := by
    have := dvds e1 (dvdm (dvd0 p r) hB)
    rwa [show A + r * B - r * B - (E + r * O - r * O) = A - E from by omega] at this
  exact ⟨dvdt (dvdn k2) (dvda hA (dvdm (dvd0 p x) hB)), dvdt (dvdn k3) (dvds hA (dvdm (dvd0 p x) hB))⟩

/-- a circle of n points -/
structure Cir (p n : Nat) (r s : Int) : Prop where
  pr : Num.Prime p
  h3 : 3 ≤ p
  ord : Ord p r n
  sd : ¬ (p : Int) ∣ s
theorem Cir.pt_nd {p n : Nat} {r s : Int} (C : Cir p n r s) (i : Nat) : ¬ (p : Int) ∣ pt p s r i := fun h => by
  have : (p : Int) ∣ s * r ^ i := by
    have := Int.dvd_sub h (emod_dvd p (s * r ^ i))
    unfold pt at this
    rwa [show s * r ^ i % (p : Int) - (s * r ^ i % (p : Int) - s * r ^ i) = s * r ^ i from by omega] at this
  exact (prime_mul C.pr this).elim C.sd (pow_nd C.pr (C.ord.nd C.pr) i)
theorem Cir.neg {p m : Nat} {r s : Int} (C : Cir p (2 * m) r s) (i : Nat) : (p : Int) ∣ pt p s r (i + m) + pt p s r i := by
  have h := C.ord.half C.pr
  have e : (p : Int) ∣ s * r ^ (i + m) + s * r ^ i := by
    have := Int.dvd_mul_of_dvd_right (b := s * r ^ i) h
    rwa [show s * r ^ i * (r ^ m + 1) = s * r ^ (i + m) + s * r ^ i from by rw [Int.pow_add]; grind] at this
  have e1 := emod_dvd p (s * r ^ (i + m))
  have e2 := emod_dvd p (s * r ^ i)
  have := Int.dvd_add (Int.dvd_add e1 e2) e
  unfold pt
  rwa [show s * r ^ (i + m) % (p : Int) - s * r ^ (i + m) + (s * r ^ i % (p : Int) - s * r ^ i) + (s * r ^ (i + m) + s * r ^ i) = s * r ^ (i + m) % (p : Int) + s * r ^ i % (p : Int) from by omega] at this
/-- half of it -/
theorem Cir.half {p m : Nat} {r s : Int} (C : Cir p (2 * m) r s) : Cir p m (r * r % (p : Int)) (s * s % (p : Int)) := by
  refine ⟨C.pr, C.h3, C.ord.sqm, fun h => ?_⟩
  have : (p : Int) ∣ s * s := by
    have := Int.dvd_sub h (emod_dvd p (s * s))
    rwa [show s * s % (p : Int) - (s * s % (p : Int) - s * s) = s * s from by omega] at this
  exact (prime_mul C.pr this).elim C.sd C.sd
theorem pow_mod {p : Nat} {a b : Int} (h : (p : Int) ∣ a - b) : ∀ i : Nat, (p : Int) ∣ a ^ i - b ^ i
  | 0 => by simp
  | i + 1 => by rw [Int.pow_succ, Int.pow_succ]; exact dvdm (pow_mod h i) h
theorem pt_sq (p : Nat) (r s : Int) (i : Nat) : (p : Int) ∣ pt p (s * s % (p : Int)) (r * r % (p : Int)) i - pt p s r i * pt p s r i := by
  unfold pt
  have e1 : (p : Int) ∣ s * s % (p : Int) * (r * r % (p : Int)) ^ i - s * s * (r * r) ^ i := dvdm (emod_dvd p _) (pow_mod (emod_dvd p _) i)
  have e2 : (p : Int) ∣ s * r ^ i % (p : Int) * (s * r ^ i % (p : Int)) - s * r ^ i * (s * r ^ i) := dvdm (emod_dvd p _) (emod_dvd p _)
  have e3 : s * s * (r * r) ^ i = s * r ^ i * (s * r ^ i) := by rw [Int.mul_pow]; grind
  rw [e3] at e1
  exact dvdt (dvdt (emod_dvd p _) e1) (dvdn e2)

/-- a word folded -/
def foldz (p m : Nat) (r s : Int) (word : List Int) (c : Int) : List Int := ls (fun i => pairz p (pt p s r i) (zat word i) (zat word (i + m)) c) m
theorem foldz_len (p m : Nat) (r s : Int) (word : List Int) (c : Int) : (foldz p m r s word c).length = m := ls_len _ _
theorem foldz_at {p m : Nat} {r s : Int} {word : List Int} {c : Int} {i : Nat} (h : i < m) : zat (foldz p m r s word c) i = pairz p (pt p s r i) (zat word i) (zat word (i + m)) c := ls_at _ _ _ h
/-- the even places and c times the odd ones -/
def evod (f : Nat → Int) (c : Int) : Nat → Int := fun j => f (2 * j) + c * f (2 * j + 1)
/-- and the other way, where two unlike elements say so -/
theorem Cir.fold_back {p m : Nat} {r s : Int} (C : Cir p (2 * m) r s) (g h : Nat → Int) (M : Nat) (word : List Int) {c d : Int} (hcd : ¬ (p : Int) ∣ d - c) {i : Nat} (hi : i < m)
    (h1 : (p : Int) ∣ zat (foldz p m r s word c) i - ps (fun j => g j + c * h j) (pt p (s * s % (p : Int)) (r * r % (p : Int)) i) M)
    (h2 : (p : Int) ∣ zat (foldz p m r s word d) i - ps (fun j => g j + d * h j) (pt p (s * s % (p : Int)) (r * r % (p : Int)) i) M) :
    (p : Int) ∣ zat word i - (ps g (pt p s r i * pt p s r i) M + pt p s r i * ps h (pt p s r i * pt p s r i) M) ∧ (p : Int) ∣ zat word (i + m) - (ps g (pt p s r i * pt p s r i) M - pt p s r i * ps h (pt p s r i * pt p s r i) M) := by
  rw [foldz_at hi] at h1 h2
  have e : ∀ (c x : Int), ps (fun j => g j + c * h j) x M = ps g x M + c * ps h x M := fun c x => by
    rw [show (fun j => g j + c * h j) = Pol.add g (Pol.sc c h) from rfl, ps_add, ps_sc]
  refine pair_back C.pr C.h3 (C.pt_nd i) hcd (dvdt h1 ?_) (dvdt h2 ?_)
  · rw [← e]; exact ps_point _ (pt_sq p r s i) M
  · rw [← e]; exact ps_point _ (pt_sq p r s i) M

end Go.Proofs.YtfppkjpgihnibaaGreatDoor.Fol

namespace Go.Proofs.YtfppkjpgihnibaaGreatDoor.Fol
open Pol Dom

theorem Cir.unlike {p n : Nat} {r s : Int} (C : Cir p n r s) {i j : Nat} (hij : i < j) (hj : j < n) : ¬ (p : Int) ∣ pt p s r j - pt p s r i := fun h => by
  unfold pt at h
  have h1 : (p : Int) ∣ s * r ^ j - s * r ^ i := dvdt (dvdn (emod_dvd p (s * r ^ j))) (dvdt h (emod_dvd p (s * r ^ i)))
  rw [show s * r ^ j - s * r ^ i = s * (r ^ j - r ^ i) from by grind] at h1
  exact (prime_mul C.pr h1).elim C.sd (C.ord.unlike C.pr hij hj)
theorem cnt_split (P : Nat → Bool) (m n : Nat) : Cod.cnt P (m + n) = Cod.cnt P m + Cod.cnt (fun j => P (m + j)) n := by
  induction n with
  | zero => simp [Cod.cnt]
  | succ n ih => rw [← Nat.add_assoc, Cod.cnt, ih, Cod.cnt]; omega
/-- what is near stays near -/
theorem Cir.near {p m : Nat} {r s : Int} (C : Cir p (2 * m) r s) (f : Nat → Int) (M : Nat) (word y z W : List Int) {c d : Int} (hcd : ¬ (p : Int) ∣ d - c) (hlw : word.length = 2 * m) (hly : y.length = m) (hlz : z.length = m) (hlW : W.length = 2 * m)
    (hy : ∀ i, i < m → (p : Int) ∣ zat y i - ps (evod f c) (pt p (s * s % (p : Int)) (r * r % (p : Int)) i) M) (hz : ∀ i, i < m → (p : Int) ∣ zat z i - ps (evod f d) (pt p (s * s % (p : Int)) (r * r % (p : Int)) i) M)
    (hW : ∀ j, j < 2 * m → (p : Int) ∣ zat W j - ps f (pt p s r j) (2 * M)) : dist p word W ≤ 2 * (dist p (foldz p m r s word c) y + dist p (foldz p m r s word d) z) := by
  have hp0 : 0 < p := by have := C.h3; omega
  have hlf : ∀ c, (foldz p m r s word c).length = m := fun c => foldz_len _ _ _ _ _ _
  unfold dist
  rw [hlw, hlW, hlf, hlf, hly, hlz, Nat.max_self, Nat.max_self, show 2 * m = m + m from by omega, cnt_split]
  have key : ∀ i, i < m → dq p (foldz p m r s word c) y i = false → dq p (foldz p m r s word d) z i = false → dq p word W i = false ∧ dq p word W (m + i) = false := fun i hi h1 h2 => by
    unfold dq at h1 h2
    rw [hlf, hly] at h1
    rw [hlf, hlz] at h2
    simp only [hi, decide_true, Bool.true_and, Bool.not_eq_false', beq_iff_eq] at h1 h2
    have e1 := dvdt ((emod_eq_iff hp0).1 h1) (hy i hi)
    have e2 := dvdt ((emod_eq_iff hp0).1 h2) (hz i hi)
    obtain ⟨b1, b2⟩ := C.fold_back (ev f) (od f) M word hcd hi e1 e2
    have w1 := hW i (by omega)
    rw [ps_halves] at w1
    have w2 := dvdt (hW (i + m) (by omega)) (ps_neg f (x := pt p s r i) (y := pt p s r (i + m)) (C.neg i) M)
    have k1 := (emod_eq_iff hp0).2 (dvdt b1 (dvdn w1))
    have k2 := (emod_eq_iff hp0).2 (dvdt b2 (dvdn w2))
    unfold dq
    rw [hlw, hlW]
    rw [Nat.add_comm m i]
    constructor
    · simp [show i < 2 * m from by omega, k1]
    · simp [show i + m < 2 * m from by omega, k2]
  have hA : Cod.cnt (dq p word W) m ≤ Cod.cnt (fun i => dq p (foldz p m r s word c) y i || dq p (foldz p m r s word d) z i) m := Cod.cnt_mono (fun i hi h => by
    cases h1 : dq p (foldz p m r s word c) y i with
    | true => rfl
    | false =>
      cases h2 : dq p (foldz p m r s word d) z i with
      | true => simp
      | false => rw [(key i hi h1 h2).1] at h; cases h)
  have hB : Cod.cnt (fun j => dq p word W (m + j)) m ≤ Cod.cnt (fun i => dq p (foldz p m r s word c) y i || dq p (foldz p m r s word d) z i) m := Cod.cnt_mono (fun i hi h => by
    cases h1 : dq p (foldz p m r s word c) y i with
    | true => rfl
    | false =>
      cases h2 : dq p (foldz p m r s word d) z i with
      | true => simp
      | false => rw [(key i hi h1 h2).2] at h; cases h)
  have hor := Cod.cnt_or (dq p (foldz p m r s word c) y) (dq p (foldz p m r s word d) z) m
  omega

end Go.Proofs.YtfppkjpgihnibaaGreatDoor.Fol

namespace Go.Proofs.YtfppkjpgihnibaaGreatDoor
open Go.RowKit

theorem DO.cir {w : World} {p b d n : Nat} {r s : Int} (D : DO w p b d n r s) : Fol.Cir p n r s := ⟨D.pr, D.h3, D.ord, D.hsd⟩
/-- a domain and half of it -/
structure Dh (w : World) (q b d h m : Nat) (r s : Int) : Prop where
  dom : DO w q b d (2 * m) r s
  half : DO w q b h m (r * r % (q : Int)) (s * s % (q : Int))
theorem Dh.step {w w' : World} {q b d h m : Nat} {r s : Int} (D : Dh w q b d h m r s) (e : Below w.heap.size w w') : Dh w' q b d h m r s := ⟨D.dom.step e, D.half.step e⟩
end Go.Proofs.YtfppkjpgihnibaaGreatDoor
