/- Plain facts on division with a rest, for lists modulo a prime: what the reference's rounds and the program's rounds keep; both end at the one quotient and the one rest. What package poly's Vanish and its helpers answer. -/
import Derived.Test.YtpgnabmkfkcogaaGreatDoorGqAA
import Derived.Test.YtpgnabmkfkcogaaGreatDoorPls
import Derived.Deep.RegionWith
namespace Go.Proofs.YtpgnabmkfkcogaaGreatDoor
open Go.RowKit Pol

theorem nonneg_dvd_zero {p : Nat} {x : Int} (h0 : 0 ≤ x) (h1 : x < p) (hd : (p : Int) ∣ x) : x = 0 := by
  rcases Int.lt_or_le 0 x with g | g
  · have := Int.le_of_dvd g hd; omega
  · omega

theorem invn_dvd {p : Nat} (hp : Num.Prime p) (h3 : 3 ≤ p) {z : Int} (h : ¬ (p : Int) ∣ z) : (p : Int) ∣ (invn p z : Int) * z - 1 := by
  have hz : z % (p : Int) ≠ 0 := fun e => h (Int.dvd_of_emod_eq_zero e)
  have h1 : 0 < el p z := by have := (emod_bounds z p h3).1; unfold el; omega
  have h2 := el_lt p z h3
  have key : invn p z * el p z % p = 1 := by
    unfold invn
    have : el p z = Num.pwm p (el p z) 1 := (Num.pwm_one p _ h2).symm
    rw [show Num.pwm p (el p z) (p - 2) * el p z = Num.pwm p (el p z) (p - 2) * Num.pwm p (el p z) 1 from by rw [← this], Num.pwm_add, show p - 2 + 1 = p - 1 from by omega]
    exact Num.pwm_fermat hp h1 h2
  have e1 := el_cast p z h3
  have d1 : (p : Int) ∣ ((invn p z * el p z : Nat) : Int) - 1 := by
    have hm := Nat.div_add_mod (invn p z * el p z) p
    rw [key] at hm
    obtain ⟨k, hk⟩ : ∃ k, p * k + 1 = invn p z * el p z := ⟨_, hm⟩
    rw [← hk]
    exact ⟨(k : Int), by push_cast; omega⟩
  have d2 : (p : Int) ∣ (invn p z : Int) * (z % (p : Int) - z) := Int.dvd_mul_of_dvd_right (emod_dvd p z)
  have := Int.dvd_sub d1 d2
  rw [show ((invn p z * el p z : Nat) : Int) - 1 - (invn p z : Int) * (z % (p : Int) - z) = (invn p z : Int) * z - 1 from by push_cast; rw [e1]; grind] at this
  exact this

/-- q and r are quotient and rest; ts has no zeros at its end and is not empty -/
structure IsD (p : Nat) (az ts q r : List Int) : Prop where
  cq : Pol.Can p q
  cr : Pol.Can p r
  lt : r.length < ts.length
  eq : Eqp p (cf az) (add (mul (cf q) (cf ts)) (cf r))

/-- what the reference's rounds keep -/
structure RD (p : Nat) (az ts q r : List Int) (n : Nat) : Prop where
  cq : Pol.Can p q
  cr : Pol.Can p r
  lq : q.length ≤ n
  lr : r.length ≤ n
  eq : Eqp p (cf az) (add (mul (cf q) (cf ts)) (cf r))

def rc (p : Nat) (r ts : List Int) : Int := zat r (r.length - 1) * (invn p (zat ts (ts.length - 1)) : Int) % (p : Int)

theorem RD.step {p : Nat} (hp : Num.Prime p) (h3 : 3 ≤ p) {az ts q r : List Int} {n : Nat} (ht : Pol.Can p ts) (hts : 0 < ts.length) (h : RD p az ts q r n) (hl : ts.length ≤ r.length) :
    RD p az ts (padd p q (pscale p [1] (rc p r ts) (r.length - ts.length))) (psub p r (pscale p ts (rc p r ts) (r.length - ts.length))) n ∧ (psub p r (pscale p ts (rc p r ts) (r.length - ts.length))).length < r.length := by
  have hc : ∀ c, c = rc p r ts → (p : Int) ∣ zat r (r.length - 1) - c * zat ts (ts.length - 1) := fun c e => by
    have d1 := emod_dvd p (zat r (r.length - 1) * (invn p (zat ts (ts.length - 1)) : Int))
    rw [show zat r (r.length - 1) * (invn p (zat ts (ts.length - 1)) : Int) % (p : Int) = c from e.symm] at d1
    obtain ⟨u, hu⟩ := invn_dvd hp h3 (ht.last_nd hts)
    rw [show cf ts (ts.length - 1) = zat ts (ts.length - 1) from rfl] at hu
    obtain ⟨v, hv⟩ := d1
    refine ⟨- (zat r (r.length - 1) * u) - v * zat ts (ts.length - 1), ?_⟩
    have e1 : c = zat r (r.length - 1) * (invn p (zat ts (ts.length - 1)) : Int) + p * v := by omega
    have e2 : (invn p (zat ts (ts.length - 1)) : Int) * zat ts (ts.length - 1) = 1 + p * u := by omega
    rw [e1]
    grind
  generalize rc p r ts = c at *
  have hc := hc c rfl
  have hk : r.length - ts.length + ts.length = r.length := by omega
  have hrow : ∀ j, r.length - 1 ≤ j → (p : Int) ∣ sub (cf r) (cf (pscale p ts c (r.length - ts.length))) j := fun j hj => by
    have d := pscale_eqp p ts c (r.length - ts.length) j
    simp only [sub]
    have hr : (p : Int) ∣ cf r j - sh (r.length - ts.length) (sc c (cf ts)) j := by
      simp only [sh, sc]
      rw [if_neg (by omega)]
      by_cases e : j = r.length - 1
      · subst e
        rw [show r.length - 1 - (r.length - ts.length) = ts.length - 1 from by omega]
        exact hc
      · rw [cf_ge (by omega), cf_ge (by omega)]; simp
    have := Int.dvd_sub hr d
    rwa [show ∀ x y z : Int, x - y - (z - y) = x - z from fun x y z => by omega] at this
  have hlen : (psub p r (pscale p ts c (r.length - ts.length))).length ≤ r.length - 1 := by
    rw [psub, mk_length]; exact tp_bound hrow
  refine ⟨⟨padd_can h3 _ _, psub_can h3 _ _, ?_, ?_, ?_⟩, ?_⟩
  · have h1 := padd_le p q (pscale p [1] c (r.length - ts.length))
    have h2 := pscale_le p [1] c (r.length - ts.length)
    have := h.lq; have := h.lr
    simp at h2
    omega
  · have := h.lr; omega
  · have e1 := padd_eqp p q (pscale p [1] c (r.length - ts.length))
    have e2 := psub_eqp p r (pscale p ts c (r.length - ts.length))
    have e3 := pscale_eqp p [1] c (r.length - ts.length)
    have e4 := pscale_eqp p ts c (r.length - ts.length)
    refine h.eq.trans (Eqp.symm ?_)
    refine (((e1.trans ((Eqp.refl p (cf q)).add e3)).mul_left (cf ts)).add (e2.trans ((Eqp.refl p (cf r)).sub e4))).trans (Eqp.of_eq ?_)
    rw [add_mul, cf_one, sh_mul, sc_mul, one_mul]
    funext j
    simp only [add, sub]
    omega
  · omega

theorem RD.done {p : Nat} {az ts q r : List Int} {n : Nat} (h : RD p az ts q r n) (hl : r.length < ts.length) : IsD p az ts q r := ⟨h.cq, h.cr, hl, h.eq⟩

/-- what the program's rounds keep: i places of the quotient are told -/
structure PD (p : Nat) (az ts : List Int) (m n top i : Nat) (qf rf : Nat → Int) : Prop where
  rb : ∀ j, j < n → 0 ≤ rf j ∧ rf j < p
  qb : ∀ j, j < m → 0 ≤ qf j ∧ qf j < p
  q0 : ∀ j, j < m - i → qf j = 0
  r0 : ∀ j, m - i + top ≤ j → j < n → rf j = 0
  eq : Eqp p (cf az) (add (mul (lo m qf) (cf ts)) (lo n rf))
  first : i = 0 → ∀ j, j < n → rf j = zat (trim p az) j
  last : 0 < i → qf (m - 1) ≠ 0

theorem PD.step {p : Nat} (hp : Num.Prime p) (h3 : 3 ≤ p) {az ts : List Int} {m n top i : Nat} {qf rf : Nat → Int} (ht : Pol.Can p ts) (htop : ts.length = top + 1) (hn : n = m + top) (hnl : n = (trim p az).length) (h : PD p az ts m n top i qf rf) (hi : i < m) :
    PD p az ts m n top (i + 1) (Go.Proofs.YtpgnabmkfkcogaaGreatDoor.up qf (m - 1 - i) (rf (m - 1 - i + top) * (invn p (zat ts top) : Int) % (p : Int)))
      (addf p rf (zat ts) ((0 - rf (m - 1 - i + top) * (invn p (zat ts top) : Int) % (p : Int)) % (p : Int)) (m - 1 - i) ts.length) := by
  have hnd : ¬ (p : Int) ∣ zat ts top := by
    have := ht.last_nd (by omega)
    rw [show ts.length - 1 = top from by omega] at this
    exact this
  obtain ⟨x, hx⟩ : ∃ x, x = rf (m - 1 - i + top) := ⟨_, rfl⟩
  obtain ⟨q, hq⟩ : ∃ q, q = x * (invn p (zat ts top) : Int) % (p : Int) := ⟨_, rfl⟩
  rw [← hx, ← hq]
  have hqb := emod_bounds (x * (invn p (zat ts top) : Int)) p h3
  rw [← hq] at hqb
  obtain ⟨pl, hpl⟩ : ∃ pl, pl = m - 1 - i := ⟨_, rfl⟩
  rw [← hpl] at hx ⊢
  -- the place that goes
  have hc : (p : Int) ∣ x - q * zat ts top := by
    have d1 := emod_dvd p (x * (invn p (zat ts top) : Int))
    rw [← hq] at d1
    obtain ⟨u, hu⟩ := invn_dvd hp h3 hnd
    obtain ⟨v, hv⟩ := d1
    refine ⟨- (x * u) - v * zat ts top, ?_⟩
    have e1 : q = x * (invn p (zat ts top) : Int) + p * v := by omega
    have e2 : (invn p (zat ts top) : Int) * zat ts top = 1 + p * u := by omega
    rw [e1]
    grind
  have hneg : (p : Int) ∣ (0 - q) % (p : Int) - (0 - q) := emod_dvd p _
  have hrb : ∀ j, j < n → 0 ≤ addf p rf (zat ts) ((0 - q) % (p : Int)) pl ts.length j ∧ addf p rf (zat ts) ((0 - q) % (p : Int)) pl ts.length j < p := fun j hj => by
    unfold addf
    split
    · exact emod_bounds _ p h3
    · exact h.rb j hj
  refine ⟨hrb, fun j hj => ?_, fun j hj => ?_, fun j h1 h2 => ?_, ?_, fun e => by omega, fun _ => ?_⟩
  · unfold Go.Proofs.YtpgnabmkfkcogaaGreatDoor.up
    split
    · exact hqb
    · exact h.qb j hj
  · unfold Go.Proofs.YtpgnabmkfkcogaaGreatDoor.up
    rw [if_neg (by omega)]
    exact h.q0 j (by omega)
  · by_cases e : j = pl + top
    · refine nonneg_dvd_zero (hrb j h2).1 (hrb j h2).2 ?_
      unfold addf
      rw [if_pos (by omega), e, Nat.add_sub_cancel_left, ← hx]
      have d1 := emod_dvd p (x + zat ts top * ((0 - q) % (p : Int)))
      obtain ⟨u, hu⟩ := hneg
      obtain ⟨v, hv⟩ := hc
      obtain ⟨s, hs⟩ := d1
      have e1 : (0 - q) % (p : Int) = p * u + (0 - q) := by omega
      refine ⟨s + v + zat ts top * u, ?_⟩
      have e2 : (x + zat ts top * ((0 - q) % (p : Int))) % (p : Int) = p * s + (x + zat ts top * ((0 - q) % (p : Int))) := by omega
      rw [e2, e1]
      grind
    · unfold addf
      rw [if_neg (by omega)]
      exact h.r0 j (by omega) h2
  · have hq' : lo m (Go.Proofs.YtpgnabmkfkcogaaGreatDoor.up qf pl q) = add (lo m qf) (sh pl (sc q Pol.one)) := by
      funext j
      simp only [lo, add, sh, sc, Pol.one, Go.Proofs.YtpgnabmkfkcogaaGreatDoor.up]
      by_cases e : j = pl
      · subst e
        rw [if_pos (by omega), if_pos rfl, if_pos (by omega), if_neg (by omega), h.q0 j (by omega)]
        simp
      · by_cases e2 : j < m
        · rw [if_pos e2, if_neg e, if_pos e2]
          by_cases e3 : j < pl
          · rw [if_pos e3]; omega
          · rw [if_neg e3, if_neg (by omega)]; omega
        · rw [if_neg e2, if_neg e2, if_neg (by omega), if_neg (by omega)]; simp
    have hr' : Eqp p (lo n (addf p rf (zat ts) ((0 - q) % (p : Int)) pl ts.length)) (sub (lo n rf) (sh pl (sc q (cf ts)))) := fun j => by
      simp only [lo, sub, sh, sc]
      by_cases e2 : j < n
      · rw [if_pos e2, if_pos e2]
        unfold addf
        by_cases e : pl ≤ j ∧ j < pl + ts.length
        · rw [if_pos e, if_neg (by omega)]
          obtain ⟨u, hu⟩ := hneg
          obtain ⟨s, hs⟩ := emod_dvd p (rf j + zat ts (j - pl) * ((0 - q) % (p : Int)))
          refine ⟨s + zat ts (j - pl) * u, ?_⟩
          have e3 : (0 - q) % (p : Int) = p * u + (0 - q) := by omega
          have e4 : (rf j + zat ts (j - pl) * ((0 - q) % (p : Int))) % (p : Int) = p * s + (rf j + zat ts (j - pl) * ((0 - q) % (p : Int))) := by omega
          rw [e4, e3, show cf ts (j - pl) = zat ts (j - pl) from rfl]
          grind
        · rw [if_neg e]
          by_cases e3 : j < pl
          · rw [if_pos e3]; simp
          · rw [if_neg e3, cf_ge (by omega)]; simp
      · rw [if_neg e2, if_neg e2, if_neg (by omega), cf_ge (by omega)]; simp
    rw [hq']
    refine h.eq.trans (Eqp.symm (((Eqp.refl p _).add hr').trans (Eqp.of_eq ?_)))
    rw [add_mul, sh_mul, sc_mul, one_mul]
    funext j
    simp only [add, sub]
    omega
  · unfold Go.Proofs.YtpgnabmkfkcogaaGreatDoor.up
    by_cases e : m - 1 = pl
    · rw [if_pos e]
      intro e0
      have i0 : i = 0 := by omega
      have hf := h.first i0 (n - 1) (by omega)
      rw [show pl + top = n - 1 from by omega, hf, hnl] at hx
      have hl := (trim_can (p := p) (by omega) az).last_nd (by omega)
      rw [e0, show (0 : Int) * zat ts top = 0 from by simp, Int.sub_zero, hx] at hc
      exact hl hc
    · rw [if_neg e]
      exact h.last (by omega)

theorem PD.done {p : Nat} (h3 : 3 ≤ p) {az ts : List Int} {m n top : Nat} {qf rf : Nat → Int} (htop : ts.length = top + 1) (h : PD p az ts m n top m qf rf) : IsD p az ts (ls qf m) (Pol.mk p rf n) := by
  have hb : ∀ j, n ≤ j → lo n rf j % (p : Int) = 0 := fun j hj => by simp only [lo]; rw [if_neg (by omega)]; simp
  have hcong : Pol.mk p rf n = Pol.mk p (lo n rf) n := by
    have ht : tp p rf n = tp p (lo n rf) n := tp_congr p _ _ n (fun j hj => by simp only [lo]; rw [if_pos hj])
    unfold Pol.mk
    rw [ht]
    refine List.map_congr_left (fun j hj => ?_)
    have := tp_le p (lo n rf) n
    have hj2 : j < tp p (lo n rf) n := List.mem_range.1 hj
    simp only [lo]
    rw [if_pos (by omega)]
  refine ⟨⟨fun j hj => ?_, fun hj => ?_⟩, mk_can (by omega) _ _, ?_, ?_⟩
  · rw [ls_len] at hj
    have := ls_at qf m j hj
    rw [show (ls qf m).getD j 0 = zat (ls qf m) j from rfl, this]
    exact h.qb j hj
  · rw [ls_len] at hj ⊢
    rw [show (ls qf m).getD (m - 1) 0 = zat (ls qf m) (m - 1) from rfl, ls_at _ _ _ (by omega)]
    exact h.last hj
  · rw [mk_length]
    have : tp p rf n ≤ top := by
      rcases Nat.lt_or_ge top (tp p rf n) with g | g
      · have h1 := tp_last p rf n (by omega)
        have h2 := tp_le p rf n
        rw [h.r0 _ (by omega) (by omega)] at h1
        simp at h1
      · exact g
    omega
  · refine h.eq.trans (Eqp.add (Eqp.mul_left _ (Eqp.of_eq ?_)) ?_)
    · funext j; simp only [lo]
      by_cases e : j < m
      · rw [if_pos e]; exact (ls_at qf m j e).symm
      · rw [if_neg e, cf_ge (by rw [ls_len]; omega)]
    · rw [hcong]; exact (mk_eqp hb).symm

end Go.Proofs.YtpgnabmkfkcogaaGreatDoor

namespace Go.Proofs.YtpgnabmkfkcogaaGreatDoor
open Go.RowKit

/-- what stands a place ahead -/
def bef (f : Nat → Int) (i : Nat) : Int := if i = 0 then 0 else f (i - 1)

/-- the last k of the first L places multiplied by x - root -/
def trf (p : Nat) (f : Nat → Int) (x : Int) (L k : Nat) : Nat → Int := fun j => if L - k ≤ j ∧ j < L then (bef f j - f j * x % (p : Int)) % (p : Int) else f j
theorem trf_zero (p : Nat) (f : Nat → Int) (x : Int) (L : Nat) : trf p f x L 0 = f := by
  funext j; unfold trf; rw [if_neg (by omega)]
theorem trf_succ (p : Nat) (f : Nat → Int) (x : Int) (L k : Nat) (hk : k < L) : up (trf p f x L k) (L - 1 - k) ((bef f (L - 1 - k) - f (L - 1 - k) * x % (p : Int)) % (p : Int)) = trf p f x L (k + 1) := by
  funext j; unfold up trf
  by_cases h : j = L - 1 - k
  · rw [if_pos h, if_pos (by omega), h]
  · rw [if_neg h]
    by_cases h2 : L - k ≤ j ∧ j < L
    · rw [if_pos h2, if_pos (by omega)]
    · rw [if_neg h2, if_neg (by omega)]
theorem trf_at (p : Nat) (f : Nat → Int) (x : Int) (L k j : Nat) (h : j < L - k) : trf p f x L k j = f j := by unfold trf; rw [if_neg (by omega)]

theorem before_any (g L cap i : Nat) (f : Nat → Int) (w : World) (hi : i < L) (hL : L ≤ 281474976710656) (hc : 0 < i → w.cell? ⟨g, i - 1, none⟩ = some (.int .i64 (f (i - 1)))) :
    Calls Tryz.prog 275 #[.slice (some ⟨g, 0, none⟩) L cap, .int .i64 i] w fun e w' => e = .returned (.int .i64 (bef f i)) ∧ w' = w := by
  by_cases h0 : i = 0
  · subst h0
    clear hc
    go_enter Tryz.func275, Tryz.ntmps275
    go_wp2_with fail
    go_ret
    exact ⟨ret_int rfl, rfl⟩
  · have hb : ((i : Int) == 0) = false := by rw [beq_eq_false_iff_ne]; omega
    have hcell := hc (by omega)
    have HV : Hid (bef f i = f (i - 1)) := by unfold Hid bef; rw [if_neg h0]
    obtain ⟨j, hj⟩ : ∃ j, j = i - 1 := ⟨_, rfl⟩
    have e1 : (i : Int) - 1 = (j : Int) := by omega
    have e2 : (j : Int) < (L : Int) := by omega
    rw [← hj] at hcell HV
    clear h0 hc hj
    generalize f j = y at *
    go_enter Tryz.func275, Tryz.ntmps275
    go_wp2_with fail
    go_ret
    exact ⟨ret_int HV.out.symm, rfl⟩

set_option maxHeartbeats 4000000 in
theorem troot_any (p b g n L cap : Nat) (f : Nat → Int) (x : Int) (w : World) (h3 : 3 ≤ p) (hm : p ≤ 2147483647) (hp : w.cell? ⟨b, 0, none⟩ = some (.int .i64 p)) (hbg : b ≠ g)
    (hn : n ≤ 281474976710656) (hL : L ≤ n) (hf : ∀ j, j < n → 0 ≤ f j ∧ f j < p) (hx1 : -9223372036854775808 ≤ x) (hx2 : x ≤ 9223372036854775807) (hC : Cells g 0 n f w) :
    Calls Tryz.prog 270 #[.pointer (some ⟨b, 0, none⟩), .slice (some ⟨g, 0, none⟩) L cap, .int .i64 x] w fun e w' =>
      e = .returned (.tuple #[]) ∧ Cells g 0 n (trf p f x L L) w' ∧ Only g w w' := by
  have HF := hid hf
  have HC0 := hid hC
  clear hf hC
  go_enter Tryz.func270, Tryz.ntmps270
  go_wp2_with fail
  go_loopw [10] (fun iv wr => ∃ (k : Nat), k ≤ L ∧ iv = .int .i64 k ∧ Hid (Cells g 0 n (trf p f x L k) wr) ∧ Hid (Only g w wr))
    (fun iv _ => L - (intOf iv).toNat)
  case atStart => exact ⟨0, Nat.zero_le _, rfl, by rw [trf_zero]; exact HC0, Only.refl _ _⟩
  case round =>
    obtain ⟨k, hk, rfl, hout, honly⟩ := hrel
    by_cases hlt : k < L
    · have hlt2 : (k : Int) < (L : Int) := by omega
      have HS := hid (trf_succ p f x L k hlt)
      obtain ⟨i, hi⟩ : ∃ i, i = L - 1 - k := ⟨_, rfl⟩
      rw [← hi] at HS
      have e1 : (L : Int) - 1 - (k : Int) = (i : Int) := by omega
      have e2 : (i : Int) < (L : Int) := by omega
      have hin : i < n := by omega
      have hok := hout.out.cells i hin
      have hos := hout.out.soft i hin
      rw [Nat.zero_add] at hok hos
      rw [trf_at p f x L k i (by omega)] at hok
      have hpc := (honly.out.cell (p := ⟨b, 0, none⟩) hbg).trans hp
      obtain ⟨hf1, hf2⟩ := HF.out i hin
      have hbf : 0 ≤ bef f i ∧ bef f i < p := by
        unfold bef
        split
        · omega
        · exact HF.out (i - 1) (by omega)
      have HBF : Hid (∀ W : World, Only g wr W → W.heap[g]? = wr.heap[g]? → Calls Tryz.prog 275 #[.slice (some ⟨g, 0, none⟩) L cap, .int .i64 i] W fun e w' => e = .returned (.int .i64 (bef f i)) ∧ w' = W) := fun W _ hb =>
        before_any g L cap i f W (by omega) (by omega) (fun h0 => by
          have := (hout.out.block hb).cells (i - 1) (by omega)
          rw [Nat.zero_add, trf_at p f x L k (i - 1) (by omega)] at this
          exact this)
      obtain ⟨hb1, hb2⟩ := emod_bounds (f i * x) p h3
      have HM : Hid (∀ w1 : World, w1.cell? ⟨b, 0, none⟩ = some (.int .i64 p) → Calls Tryz.prog 121 #[.pointer (some ⟨b, 0, none⟩), .int .i64 (f i), .int .i64 x] w1 fun e w' => e = .returned (.int .i64 (f i * x % p)) ∧ w' = w1) :=
        fun w1 h => mul_any p b _ _ w1 h3 hm h (by omega) (by omega) hx1 hx2
      have HA : Hid (∀ w1 : World, w1.cell? ⟨b, 0, none⟩ = some (.int .i64 p) → Calls Tryz.prog 139 #[.pointer (some ⟨b, 0, none⟩), .int .i64 (bef f i), .int .i64 (f i * x % (p : Int))] w1 fun e w' => e = .returned (.int .i64 ((bef f i - f i * x % (p : Int)) % p)) ∧ w' = w1) :=
        fun w1 h => sub_any p b _ _ w1 h3 hm h (by omega) (by omega) (by omega) (by omega)
      have HC := hid (hout.out.set ((bef f i - f i * x % (p : Int)) % (p : Int)) hin)
      have HB := hid (honly.out.setCell (p := ⟨g, 0 + i, none⟩) rfl (.int .i64 ((bef f i - f i * x % (p : Int)) % (p : Int))))
      rw [show up (trf p f x L k) i ((bef f i - f i * x % (p : Int)) % (p : Int)) = trf p f x L (k + 1) from HS.out, Nat.zero_add] at HC
      rw [Nat.zero_add] at HB
      clear HS hi
      generalize (bef f i - f i * x % (p : Int)) % (p : Int) = z at *
      generalize f i * x % (p : Int) = yx at *
      generalize bef f i = bf at *
      generalize f i = fi at *
      go_wp2_with fail
      go_region_with (first
        | (go_at_call 275; refine (HBF.out _ ?_ ?_).mono ?_; exact (Only.refl _ _).drew; rfl; rintro e w1 ⟨rfl, rfl⟩)
        | (go_at_call 121; refine (HM.out _ ?_).mono ?_; exact hpc; rintro e w1 ⟨rfl, rfl⟩)
        | (go_at_call 139; refine (HA.out _ ?_).mono ?_; exact hpc; rintro e w1 ⟨rfl, rfl⟩))
      all_goals
        go_wp2_with fail
        go_roundw
        case rel => exact ⟨k + 1, by omega, by go_num, HC.out.drew, HB.out.drew⟩
        case measure => simp [intOf]; omega
    · have hlt2 : ¬ (k : Int) < (L : Int) := by omega
      obtain rfl : k = L := by omega
      go_wp2_with fail
      go_end0
      exact ⟨rfl, hout.out, honly.out⟩

/-- the product of x - xs[i] of the first n, modulo p -/
def vn (p : Nat) (xs : List Int) (n : Nat) : Nat → Int := fun j => Pol.van (zat xs) n j % (p : Int)
theorem vn_zero (p : Nat) (xs : List Int) (h3 : 3 ≤ p) : vn p xs 0 = fun j => if j = 0 then 1 else 0 := by
  funext j; unfold vn; simp only [Pol.van, Pol.one]
  split
  · exact Int.emod_eq_of_lt (by omega) (by omega)
  · simp
theorem vn_succ (p : Nat) (xs : List Int) (n : Nat) : trf p (vn p xs n) (zat xs n) (n + 2) (n + 2) = vn p xs (n + 1) := by
  funext j
  unfold trf bef vn
  rw [Pol.van, Pol.mul_lin]
  simp only [Pol.sub, Pol.sh, Pol.sc]
  by_cases h : j < n + 2
  · rw [if_pos (by omega)]
    by_cases h0 : j = 0
    · subst h0
      rw [if_pos rfl, if_pos (by omega), Int.sub_emod 0, Int.emod_emod_of_dvd _ (Int.dvd_refl _), Int.mul_emod, Int.emod_emod_of_dvd _ (Int.dvd_refl _), ← Int.mul_emod, ← Int.sub_emod, Int.mul_comm]
    · rw [if_neg h0, if_neg (by omega), Int.sub_emod, Int.emod_emod_of_dvd _ (Int.dvd_refl _), Int.emod_emod_of_dvd _ (Int.dvd_refl _), Int.mul_emod, Int.emod_emod_of_dvd _ (Int.dvd_refl _), ← Int.mul_emod, ← Int.sub_emod, Int.mul_comm]
  · rw [if_neg (by omega), if_neg (by omega), Pol.van_zero _ _ _ (by omega), Pol.van_zero _ _ _ (by omega)]; simp
theorem vn_bounds (p : Nat) (xs : List Int) (n j : Nat) (h3 : 3 ≤ p) : 0 ≤ vn p xs n j ∧ vn p xs n j < p := emod_bounds _ p h3

/-- the list of Vanish -/
def pvan (p : Nat) (xs : List Int) : List Int := Pol.mk p (Pol.van (zat xs) xs.length) (xs.length + 1)
theorem pvan_list {p : Nat} (h3 : 3 ≤ p) (xs : List Int) : (pvan p xs).length = xs.length + 1 ∧ ∀ j, j < xs.length + 1 → zat (pvan p xs) j = vn p xs xs.length j := by
  have hl : (pvan p xs).length = xs.length + 1 := by
    rw [pvan, Pol.mk_length]
    refine Pol.tp_unique p _ _ _ (Nat.le_refl _) (fun j h1 h2 => by omega) (fun _ => ?_)
    rw [Nat.add_sub_cancel, Pol.van_top, Int.emod_eq_of_lt (by omega) (by omega)]
    omega
  refine ⟨hl, fun j hj => ?_⟩
  rw [← hl, pvan, Pol.mk_length] at hj
  exact Pol.mk_at p _ _ j hj

set_option maxHeartbeats 4000000 in
theorem vanish_any (p b cap : Nat) (a : Option Addr) (xs : List Int) (w : World) (h3 : 3 ≤ p) (hm : p ≤ 2147483647) (hp : w.cell? ⟨b, 0, none⟩ = some (.int .i64 p))
    (hn : xs.length ≤ 17592186043904) (hfit : Fits xs) (hrow : RowB w.heap.size w a xs) :
    Calls Tryz.prog 254 #[.pointer (some ⟨b, 0, none⟩), .slice a xs.length cap] w fun e w' => e = .returned (.slice (some ⟨w.heap.size, 0, none⟩) (pvan p xs).length (pvan p xs).length) ∧
      Cells w.heap.size 0 (pvan p xs).length (zat (pvan p xs)) w' ∧ Below w.heap.size w w' ∧ w'.heap.size = w.heap.size + 1 := by
  have hb : b < w.heap.size := heap_lt hp
  obtain ⟨hl, hz⟩ := pvan_list h3 xs
  rw [hl]
  have HZ := hid hz
  have HF := hid hfit
  have HR := hid hrow
  clear hz hl hfit hrow
  have hmk := fun n h1 h2 w => run_make_row' (P := Tryz.prog) 23 3 (.int .i64 0) 8 Tryz.underlying23 Tryz.infoInt rfl .i64 .i64 n h1 h2 w
  have hmk2 := hmk (xs.length + 1) (by omega) (by omega)
  clear hmk
  obtain ⟨m, hmd⟩ : ∃ m, m = xs.length + 1 := ⟨_, rfl⟩
  rw [← hmd] at hmk2 HZ ⊢
  have HMD := hid hmd
  have e0 : (xs.length : Int) + 1 = (m : Int) := by omega
  have e1 : (0 : Int) < (m : Int) := by omega
  have hml : m ≤ 17592186043905 := by omega
  clear hmd
  have hc0 : (w.alloc (.cells (madeCells #[.int .i64 0] m) 3)).cell? ⟨w.heap.size, 0, none⟩ = some (.int .i64 0) := by
    rw [World.cell?_alloc_at _ _ _ _ (by simp)]
    simp [madeCells, Nat.mod_one, show 0 < m by omega]
  have hs0 : (w.alloc (.cells (madeCells #[.int .i64 0] m) 3)).frozen? ⟨w.heap.size, 0, none⟩ = false := by simp
  go_enter Tryz.func254, Tryz.ntmps254
  go_wp2_with fail
  go_loopw [16] (fun iv wr => ∃ (k : Nat), k ≤ xs.length ∧ iv = .int .i64 k ∧ Hid (Cells w.heap.size 0 m (vn p xs k) wr) ∧ Hid (Below w.heap.size w wr) ∧ wr.heap.size = w.heap.size + 1)
    (fun iv _ => xs.length - (intOf iv).toNat)
  case atStart =>
    refine ⟨0, Nat.zero_le _, rfl, ⟨fun j hj => ?_, fun j hj => by simp⟩, (Below.refl w.heap.size w).alloc (Nat.le_refl _) _, by simp⟩
    rw [World.cell?_alloc_at _ _ _ _ (by simp), vn_zero p xs h3]
    by_cases h0 : j = 0
    · subst h0; simp [madeCells, hj]
    · simp [madeCells, hj, Nat.mod_one, h0, show ¬ 0 = j from fun e => h0 e.symm]
  case round =>
    obtain ⟨k, hk, rfl, hout, hbel, hsz⟩ := hrel
    by_cases hlt : k < xs.length
    · have hlt2 : (k : Int) < (xs.length : Int) := by omega
      obtain ⟨bl, ol, rfl, hbl, hcl⟩ := HR.out k hlt
      have hcl2 := (hbel.out.cell (p := ⟨bl, ol + k, none⟩) hbl).trans hcl
      obtain ⟨hx1, hx2⟩ := HF.out k hlt
      have hpc := (hbel.out.cell (p := ⟨b, 0, none⟩) hb).trans hp
      have hkm : k + 2 ≤ m := by have := HMD.out; omega
      have HT := hid (troot_any p b w.heap.size m (k + 2) m (vn p xs k) (zat xs k) wr h3 hm hpc (by omega) (by omega) hkm (fun j _ => vn_bounds p xs k j h3) hx1 hx2 hout.out)
      rw [vn_succ] at HT
      obtain ⟨L, hL⟩ : ∃ L, L = k + 2 := ⟨_, rfl⟩
      rw [← hL] at HT
      have e2 : (k : Int) + 2 = (L : Int) := by omega
      have e3 : (L : Int) ≤ (m : Int) := by omega
      have hLl : L ≤ m := by omega
      clear hL hcl
      generalize zat xs k = x at *
      go_wp2_with fail
      refine HT.out.mono ?_
      rintro e w2 ⟨rfl, hc2, ho2⟩
      have HC2 := hid hc2
      have HB2 : Hid (Below w.heap.size w w2) := hbel.out.trans (ho2.below (Nat.le_refl _))
      have hs2 : w2.heap.size = w.heap.size + 1 := by rw [ho2.size]; exact hsz
      clear hc2 ho2
      go_wp2_with fail
      go_roundw
      case rel => exact ⟨k + 1, by omega, by go_num, HC2, HB2, hs2⟩
      case measure => simp [intOf]; omega
    · have hlt2 : ¬ (k : Int) < (xs.length : Int) := by omega
      obtain rfl : k = xs.length := by omega
      go_wp2_with fail
      go_ret
      exact ⟨rfl, hout.out.congr (fun j hj => (HZ.out j hj).symm), hbel.out, hsz⟩

end Go.Proofs.YtpgnabmkfkcogaaGreatDoor
