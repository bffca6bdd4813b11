/- attestref2: Coefficients, Is. -/
import Derived.Test.YtfppkjpgihnibaaGreatDoorCods
namespace Go.Proofs.YtfppkjpgihnibaaGreatDoor
open Go.RowKit

/-- the reference's way back -/
def rcs (p : Nat) (zs : List Int) (n : Nat) (v m t : Int) : Nat → Int := fun j => psm p (zat zs) (pwz p v j) n * (m * t ^ j % (p : Int)) % (p : Int)

theorem rcs_coefs {p : Nat} (zs : List Int) (n : Nat) (v m t : Int) (j : Nat) (hj : j < n) : (p : Int) ∣ rcs p zs n v m t j - coefs p zs n v m t j := by
  unfold rcs coefs
  have h1 := Dom.ft_congr (p := p) (zat zs) v hj
  have h2 : (p : Int) ∣ psm p (zat zs) (pwz p v j) n - Pol.ps (zat zs) (v ^ j) n := by
    have e1 : (p : Int) ∣ psm p (zat zs) (pwz p v j) n - Pol.ps (zat zs) (pwz p v j) n := Pol.emod_dvd p _
    have e2 : (p : Int) ∣ Pol.ps (zat zs) (pwz p v j) n - Pol.ps (zat zs) (v ^ j) n := Dom.ps_point (zat zs) (Pol.emod_dvd p _) n
    have := Int.dvd_add e1 e2
    rwa [show ∀ a b c : Int, a - b + (b - c) = a - c from fun a b c => by omega] at this
  have h3 := Int.dvd_sub h2 h1
  have h4 := Int.dvd_mul_of_dvd_left (c := m * t ^ j % (p : Int)) h3
  have e1 := Pol.emod_dvd p (psm p (zat zs) (pwz p v j) n * (m * t ^ j % (p : Int)))
  have e2 := Pol.emod_dvd p (Dom.ft p (zat zs) v n j * (m * t ^ j % (p : Int)))
  have := Int.dvd_add (Int.dvd_sub e1 e2) h4
  rwa [show ∀ A B a b c X : Int, A - a * X - (B - b * X) + (a - c - (b - c)) * X = A - B from fun A B a b c X => by grind] at this

theorem rcs_trim {p : Nat} (hp : 0 < p) (zs : List Int) (n : Nat) (v m t : Int) : Pol.trim p (ls (rcs p zs n v m t) n) = Pol.trim p (ls (coefs p zs n v m t) n) := by
  refine Pol.trim_congr hp (fun j => ?_)
  by_cases hj : j < n
  · have e1 : Pol.cf (ls (rcs p zs n v m t) n) j = rcs p zs n v m t j := by have := ls_at (rcs p zs n v m t) n j hj; rw [zat_cf] at this; exact this
    have e2 : Pol.cf (ls (coefs p zs n v m t) n) j = coefs p zs n v m t j := by have := ls_at (coefs p zs n v m t) n j hj; rw [zat_cf] at this; exact this
    rw [e1, e2]
    exact rcs_coefs zs n v m t j hj
  · rw [Pol.cf_ge (by rw [ls_len]; omega), Pol.cf_ge (by rw [ls_len]; omega), Int.sub_self]; exact Int.dvd_zero _

theorem mt_succ (p : Nat) (m t : Int) (j : Nat) : m * t ^ j % (p : Int) * t % (p : Int) = m * t ^ (j + 1) % (p : Int) := by
  rw [Int.pow_succ, ← Int.mul_assoc, Int.mul_emod, Int.emod_emod_of_dvd _ (Int.dvd_refl _), ← Int.mul_emod]

set_option maxRecDepth 100000 in
set_option maxHeartbeats 2000000 in
theorem rcoef_any (q n cap : Nat) (r s : Int) (a : Option Addr) (zs : List Int) (w : World) (hpr : Num.Prime q) (h3 : 3 ≤ q) (h4 : q ≤ 2147483647) (hn0 : 0 < n) (hn : n ≤ 65536) (hr0 : 0 ≤ r) (hr1 : r < q) (hs0 : 0 ≤ s) (hs1 : s < q)
    (hlen : zs.length = n) (hfit : Fits zs) (hrow : RowB w.heap.size w a zs) :
    Calls Tryz.prog 41 #[.agg #[.int .i64 q, .int .i64 n, .int .i64 s, .int .i64 r], .slice a n cap] w fun e w' => ∃ a' c', e = .returned (.slice a' (bk q n r s zs).length c') ∧ Lst w'.heap.size w' a' c' (bk q n r s zs) ∧ Below w.heap.size w w' := by
  obtain ⟨i0, hi, hz0, hz1, hz2⟩ := info_parts Tryz.infoInt
  have HF := hid hfit
  have HR := hid hrow
  have HPR := hid hpr
  have HBK : Hid (bk q n r s zs = Pol.trim q (ls (rcs q zs n (invn q r) (invn q n) (invn q s)) n)) := (rcs_trim (by omega) zs n _ _ _).symm
  rw [HBK.out]
  have HI1 : Hid (∀ W : World, Calls Tryz.prog 95 #[.int .i64 q, .int .i64 n] W fun e w' => e = .returned (.int .i64 (invn q n : Int)) ∧ w' = W) := fun W => rinv_any q n W h3 h4 (by omega) (by omega)
  have HI2 : Hid (∀ W : World, Calls Tryz.prog 95 #[.int .i64 q, .int .i64 r] W fun e w' => e = .returned (.int .i64 (invn q r : Int)) ∧ w' = W) := fun W => rinv_any q r W h3 h4 (by omega) (by omega)
  have HI3 : Hid (∀ W : World, Calls Tryz.prog 95 #[.int .i64 q, .int .i64 s] W fun e w' => e = .returned (.int .i64 (invn q s : Int)) ∧ w' = W) := fun W => rinv_any q s W h3 h4 (by omega) (by omega)
  have il1 := invn_lt q n h3
  have il2 := invn_lt q r h3
  have il3 := invn_lt q s h3
  clear HBK hfit hrow hpr
  generalize invn q n = M at *
  generalize invn q r = V at *
  generalize invn q s = T at *
  obtain ⟨f, hf⟩ : ∃ f, f = rcs q zs n V M T := ⟨_, rfl⟩
  have HRB : Hid (∀ j, 0 ≤ f j ∧ f j < q) := fun j => by rw [hf]; exact emod_bounds _ q h3
  have HRCF : Hid (∀ k, psm q (zat zs) (pwz q V k) n * ((M : Int) * (T : Int) ^ k % (q : Int)) % (q : Int) = f k) := fun k => by rw [hf]; rfl
  rw [← hf]
  clear hf
  go_enter Tryz.func41, Tryz.ntmps41
  go_wp2_with fail
  have HC0 : Hid ((w.alloc (.cells #[.int .i64 q, .int .i64 n, .int .i64 s, .int .i64 r] 26)).cell? ⟨w.heap.size, 0, none⟩ = some (.int .i64 q)) := by unfold Hid; simp
  have HC1 : Hid ((w.alloc (.cells #[.int .i64 q, .int .i64 n, .int .i64 s, .int .i64 r] 26)).cell? ⟨w.heap.size, 1, none⟩ = some (.int .i64 n)) := by unfold Hid; simp
  have HC2 : Hid ((w.alloc (.cells #[.int .i64 q, .int .i64 n, .int .i64 s, .int .i64 r] 26)).cell? ⟨w.heap.size, 2, none⟩ = some (.int .i64 s)) := by unfold Hid; simp
  have HC3 : Hid ((w.alloc (.cells #[.int .i64 q, .int .i64 n, .int .i64 s, .int .i64 r] 26)).cell? ⟨w.heap.size, 3, none⟩ = some (.int .i64 r)) := by unfold Hid; simp
  have HB0 : Hid (Below w.heap.size w (w.alloc (.cells #[.int .i64 q, .int .i64 n, .int .i64 s, .int .i64 r] 26))) := (Below.refl _ _).alloc (Nat.le_refl _) _
  have hs0x : w.heap.size < (w.alloc (.cells #[.int .i64 q, .int .i64 n, .int .i64 s, .int .i64 r] 26)).heap.size := by simp
  refine (HI1.out _).mono ?_
  generalize w.alloc (.cells #[.int .i64 q, .int .i64 n, .int .i64 s, .int .i64 r] 26) = W0 at *
  rintro e W1 ⟨rfl, rfl⟩
  have z0 := HC0.out
  have z1 := HC1.out
  have z2 := HC2.out
  have z3 := HC3.out
  go_wp2_with fail
  refine (HI2.out _).mono ?_
  rintro e W2 ⟨rfl, rfl⟩
  go_wp2_with fail
  refine (HI3.out _).mono ?_
  rintro e W0 ⟨rfl, rfl⟩
  clear z0 z1 z2 z3 HI1 HI2 HI3
  go_wp2_with fail
  go_loopw [5, 9, 10, 11] (fun v sv pv jv wr => ∃ k : Nat, k ≤ n ∧ jv = .int .i64 k ∧ sv = .int .i64 (pwz q V k) ∧ pv = .int .i64 ((M : Int) * (T : Int) ^ k % (q : Int)) ∧ wr.ownsRow W0.heap.size 3 1 v (ls f k).length ((ls f k).map (Value.int .i64)) ∧ Below W0.heap.size W0 wr)
    (fun _ _ _ jv _ => n - (intOf jv).toNat)
  case atStart =>
    refine ⟨0, Nat.zero_le _, rfl, ?_, ?_, World.ownsRow_nil _ _ _ _, Below.refl _ _⟩
    · have : pwz q V 0 = 1 := by unfold pwz; rw [Int.pow_zero]; exact Int.emod_eq_of_lt (by omega) (by omega)
      rw [this]
    · rw [Int.pow_zero, Int.mul_one, Int.emod_eq_of_lt (by omega) (by omega)]
  case round =>
    obtain ⟨k, hk, rfl, rfl, rfl, hown, hbel⟩ := hrel
    obtain ⟨wo, rfl⟩ : ∃ wo, wo = wr := ⟨_, rfl⟩
    have hsz := hbel.size
    have d0 := (hbel.cell (p := ⟨w.heap.size, 0, none⟩) hs0x).trans HC0.out
    have d1 := (hbel.cell (p := ⟨w.heap.size, 1, none⟩) hs0x).trans HC1.out
    by_cases hlt : k < n
    · have hlt2 : (k : Int) < (n : Int) := by omega
      have HLS := hid (ls_succ f k)
      have HLL := hid (ls_len f k)
      have HRW : Hid (RowB w.heap.size wo a zs) := HR.out.below (HB0.out.trans (hbel.mono (by omega)))
      obtain ⟨st1, st2⟩ := emod_bounds ((V : Int) ^ k) q h3
      rw [show (V : Int) ^ k % (q : Int) = pwz q V k from rfl] at st1 st2
      obtain ⟨pw1, pw2⟩ := emod_bounds ((M : Int) * (T : Int) ^ k) q h3
      have HRC := hid (HRCF.out k)
      have HSV := hid (pwz_succ q V k)
      have HPV := hid (mt_succ q (M : Int) (T : Int) k)
      obtain ⟨rb1, rb2⟩ := HRB.out k
      obtain ⟨sn, hsn⟩ : ∃ sn, sn = pwz q V (k + 1) := ⟨_, rfl⟩
      obtain ⟨pn, hpn⟩ : ∃ pn, pn = (M : Int) * (T : Int) ^ (k + 1) % (q : Int) := ⟨_, rfl⟩
      have HSN := hid hsn
      have HPN := hid hpn
      rw [← hsn] at HSV
      rw [← hpn] at HPV
      clear hsn hpn
      generalize (M : Int) * (T : Int) ^ k % (q : Int) = pk' at *
      generalize pwz q V k = st at *
      generalize f k = rk at *
      generalize ls f k = lk at *
      go_wp2_with fail
      go_loopw [12, 13, 14] (fun xv sv iv wi => ∃ i m : Nat, i ≤ n ∧ iv = .int .i64 i ∧ sv = .int .i64 (psm q (zat zs) st i) ∧ xv = .int .i64 (pwz q st i) ∧ Hid (wi = wo.drewN m)) (fun _ _ iv _ => n - (intOf iv).toNat)
      case atStart => exact ⟨0, 0, Nat.zero_le _, rfl, by simp [psm, Pol.ps], by
        have : pwz q st 0 = 1 := by unfold pwz; rw [Int.pow_zero]; exact Int.emod_eq_of_lt (by omega) (by omega)
        rw [this], rfl⟩
      case round =>
        obtain ⟨i, m, hii, rfl, rfl, rfl, HW⟩ := hrel
        have d0' : wr.cell? ⟨w.heap.size, 0, none⟩ = some (.int .i64 q) := by rw [HW.out]; exact d0
        have d1' : wr.cell? ⟨w.heap.size, 1, none⟩ = some (.int .i64 n) := by rw [HW.out]; exact d1
        obtain ⟨ss1, ss2⟩ := emod_bounds (Pol.ps (zat zs) st i) q h3
        rw [show Pol.ps (zat zs) st i % (q : Int) = psm q (zat zs) st i from rfl] at ss1 ss2
        by_cases hil : i < n
        · have hil2 : (i : Int) < (n : Int) := by omega
          obtain ⟨bl, ol, rfl, hbl, hcl⟩ := HRW.out i (by omega)
          have hcl' : wr.cell? ⟨bl, ol + i, none⟩ = some (.int .i64 (zat zs i)) := by rw [HW.out]; exact hcl
          clear hcl
          obtain ⟨y1, y2⟩ := HF.out i (by omega)
          have HS := hid (psm_succ q (zat zs) st i)
          have HQ := hid (pwz_succ q st i)
          obtain ⟨hq1, hq2⟩ := emod_bounds (st ^ i) q h3
          rw [show st ^ i % (q : Int) = pwz q st i from rfl] at hq1 hq2
          obtain ⟨hm1, hm2⟩ := emod_bounds (zat zs i * pwz q st i) q h3
          have HM1 := hid (fun W : World => rmul_any q (zat zs i) (pwz q st i) W h3 h4 y1 y2 (by omega) (by omega))
          have HM2 := hid (fun W : World => rmul_any q (pwz q st i) st W h3 h4 (by omega) (by omega) (by omega) (by omega))
          generalize zat zs i * pwz q st i % (q : Int) = yq at *
          generalize zat zs i = y at *
          generalize pwz q st i * st % (q : Int) = qx at *
          generalize pwz q st i = qk at *
          generalize psm q (zat zs) st i = sk at *
          go_wp2_with fail
          go_quiet (first
            | (go_at_call 96; exact Calls.quiet_of_same (HM1.out _)))
          have HW2 : Hid (wr.drewN nq = wo.drewN (m + nq)) := by unfold Hid; rw [HW.out, World.drewN_drewN]
          have d2 : (wr.drewN nq).cell? ⟨w.heap.size, 0, none⟩ = some (.int .i64 q) := d0'
          clear d0' d1' hcl'
          generalize wr.drewN nq = X at *
          go_wp2_with fail
          refine (HM2.out _).mono ?_
          rintro e w1 ⟨rfl, rfl⟩
          go_wp2_with fail
          go_roundw
          case rel => exact ⟨i + 1, m + nq, by omega, by go_num, by rw [← HS.out], by rw [← HQ.out], HW2⟩
          case measure => simp [intOf]; omega
        · have hil2 : ¬ (i : Int) < (n : Int) := by omega
          obtain rfl : i = n := by omega
          have hown' : wr.ownsRow W0.heap.size 3 1 u5 lk.length (lk.map (Value.int .i64)) := by rw [HW.out]; exact hown
          have hbel' : Below W0.heap.size W0 wr := by rw [HW.out]; exact below_drewN hbel m
          have hsz' := hbel'.size
          clear hown hbel d0 d1
          have HMC := hid (rmul_any q (psm q (zat zs) st i) pk' wr h3 h4 (by omega) (by omega) (by omega) (by omega))
          rw [HRC.out] at HMC
          generalize psm q (zat zs) st i = ps' at *
          have HMS : Hid (∀ W : World, Calls Tryz.prog 96 #[.int .i64 q, .int .i64 st, .int .i64 V] W fun e w' => e = .returned (.int .i64 sn) ∧ w' = W) := fun W => by rw [← HSV.out]; exact rmul_any q st V W h3 h4 (by omega) (by omega) (by omega) (by omega)
          have HMP : Hid (∀ W : World, Calls Tryz.prog 96 #[.int .i64 q, .int .i64 pk', .int .i64 T] W fun e w' => e = .returned (.int .i64 pn) ∧ w' = W) := fun W => by rw [← HPV.out]; exact rmul_any q pk' T W h3 h4 (by omega) (by omega) (by omega) (by omega)
          go_wp2_with fail
          refine HMC.out.mono ?_
          rintro e w1 ⟨rfl, rfl⟩
          go_wp2_with (at_builtin; refine wpList_append_own _ rfl _ _ 22 rfl W0.heap.size 3 i0 (.int .i64 0) 1 8 Tryz.underlying22 hi hz0 hz1 hz2 rfl (by decide) _ _ _ rfl (hown'.alloc _) ⟨w1.heap.size, 0, none⟩ 1 1 [.int .i64 rk] rfl rfl ?c1 ?c2 ?c3 ?c4 ?c5 ?_)
          case c1 =>
            intro j u hj
            match j, hj with
            | 0, hj => simp at hj; subst hj; simp [Addr.add]
          case c2 => intro u hu; simp at hu; subst hu; rfl
          case c3 => have := HLL.out; unfold maxLen; omega
          case c4 => have := HLL.out; omega
          case c5 => simp; omega
          intro v' w5 hown2 hgrow _
          have hown3 := owns_succ hown2
          have HB : Hid (Below W0.heap.size W0 w5) := (hbel'.alloc hsz' _).grown hgrow (by simp; omega) (fun k hk => (hown'.lt k hk).1)
          have HO := hid hown3
          have f0 := (HB.out.cell (p := ⟨w.heap.size, 0, none⟩) hs0x).trans HC0.out
          clear hown2 hown3 hgrow hown' hbel' d0' d1'
          go_wp2_with fail
          refine (HMS.out _).mono ?_
          rintro e w6 ⟨rfl, rfl⟩
          go_wp2_with fail
          refine (HMP.out _).mono ?_
          rintro e w7 ⟨rfl, rfl⟩
          go_wp2_with fail
          go_roundw
          case rel => exact ⟨k + 1, by omega, by go_num, by rw [HSN.out], by rw [HPN.out], by rw [HLS.out]; exact HO.out, HB.out⟩
          case measure => simp [intOf]; omega
    · have hlt2 : ¬ (k : Int) < (n : Int) := by omega
      obtain rfl : k = n := by omega
      have hll := ls_len f k
      obtain ⟨a', c', rfl, hl⟩ := lst_of_owns hown
      have HT := hid (rtrim_any q c' a' (ls f k) wo h3 h4 (by rw [hll]; omega) (fun j hj => by rw [hll] at hj; rw [ls_at _ _ _ hj]; have := HRB.out j; omega) hl)
      have HBW : Hid (Below w.heap.size w wo) := HB0.out.trans (hbel.mono (by omega))
      rw [hll] at HT
      rw [hll]
      clear hown hl hbel hll
      go_wp2_with fail
      refine HT.out.mono ?_
      rintro e w2 ⟨a2, c2, rfl, hl2, hb2⟩
      have HE : Hid (Lst w2.heap.size w2 a2 c2 (Pol.trim q (ls f k)) ∧ Below w.heap.size w w2) := ⟨hl2, HBW.out.trans (hb2.mono HBW.out.size)⟩
      clear hl2 hb2
      go_wp2_with fail
      go_ret
      exact ⟨a2, c2, rfl, HE.out⟩

set_option maxRecDepth 100000 in
set_option maxHeartbeats 1000000 in
theorem ris_any (q n cap : Nat) (k r s : Int) (a : Option Addr) (zs : List Int) (w : World) (hpr : Num.Prime q) (h3 : 3 ≤ q) (h4 : q ≤ 2147483647) (hn0 : 0 < n) (hn : n ≤ 65536) (hr0 : 0 ≤ r) (hr1 : r < q) (hs0 : 0 ≤ s) (hs1 : s < q)
    (hk1 : -9223372036854775808 ≤ k) (hk2 : k ≤ 9223372036854775807) (_hl : zs.length ≤ 281474976710656) (hfit : Fits zs) (hrow : RowB w.heap.size w a zs) :
    Calls Tryz.prog 10 #[.agg #[.int .i64 q, .int .i64 n, .int .i64 s, .int .i64 r], .int .i64 k, .slice a zs.length cap] w fun e w' =>
      e = .returned (.bool (decide (1 ≤ k ∧ k ≤ n ∧ zs.length = n ∧ ((bk q n r s zs).length : Int) ≤ k))) ∧ Below w.heap.size w w' := by
  have HR := hid hrow
  have HC0 : Hid ((w.alloc (.cells #[.int .i64 q, .int .i64 n, .int .i64 s, .int .i64 r] 26)).cell? ⟨w.heap.size, 0, none⟩ = some (.int .i64 q)) := by unfold Hid; simp
  have HC1 : Hid ((w.alloc (.cells #[.int .i64 q, .int .i64 n, .int .i64 s, .int .i64 r] 26)).cell? ⟨w.heap.size, 1, none⟩ = some (.int .i64 n)) := by unfold Hid; simp
  have HC2 : Hid ((w.alloc (.cells #[.int .i64 q, .int .i64 n, .int .i64 s, .int .i64 r] 26)).cell? ⟨w.heap.size, 2, none⟩ = some (.int .i64 s)) := by unfold Hid; simp
  have HC3 : Hid ((w.alloc (.cells #[.int .i64 q, .int .i64 n, .int .i64 s, .int .i64 r] 26)).cell? ⟨w.heap.size, 3, none⟩ = some (.int .i64 r)) := by unfold Hid; simp
  have HB0 : Hid (Below w.heap.size w (w.alloc (.cells #[.int .i64 q, .int .i64 n, .int .i64 s, .int .i64 r] 26))) := (Below.refl _ _).alloc (Nat.le_refl _) _
  have hs0x : w.heap.size < (w.alloc (.cells #[.int .i64 q, .int .i64 n, .int .i64 s, .int .i64 r] 26)).heap.size := by simp
  clear hrow
  by_cases h1 : 1 ≤ k
  · have g1 : ¬ k < 1 := by omega
    by_cases h2 : k ≤ n
    · have g2 : ¬ (n : Int) < k := by omega
      by_cases hz : zs.length = n
      · have HRC : Hid (∀ W : World, RowB W.heap.size W a zs → Calls Tryz.prog 41 #[.agg #[.int .i64 q, .int .i64 n, .int .i64 s, .int .i64 r], .slice a n cap] W fun e w' => ∃ a' c', e = .returned (.slice a' (bk q n r s zs).length c') ∧ Lst w'.heap.size w' a' c' (bk q n r s zs) ∧ Below W.heap.size W w') := fun W h => rcoef_any q n cap r s a zs W hpr h3 h4 hn0 hn hr0 hr1 hs0 hs1 hz hfit h
        have g3 : ((n : Int) != (n : Int)) = false := by simp
        have hbl := bk_len q n r s zs
        rw [hz]
        have HDE : Hid (decide (1 ≤ k ∧ k ≤ (n : Int) ∧ n = n ∧ ((bk q n r s zs).length : Int) ≤ k) = decide (((bk q n r s zs).length : Int) ≤ k)) := by
          unfold Hid; simp [h1, h2]
        rw [HDE.out]
        clear hz hfit hpr
        generalize bk q n r s zs = B at *
        clear HDE
        go_enter Tryz.func10, Tryz.ntmps10
        go_wp2_with fail
        generalize w.alloc (.cells #[.int .i64 q, .int .i64 n, .int .i64 s, .int .i64 r] 26) = W0 at *
        have z0 := HC0.out
        have z1 := HC1.out
        have z2 := HC2.out
        have z3 := HC3.out
        go_wp2_with fail
        refine (HRC.out _ ((HR.out.below HB0.out).mono HB0.out.size)).mono ?_
        rintro e w2 ⟨a2, c2, rfl, hl2, hb2⟩
        have HB2 : Hid (Below w.heap.size w w2) := HB0.out.trans (hb2.mono HB0.out.size)
        clear hl2 hb2
        go_wp2_with fail
        go_ret
        exact ⟨rfl, HB2.out⟩
      · have g3 : ((zs.length : Int) != (n : Int)) = true := by rw [bne_iff_ne]; omega
        rw [decide_eq_false (fun h => hz h.2.2.1)]
        clear hz hfit hpr
        go_enter Tryz.func10, Tryz.ntmps10
        go_wp2_with fail
        go_ret
        exact ⟨rfl, HB0.out⟩
    · have g2 : (n : Int) < k := by omega
      rw [decide_eq_false (fun h => h2 h.2.1)]
      clear hfit hpr
      go_enter Tryz.func10, Tryz.ntmps10
      go_wp2_with fail
      go_ret
      exact ⟨rfl, HB0.out⟩
  · have g1 : k < 1 := by omega
    rw [decide_eq_false (fun h => h1 h.1)]
    clear hfit hpr
    go_enter Tryz.func10, Tryz.ntmps10
    go_wp2_with fail
    go_ret
    exact ⟨rfl, HB0.out⟩

end Go.Proofs.YtfppkjpgihnibaaGreatDoor
