/- attestref1.Trim, attestref2.Coefficients: lists in blocks of numbers. -/
import Derived.Test.YtfppkjpgihnibaaGreatDoorFolz
import Derived.Test.YtfppkjpgihnibaaGreatDoorRefF
import Derived.Test.YtfppkjpgihnibaaGreatDoorRefs
namespace Go.Proofs.YtfppkjpgihnibaaGreatDoor
open Go.RowKit

theorem rall_num (p n cap : Nat) (a : Option Addr) (f : Nat → Int) (w : World) (h3 : 3 ≤ p) (hm : p ≤ 2147483647)
    (hn : n ≤ 17592186044416) (hfit : FitsF n f) (hrow : RowF (· < w.heap.size) w a n f) :
    Calls Tryz.prog 106 #[.int .i64 p, .slice a n cap] w fun e w' => ∃ a' c', e = .returned (.slice a' n c') ∧ NumL w' a' c' (ls (fun j => f j % (p : Int)) n) ∧ Below w.heap.size w w' :=
  (rall_own p n cap a f w h3 hm hn hfit hrow).mono fun e w' ⟨v, h1, h2, h5⟩ => by
    obtain ⟨a', c', rfl, hl⟩ := numL_of_owns h2
    rw [ls_len] at h1
    exact ⟨a', c', h1, hl, h5⟩


theorem rtrim_num (p cap : Nat) (a : Option Addr) (zs : List Int) (w : World) (h3 : 3 ≤ p) (hm : p ≤ 2147483647)
    (hn : zs.length ≤ 17592186044416) (hfit : Fits zs) (hl : Lst w.heap.size w a cap zs) :
    Calls Tryz.prog 97 #[.int .i64 p, .slice a zs.length cap] w fun e w' => ∃ a' c', e = .returned (.slice a' (Pol.trim p zs).length c') ∧ NumL w' a' c' (Pol.trim p zs) ∧ Below w.heap.size w w' := by
  have HD := hid (rdeg_any p zs.length cap (· < w.heap.size) a (zat zs) w h3 hm (by omega) hfit hl.row)
  have hle := tpn_le p (zat zs) zs.length
  have HA := hid (rall_num p (tpn p (zat zs) zs.length) cap a (zat zs) w h3 hm (by omega) (fun j hj => hfit j (by omega)) (fun j hj => hl.row j (by omega)))
  have HE : Hid (ls (fun j => zat zs j % (p : Int)) (tpn p (zat zs) zs.length) = Pol.trim p zs) := rfl
  have HL : Hid ((Pol.trim p zs).length = tpn p (zat zs) zs.length) := Pol.mk_length _ _ _
  rw [HE.out] at HA
  have hroom := hl.room
  have hnil := hl.nil
  have HN := hid hnil
  clear hfit hl hnil HE
  generalize tpn p (zat zs) zs.length = t at *
  generalize Pol.trim p zs = ts at *
  have e1 : (t : Int) - 1 + 1 = (t : Int) := by omega
  have ht : (t : Int) ≤ (cap : Int) := by omega
  cases a with
  | none =>
    obtain rfl : cap = 0 := HN.out rfl
    obtain rfl : t = 0 := by omega
    go_enter Tryz.func97, Tryz.ntmps97
    go_wp2_with fail
    refine HD.out.mono ?_
    rintro e w1 ⟨rfl, rfl⟩
    go_wp2_with fail
    refine HA.out.mono ?_
    rintro e w1 ⟨a', c', rfl, hl, hb⟩
    have HLL := hid hl
    have HB := hid hb
    clear hl hb
    go_wp2_with fail
    go_ret
    exact ⟨_, _, ret_slice HL.out.symm, HLL.out, HB.out⟩
  | some ad =>
    go_enter Tryz.func97, Tryz.ntmps97
    go_wp2_with fail
    refine HD.out.mono ?_
    rintro e w1 ⟨rfl, rfl⟩
    go_wp2_with fail
    refine HA.out.mono ?_
    rintro e w1 ⟨a', c', rfl, hl, hb⟩
    have HLL := hid hl
    have HB := hid hb
    clear hl hb
    go_wp2_with fail
    go_ret
    exact ⟨_, _, ret_slice HL.out.symm, HLL.out, HB.out⟩

set_option maxRecDepth 100000 in
set_option maxHeartbeats 2000000 in
theorem rcoef_num (q n cap : Nat) (r s : Int) (a : Option Addr) (zs : List Int) (w : World) (hpr : Num.Prime q) (h3 : 3 ≤ q) (h4 : q ≤ 2147483647) (hn0 : 0 < n) (hn : n ≤ 65536) (hr0 : 0 ≤ r) (hr1 : r < q) (hs0 : 0 ≤ s) (hs1 : s < q)
    (hlen : zs.length = n) (hfit : Fits zs) (hrow : RowB w.heap.size w a zs) :
    Calls Tryz.prog 41 #[.agg #[.int .i64 q, .int .i64 n, .int .i64 s, .int .i64 r], .slice a n cap] w fun e w' => ∃ a' c', e = .returned (.slice a' (bk q n r s zs).length c') ∧ NumL w' a' c' (bk q n r s zs) ∧ Below w.heap.size w w' := by
  obtain ⟨i0, hi, hz0, hz1, hz2⟩ := info_parts Tryz.infoInt
  have HF := hid hfit
  have HR := hid hrow
  have HPR := hid hpr
  have HBK : Hid (bk q n r s zs = Pol.trim q (ls (rcs q zs n (invn q r) (invn q n) (invn q s)) n)) := (rcs_trim (by omega) zs n _ _ _).symm
  rw [HBK.out]
  have HI1 : Hid (∀ W : World, Calls Tryz.prog 95 #[.int .i64 q, .int .i64 n] W fun e w' => e = .returned (.int .i64 (invn q n : Int)) ∧ w' = W) := fun W => rinv_any q n W h3 h4 (by omega) (by omega)
  have HI2 : Hid (∀ W : World, Calls Tryz.prog 95 #[.int .i64 q, .int .i64 r] W fun e w' => e = .returned (.int .i64 (invn q r : Int)) ∧ w' = W) := fun W => rinv_any q r W h3 h4 (by omega) (by omega)
  have HI3 : Hid (∀ W : World, Calls Tryz.prog 95 #[.int .i64 q, .int .i64 s] W fun e w' => e = .returned (.int .i64 (invn q s : Int)) ∧ w' = W) := fun W => rinv_any q s W h3 h4 (by omega) (by omega)
  have il1 := invn_lt q n h3
  have il2 := invn_lt q r h3
  have il3 := invn_lt q s h3
  clear HBK hfit hrow hpr
  generalize invn q n = M at *
  generalize invn q r = V at *
  generalize invn q s = T at *
  obtain ⟨f, hf⟩ : ∃ f, f = rcs q zs n V M T := ⟨_, rfl⟩
  have HRB : Hid (∀ j, 0 ≤ f j ∧ f j < q) := fun j => by rw [hf]; exact emod_bounds _ q h3
  have HRCF : Hid (∀ k, psm q (zat zs) (pwz q V k) n * ((M : Int) * (T : Int) ^ k % (q : Int)) % (q : Int) = f k) := fun k => by rw [hf]; rfl
  rw [← hf]
  clear hf
  go_enter Tryz.func41, Tryz.ntmps41
  go_wp2_with fail
  have HC0 : Hid ((w.alloc (.cells #[.int .i64 q, .int .i64 n, .int .i64 s, .int .i64 r] 26)).cell? ⟨w.heap.size, 0, none⟩ = some (.int .i64 q)) := by unfold Hid; simp
  have HC1 : Hid ((w.alloc (.cells #[.int .i64 q, .int .i64 n, .int .i64 s, .int .i64 r] 26)).cell? ⟨w.heap.size, 1, none⟩ = some (.int .i64 n)) := by unfold Hid; simp
  have HC2 : Hid ((w.alloc (.cells #[.int .i64 q, .int .i64 n, .int .i64 s, .int .i64 r] 26)).cell? ⟨w.heap.size, 2, none⟩ = some (.int .i64 s)) := by unfold Hid; simp
  have HC3 : Hid ((w.alloc (.cells #[.int .i64 q, .int .i64 n, .int .i64 s, .int .i64 r] 26)).cell? ⟨w.heap.size, 3, none⟩ = some (.int .i64 r)) := by unfold Hid; simp
  have HB0 : Hid (Below w.heap.size w (w.alloc (.cells #[.int .i64 q, .int .i64 n, .int .i64 s, .int .i64 r] 26))) := (Below.refl _ _).alloc (Nat.le_refl _) _
  have hs0x : w.heap.size < (w.alloc (.cells #[.int .i64 q, .int .i64 n, .int .i64 s, .int .i64 r] 26)).heap.size := by simp
  refine (HI1.out _).mono ?_
  generalize w.alloc (.cells #[.int .i64 q, .int .i64 n, .int .i64 s, .int .i64 r] 26) = W0 at *
  rintro e W1 ⟨rfl, rfl⟩
  have z0 := HC0.out
  have z1 := HC1.out
  have z2 := HC2.out
  have z3 := HC3.out
  go_wp2_with fail
  refine (HI2.out _).mono ?_
  rintro e W2 ⟨rfl, rfl⟩
  go_wp2_with fail
  refine (HI3.out _).mono ?_
  rintro e W0 ⟨rfl, rfl⟩
  clear z0 z1 z2 z3 HI1 HI2 HI3
  go_wp2_with fail
  go_loopw [5, 9, 10, 11] (fun v sv pv jv wr => ∃ k : Nat, k ≤ n ∧ jv = .int .i64 k ∧ sv = .int .i64 (pwz q V k) ∧ pv = .int .i64 ((M : Int) * (T : Int) ^ k % (q : Int)) ∧ wr.ownsRow W0.heap.size 3 1 v (ls f k).length ((ls f k).map (Value.int .i64)) ∧ Below W0.heap.size W0 wr)
    (fun _ _ _ jv _ => n - (intOf jv).toNat)
  case atStart =>
    refine ⟨0, Nat.zero_le _, rfl, ?_, ?_, World.ownsRow_nil _ _ _ _, Below.refl _ _⟩
    · have : pwz q V 0 = 1 := by unfold pwz; rw [Int.pow_zero]; exact Int.emod_eq_of_lt (by omega) (by omega)
      rw [this]
    · rw [Int.pow_zero, Int.mul_one, Int.emod_eq_of_lt (by omega) (by omega)]
  case round =>
    obtain ⟨k, hk, rfl, rfl, rfl, hown, hbel⟩ := hrel
    obtain ⟨wo, rfl⟩ : ∃ wo, wo = wr := ⟨_, rfl⟩
    have hsz := hbel.size
    have d0 := (hbel.cell (p := ⟨w.heap.size, 0, none⟩) hs0x).trans HC0.out
    have d1 := (hbel.cell (p := ⟨w.heap.size, 1, none⟩) hs0x).trans HC1.out
    by_cases hlt : k < n
    · have hlt2 : (k : Int) < (n : Int) := by omega
      have HLS := hid (ls_succ f k)
      have HLL := hid (ls_len f k)
      have HRW : Hid (RowB w.heap.size wo a zs) := HR.out.below (HB0.out.trans (hbel.mono (by omega)))
      obtain ⟨st1, st2⟩ := emod_bounds ((V : Int) ^ k) q h3
      rw [show (V : Int) ^ k % (q : Int) = pwz q V k from rfl] at st1 st2
      obtain ⟨pw1, pw2⟩ := emod_bounds ((M : Int) * (T : Int) ^ k) q h3
      have HRC := hid (HRCF.out k)
      have HSV := hid (pwz_succ q V k)
      have HPV := hid (mt_succ q (M : Int) (T : Int) k)
      obtain ⟨rb1, rb2⟩ := HRB.out k
      obtain ⟨sn, hsn⟩ : ∃ sn, sn = pwz q V (k + 1) := ⟨_, rfl⟩
      obtain ⟨pn, hpn⟩ : ∃ pn, pn = (M : Int) * (T : Int) ^ (k + 1) % (q : Int) := ⟨_, rfl⟩
      have HSN := hid hsn
      have HPN := hid hpn
      rw [← hsn] at HSV
      rw [← hpn] at HPV
      clear hsn hpn
      generalize (M : Int) * (T : Int) ^ k % (q : Int) = pk' at *
      generalize pwz q V k = st at *
      generalize f k = rk at *
      generalize ls f k = lk at *
      go_wp2_with fail
      go_loopw [12, 13, 14] (fun xv sv iv wi => ∃ i m : Nat, i ≤ n ∧ iv = .int .i64 i ∧ sv = .int .i64 (psm q (zat zs) st i) ∧ xv = .int .i64 (pwz q st i) ∧ Hid (wi = wo.drewN m)) (fun _ _ iv _ => n - (intOf iv).toNat)
      case atStart => exact ⟨0, 0, Nat.zero_le _, rfl, by simp [psm, Pol.ps], by
        have : pwz q st 0 = 1 := by unfold pwz; rw [Int.pow_zero]; exact Int.emod_eq_of_lt (by omega) (by omega)
        rw [this], rfl⟩
      case round =>
        obtain ⟨i, m, hii, rfl, rfl, rfl, HW⟩ := hrel
        have d0' : wr.cell? ⟨w.heap.size, 0, none⟩ = some (.int .i64 q) := by rw [HW.out]; exact d0
        have d1' : wr.cell? ⟨w.heap.size, 1, none⟩ = some (.int .i64 n) := by rw [HW.out]; exact d1
        obtain ⟨ss1, ss2⟩ := emod_bounds (Pol.ps (zat zs) st i) q h3
        rw [show Pol.ps (zat zs) st i % (q : Int) = psm q (zat zs) st i from rfl] at ss1 ss2
        by_cases hil : i < n
        · have hil2 : (i : Int) < (n : Int) := by omega
          obtain ⟨bl, ol, rfl, hbl, hcl⟩ := HRW.out i (by omega)
          have hcl' : wr.cell? ⟨bl, ol + i, none⟩ = some (.int .i64 (zat zs i)) := by rw [HW.out]; exact hcl
          clear hcl
          obtain ⟨y1, y2⟩ := HF.out i (by omega)
          have HS := hid (psm_succ q (zat zs) st i)
          have HQ := hid (pwz_succ q st i)
          obtain ⟨hq1, hq2⟩ := emod_bounds (st ^ i) q h3
          rw [show st ^ i % (q : Int) = pwz q st i from rfl] at hq1 hq2
          obtain ⟨hm1, hm2⟩ := emod_bounds (zat zs i * pwz q st i) q h3
          have HM1 := hid (fun W : World => rmul_any q (zat zs i) (pwz q st i) W h3 h4 y1 y2 (by omega) (by omega))
          have HM2 := hid (fun W : World => rmul_any q (pwz q st i) st W h3 h4 (by omega) (by omega) (by omega) (by omega))
          generalize zat zs i * pwz q st i % (q : Int) = yq at *
          generalize zat zs i = y at *
          generalize pwz q st i * st % (q : Int) = qx at *
          generalize pwz q st i = qk at *
          generalize psm q (zat zs) st i = sk at *
          go_wp2_with fail
          go_quiet (first
            | (go_at_call 96; exact Calls.quiet_of_same (HM1.out _)))
          have HW2 : Hid (wr.drewN nq = wo.drewN (m + nq)) := by unfold Hid; rw [HW.out, World.drewN_drewN]
          have d2 : (wr.drewN nq).cell? ⟨w.heap.size, 0, none⟩ = some (.int .i64 q) := d0'
          clear d0' d1' hcl'
          generalize wr.drewN nq = X at *
          go_wp2_with fail
          refine (HM2.out _).mono ?_
          rintro e w1 ⟨rfl, rfl⟩
          go_wp2_with fail
          go_roundw
          case rel => exact ⟨i + 1, m + nq, by omega, by go_num, by rw [← HS.out], by rw [← HQ.out], HW2⟩
          case measure => simp [intOf]; omega
        · have hil2 : ¬ (i : Int) < (n : Int) := by omega
          obtain rfl : i = n := by omega
          have hown' : wr.ownsRow W0.heap.size 3 1 u5 lk.length (lk.map (Value.int .i64)) := by rw [HW.out]; exact hown
          have hbel' : Below W0.heap.size W0 wr := by rw [HW.out]; exact below_drewN hbel m
          have hsz' := hbel'.size
          clear hown hbel d0 d1
          have HMC := hid (rmul_any q (psm q (zat zs) st i) pk' wr h3 h4 (by omega) (by omega) (by omega) (by omega))
          rw [HRC.out] at HMC
          generalize psm q (zat zs) st i = ps' at *
          have HMS : Hid (∀ W : World, Calls Tryz.prog 96 #[.int .i64 q, .int .i64 st, .int .i64 V] W fun e w' => e = .returned (.int .i64 sn) ∧ w' = W) := fun W => by rw [← HSV.out]; exact rmul_any q st V W h3 h4 (by omega) (by omega) (by omega) (by omega)
          have HMP : Hid (∀ W : World, Calls Tryz.prog 96 #[.int .i64 q, .int .i64 pk', .int .i64 T] W fun e w' => e = .returned (.int .i64 pn) ∧ w' = W) := fun W => by rw [← HPV.out]; exact rmul_any q pk' T W h3 h4 (by omega) (by omega) (by omega) (by omega)
          go_wp2_with fail
          refine HMC.out.mono ?_
          rintro e w1 ⟨rfl, rfl⟩
          go_wp2_with (at_builtin; refine wpList_append_own _ rfl _ _ 22 rfl W0.heap.size 3 i0 (.int .i64 0) 1 8 Tryz.underlying22 hi hz0 hz1 hz2 rfl (by decide) _ _ _ rfl (hown'.alloc _) ⟨w1.heap.size, 0, none⟩ 1 1 [.int .i64 rk] rfl rfl ?c1 ?c2 ?c3 ?c4 ?c5 ?_)
          case c1 =>
            intro j u hj
            match j, hj with
            | 0, hj => simp at hj; subst hj; simp [Addr.add]
          case c2 => intro u hu; simp at hu; subst hu; rfl
          case c3 => have := HLL.out; unfold maxLen; omega
          case c4 => have := HLL.out; omega
          case c5 => simp; omega
          intro v' w5 hown2 hgrow _
          have hown3 := owns_succ hown2
          have HB : Hid (Below W0.heap.size W0 w5) := (hbel'.alloc hsz' _).grown hgrow (by simp; omega) (fun k hk => (hown'.lt k hk).1)
          have HO := hid hown3
          have f0 := (HB.out.cell (p := ⟨w.heap.size, 0, none⟩) hs0x).trans HC0.out
          clear hown2 hown3 hgrow hown' hbel' d0' d1'
          go_wp2_with fail
          refine (HMS.out _).mono ?_
          rintro e w6 ⟨rfl, rfl⟩
          go_wp2_with fail
          refine (HMP.out _).mono ?_
          rintro e w7 ⟨rfl, rfl⟩
          go_wp2_with fail
          go_roundw
          case rel => exact ⟨k + 1, by omega, by go_num, by rw [HSN.out], by rw [HPN.out], by rw [HLS.out]; exact HO.out, HB.out⟩
          case measure => simp [intOf]; omega
    · have hlt2 : ¬ (k : Int) < (n : Int) := by omega
      obtain rfl : k = n := by omega
      have hll := ls_len f k
      obtain ⟨a', c', rfl, hl⟩ := lst_of_owns hown
      have HT := hid (rtrim_num q c' a' (ls f k) wo h3 h4 (by rw [hll]; omega) (fun j hj => by rw [hll] at hj; rw [ls_at _ _ _ hj]; have := HRB.out j; omega) hl)
      have HBW : Hid (Below w.heap.size w wo) := HB0.out.trans (hbel.mono (by omega))
      rw [hll] at HT
      rw [hll]
      clear hown hl hbel hll
      go_wp2_with fail
      refine HT.out.mono ?_
      rintro e w2 ⟨a2, c2, rfl, hl2, hb2⟩
      have HE : Hid (NumL w2 a2 c2 (Pol.trim q (ls f k)) ∧ Below w.heap.size w w2) := ⟨hl2, HBW.out.trans (hb2.mono HBW.out.size)⟩
      clear hl2 hb2
      go_wp2_with fail
      go_ret
      exact ⟨a2, c2, rfl, HE.out⟩

end Go.Proofs.YtfppkjpgihnibaaGreatDoor
