
import Derived.Test.YtlhjifpomchnfaaGreatDoorPnI
import Derived.Test.YtlhjifpomchnfaaGreatDoorLawEMixes
import Derived.Test.YtlhjifpomchnfaaGreatDoorSmgD
set_option maxRecDepth 1000000
set_option maxHeartbeats 8000000
namespace Go.Proofs.YtlhjifpomchnfaaGreatDoor
open Go.RowKit
theorem pledges_nil (w : World) : Calls Tryz.prog 12 #[.agg #[.slice none 0 0, .slice none 0 0, .slice none 0 0, .slice none 0 0, .slice none 0 0, .slice none 0 0], .agg #[.slice none 0 0, .slice none 0 0, .slice none 0 0, .slice none 0 0, .slice none 0 0, .slice none 0 0]] w fun e w' => e = .returned (.bool true) /\ Below w.heap.size w w' :=
 pledges_same ⟨none, none, none, none, none, none, 0, 0, 0, 0, 0, 0⟩ ⟨none, none, none, none, none, none, 0, 0, 0, 0, 0, 0⟩ ⟨[], [], [], [], [], []⟩ w ⟨Lst.none _ _, Lst.none _ _, Lst.none _ _, Lst.none _ _, ⟨fun k hk => absurd hk (Nat.not_lt_zero _), Nat.zero_le _, fun _ => rfl⟩, ⟨fun k hk => absurd hk (Nat.not_lt_zero _), Nat.zero_le _, fun _ => rfl⟩⟩ ⟨Lst.none _ _, Lst.none _ _, Lst.none _ _, Lst.none _ _, ⟨fun k hk => absurd hk (Nat.not_lt_zero _), Nat.zero_le _, fun _ => rfl⟩, ⟨fun k hk => absurd hk (Nat.not_lt_zero _), Nat.zero_le _, fun _ => rfl⟩⟩ (by decide) (by decide) (by decide) (by decide) (by decide) (by decide) (fun k hk => absurd hk (Nat.not_lt_zero _)) (fun k hk => absurd hk (Nat.not_lt_zero _))
def EoB (N nT nA : Nat) (asked : Int) (k : Int) : Prop :=
 (decide (0 <= vrs nT /\ vrs nT <= 12 /\ 2 ^ ((vrs nT).toNat - (vrs nT).toNat / 2) <= N / 2) = false /\ k = 2) ∨
 (decide (0 <= vrs nT /\ vrs nT <= 12 /\ 2 ^ ((vrs nT).toNat - (vrs nT).toNat / 2) <= N / 2) = true /\ (nA : Int) ≠ vrs nT /\ k = 2) ∨
 (decide (0 <= vrs nT /\ vrs nT <= 12 /\ 2 ^ ((vrs nT).toNat - (vrs nT).toNat / 2) <= N / 2) = true /\ (nA : Int) = vrs nT /\ asked < 1 /\ k = 3) ∨
 (decide (0 <= vrs nT /\ vrs nT <= 12 /\ 2 ^ ((vrs nT).toNat - (vrs nT).toNat / 2) <= N / 2) = true /\ (nA : Int) = vrs nT /\ ¬ asked < 1 /\ 64 < asked /\ k = 3)
theorem eoB_any (N nT nA : Nat) (asked : Int) : (∃ v, v <= 12 /\ nT = 2 ^ v /\ 2 ^ (v - v / 2) <= N / 2 /\ nA = v /\ 1 <= asked /\ asked <= 64) ∨ ((¬ PoK N nT nA /\ EoB N nT nA asked 2) ∨ (∃ v, v <= 12 /\ nT = 2 ^ v /\ 2 ^ (v - v / 2) <= N / 2 /\ nA = v /\ ¬ (1 <= asked /\ asked <= 64) /\ EoB N nT nA asked 3)) := by
 by_cases hp : PoK N nT nA
 ·obtain ⟨v, hv, h1, h2, h3⟩ := hp
  have e := vrs_yes hv h1
  have hd : decide (0 <= vrs nT /\ vrs nT <= 12 /\ 2 ^ ((vrs nT).toNat - (vrs nT).toNat / 2) <= N / 2) = true := by
   rw [e]
   exact decide_eq_true ⟨by omega, by omega, by rw [Int.toNat_natCast]; exact h2⟩
  by_cases ha : 1 <= asked /\ asked <= 64
  ·exact .inl ⟨v, hv, h1, h2, h3, ha⟩
  ·refine .inr (.inr ⟨v, hv, h1, h2, h3, ha, ?_⟩)
   by_cases h1' : asked < 1
   ·exact .inr (.inr (.inl ⟨hd, by omega, h1', rfl⟩))
   ·exact .inr (.inr (.inr ⟨hd, by omega, h1', by omega, rfl⟩))
 ·refine .inr (.inl ⟨hp, ?_⟩)
  by_cases hd : decide (0 <= vrs nT /\ vrs nT <= 12 /\ 2 ^ ((vrs nT).toNat - (vrs nT).toNat / 2) <= N / 2) = true
  ·refine .inr (.inl ⟨hd, fun e => hp ?_, rfl⟩)
   have hd' := of_decide_eq_true hd
   obtain ⟨v, hv, h1, h2⟩ := vrs_of hd'.1
   rw [h2, Int.toNat_natCast] at hd'
   exact ⟨v, hv, h1, hd'.2.2, by omega⟩
  ·exact .inl ⟨by simpa using hd, rfl⟩
theorem eopens_bad (q k0 c3 cT c5 : Nat) (s asked k : Int) (a3 aT a5 : Option Addr) (label t at' : List Int) (w : World) (hL : Laid w) (hT : TabAt 2 Lib.deBruijn64tab w) (hg : GoodT q k0 s) (hs1 : -9223372036854775808 <= s) (hs2 : s <= 9223372036854775807) (hll : label.length <= 17592186043904) (hfl : Fits label) (h3 : Lst w.heap.size w a3 c3 label) (htl : t.length <= 17592186043904) (hft : Fits t) (hlt : Lst w.heap.size w aT cT t) (hal : at'.length <= 17592186043904) (hfa : Fits at') (h5 : Lst w.heap.size w a5 c5 at') (hk : k = 2 ∨ k = 3) (hf : EoB (2 ^ k0) t.length at'.length asked k)
  (hO : ∀ (W : World) (sp b c d : Nat) (r s : Int), DomAt W d b ((2 ^ k0 : Nat) : Int) r s -> TabAt 2 Lib.deBruijn64tab W -> Calls Tryz.prog 7 #[.pointer (some ⟨sp, 0, none⟩), .pointer (some ⟨c, 0, none⟩), .pointer (some ⟨d, 0, none⟩), .slice aT t.length cT, .slice a5 at'.length c5, .int .i64 asked] W fun e w' => e = .returned (.tuple #[.agg #[.slice none 0 0, .slice none 0 0, .slice none 0 0, .slice none 0 0, .slice none 0 0, .slice none 0 0], .int .i64 0, .iface 90 (.int .i64 k)]) /\ Below W.heap.size W w') :
  Calls Tryz.prog 3 #[.int .i64 q, .int .i64 ((2 ^ k0 : Nat) : Int), .int .i64 s, .slice a3 label.length c3, .slice aT t.length cT, .slice a5 at'.length c5, .int .i64 asked] w fun e w' => e = .returned (.bool true) /\ Below w.heap.size w w' := by
 have hq3 := hg.at'.h3
 have hq4 := hg.at'.h4
 have h23 := hg.h23
 have hpr := hid hg.at'.pr
 have hkN := two_pow_le hg.at'.hk
 have hN1 : 1 <= 2 ^ k0 := Nat.one_le_two_pow
 have HTH := hid (things_yes q k0 s w hg hs1 hs2)
 obtain ⟨N, hN⟩ : ∃ N, N = 2 ^ k0 := ⟨_, rfl⟩
 simp only [<- hN] at HTH hkN hN1 hf hO ⊢
 obtain ⟨tt, htt⟩ : ∃ tt, tt = s % (q : Int) := ⟨_, rfl⟩
 rw [<- htt] at HTH
 obtain ⟨t0, t1⟩ := emod_bounds s q hq3
 rw [<- htt] at t0 t1
 have HNW := hid (fun W => rdnew_any q (N : Int) s W hpr.out hq3 hq4 (by omega) (by omega) hs1 hs2)
 rw [<- htt] at HNW
 have HVR := hid (fun W => rvariables_any t.length cT aT W)
 have HFL := hid hfl
 have HFT := hid hft
 have HFA := hid hfa
 have HLL : Hid (label.length <= 17592186043904 /\ t.length <= 17592186043904 /\ at'.length <= 17592186043904) := ⟨hll, htl, hal⟩
 have HRD : Hid (∀ W, Below w.heap.size w W -> Lst W.heap.size W a3 c3 label /\ Lst W.heap.size W aT cT t /\ Lst W.heap.size W a5 c5 at' /\ TabAt 2 Lib.deBruijn64tab W /\ Laid W) := fun W hW => ⟨(h3.below hW).mono hW.size, (hlt.below hW).mono hW.size, (h5.below hW).mono hW.size, tabZ_below hT hW, hL.below hW⟩
 have HTO : Hid (∀ W, Laid W -> Calls Tryz.prog 11 #[.iface 90 (.int .i64 k), .int .i64 k] W fun x w' => x = .returned (.bool true) /\ Below W.heap.size W w') := fun W hW => by
  have := told_any k k W hW
  rw [beq_self_eq_true, errz_some (by omega)] at this
  exact this
 have HOO := hid hO
 obtain ⟨nT, hnT⟩ : ∃ nT, nT = t.length := ⟨_, rfl⟩
 obtain ⟨nA, hnA⟩ : ∃ nA, nA = at'.length := ⟨_, rfl⟩
 obtain ⟨nl, hnl⟩ : ∃ nl, nl = label.length := ⟨_, rfl⟩
 rw [<- hnT, <- hnA] at HOO
 rw [<- hnT] at HVR
 rw [<- hnT, <- hnA] at hf
 have hvb := vrs_bounds nT
 have HFI : Hid (∀ W : World, Calls Tryz.prog 10 #[.agg #[.int .i64 q, .int .i64 (N : Int), .int .i64 tt, .int .i64 0], .int .i64 (vrs nT)] W fun e w' => e = .returned (.bool (decide (0 <= vrs nT /\ vrs nT <= 12 /\ 2 ^ ((vrs nT).toNat - (vrs nT).toNat / 2) <= N / 2))) /\ Below W.heap.size W w') := fun W => rfits12_any q N tt 0 (vrs nT) W hkN (by omega) (by omega)
 have HFJ : Hid (∀ (W : World) (r : Int), Calls Tryz.prog 10 #[.agg #[.int .i64 q, .int .i64 (N : Int), .int .i64 tt, .int .i64 r], .int .i64 (vrs nT)] W fun e w' => e = .returned (.bool (decide (0 <= vrs nT /\ vrs nT <= 12 /\ 2 ^ ((vrs nT).toNat - (vrs nT).toNat / 2) <= N / 2))) /\ Below W.heap.size W w') := fun W r => rfits12_any q N tt r (vrs nT) W hkN (by omega) (by omega)
 rw [<- hnT, <- hnA]
 obtain ⟨vr, hvr⟩ : ∃ vr, vr = vrs nT := ⟨_, rfl⟩
 rw [<- hvr] at HVR HFI HFJ
 obtain ⟨fi, hfi⟩ : ∃ fi, fi = decide (0 <= vr /\ vr <= 12 /\ 2 ^ (vr.toNat - vr.toNat / 2) <= N / 2) := ⟨_, rfl⟩
 rw [<- hfi] at HFJ
 have hf' : (fi = false /\ k = 2) ∨ (fi = true /\ (nA : Int) ≠ vr /\ k = 2) ∨ (fi = true /\ (nA : Int) = vr /\ asked < 1 /\ k = 3) ∨ (fi = true /\ (nA : Int) = vr /\ ¬ asked < 1 /\ 64 < asked /\ k = 3) := by
  rw [hfi, hvr]
  exact hf
 have HFX := hid hf'
 clear hg hL hT hft hlt hN htt hnT hnA hnl hfl h3 htl hfa hal h5 hll hvr hfi hf hf' hO hvb HFI hk
 go_enter Tryz.func3, Tryz.ntmps3
 go_wp2_with fail
 refine HTH.out.mono ?_
 rintro e w1 ⟨sp, b, n, dd, d, r, rfl, hok, hsp, hrt, hD, hb1⟩
 have HS1 := hid hsp
 have HD1 := hid hD
 have HB1 := hid hb1
 have HOK := hid hok
 have HRT := hid hrt
 have hsl := hsp.lt
 have hbl := hsp.ltb
 have hdl := hD.dlt
 have HIN : Hid (∀ W, Below w1.heap.size w1 W -> SpgAt W sp b q n dd /\ DO W q b d N r tt /\ Below w.heap.size w W) := fun W hW => ⟨HS1.out.keep hW, HD1.out.step hW, HB1.out.trans (hW.mono HB1.out.size)⟩
 have HN1 := hid (cnew_any w1.heap.size q n dd sp b c3 a3 label w1 hok hsp (Nat.le_refl _) hsl hbl HLL.out.1 HFL.out (HRD.out w1 hb1).1)
 clear hok hsp hrt hD hb1 HTH
 go_wp2_with fail
 refine HN1.out.mono ?_
 rintro e w2 ⟨c, rfl, hc2, hP2, hb2⟩
 have HB2 := hid hb2
 have HP2 := hid hP2
 have HN2 := hid (cnew_any w1.heap.size q n dd sp b c3 a3 label w2 HOK.out (HS1.out.keep hb2) hb2.size hsl hbl HLL.out.1 HFL.out (HRD.out w2 (HIN.out w2 hb2).2.2).1)
 have HCG : Hid (w1.heap.size <= c) := hP2.ge
 have HCL : Hid (c < w2.heap.size) := hP2.lt
 clear hP2 hb2 HN1
 go_wp2_with fail
 refine HN2.out.mono ?_
 rintro e w3 ⟨c', rfl, hc3, hP3, hb3⟩
 have HB3 : Hid (Below w1.heap.size w1 w3) := HB2.out.trans (hb3.mono HB2.out.size)
 have HP3 := hid (HP2.out.below hb3)
 have HQ3 := hid hP3
 have HCC : Hid (w1.heap.size <= c' /\ c ≠ c' /\ c' < w3.heap.size) := ⟨hP3.ge, by have := HCL.out; omega, hP3.lt⟩
 have hDG : Dig (digl q n (2 :: label)) := dig_digl hq3 hq4 _ _
 have HDG := hid hDG
 clear hP3 hb3 hc2 hc3 HN2 HP2 hDG
 have HOX := hid (HOO.out w3 sp b c d r tt (HIN.out w3 HB3.out).2.1.da (HRD.out w3 (HIN.out w3 HB3.out).2.2).2.2.2.1)
 have HFI := hid (fun W => HFJ.out W (r : Int))
 go_wp2_with fail
 refine HOX.out.mono ?_
 rintro e w4 ⟨rfl, hb4⟩
 obtain ⟨W5, hW5⟩ : ∃ W5, W5 = w4.alloc (.cells #[.slice none 0 0, .slice none 0 0, .slice none 0 0, .slice none 0 0, .slice none 0 0, .slice none 0 0] 33) := ⟨_, rfl⟩
 obtain ⟨P, hP⟩ : ∃ P, P = w4.heap.size := ⟨_, rfl⟩
 have hb45 : Below w4.heap.size w4 W5 := by rw [hW5]; exact (Below.refl _ _).alloc (Nat.le_refl _) _
 have HPB : Hid (W5.heap[P]? = some (.cells #[.slice none 0 0, .slice none 0 0, .slice none 0 0, .slice none 0 0, .slice none 0 0, .slice none 0 0] 33 (0, 0))) := by unfold Hid; rw [hW5, hP]; exact heap_alloc_new w4 _
 have HB5 : Hid (Below w1.heap.size w1 W5) := HB3.out.trans ((hb4.trans (hb45.mono hb4.size)).mono HB3.out.size)
 have HPC : Hid (∀ W : World, W.heap[P]? = some (.cells #[.slice none 0 0, .slice none 0 0, .slice none 0 0, .slice none 0 0, .slice none 0 0, .slice none 0 0] 33 (0, 0)) -> W.cell? ⟨P, 0, none⟩ = some (.slice none 0 0) /\ W.cell? ⟨P, 1, none⟩ = some (.slice none 0 0) /\ W.cell? ⟨P, 2, none⟩ = some (.slice none 0 0) /\ W.cell? ⟨P, 3, none⟩ = some (.slice none 0 0) /\ W.cell? ⟨P, 4, none⟩ = some (.slice none 0 0) /\ W.cell? ⟨P, 5, none⟩ = some (.slice none 0 0)) := fun W e1 =>
  ⟨by simp [World.cell?, e1], by simp [World.cell?, e1], by simp [World.cell?, e1], by simp [World.cell?, e1], by simp [World.cell?, e1], by simp [World.cell?, e1]⟩
 have HW5 := hid hW5
 have HPE := hid hP
 clear hb4 hb45 hW5 hP HOX HOO HP3 HQ3
 go_wp2_with fail
 rw [<- HW5.out]
 try rw [<- HPE.out]
 refine (HNW.out W5).mono ?_
 rintro e w6 ⟨r2, rfl, hr2, hb6⟩
 obtain rfl : r2 = r := rootIs_unique hr2 HRT.out
 obtain ⟨Q, hQ⟩ : ∃ Q, Q = w6.heap.size := ⟨_, rfl⟩
 obtain ⟨W7, hW7⟩ : ∃ W7, W7 = w6.alloc (.cells #[.int .i64 q, .int .i64 (N : Int), .int .i64 tt, .int .i64 r2] 39) := ⟨_, rfl⟩
 have hb67 : Below w6.heap.size w6 W7 := by rw [hW7]; exact (Below.refl _ _).alloc (Nat.le_refl _) _
 have HQ7 : Hid (W7.heap[Q]? = some (.cells #[.int .i64 q, .int .i64 (N : Int), .int .i64 tt, .int .i64 r2] 39 (0, 0))) := by unfold Hid; rw [hW7, hQ]; exact heap_alloc_new w6 _
 have HB57 : Hid (Below W5.heap.size W5 W7) := hb6.trans (hb67.mono hb6.size)
 have HB7 : Hid (Below w1.heap.size w1 W7) := HB5.out.trans (HB57.out.mono HB5.out.size)
 have HW7 := hid hW7
 have HQE := hid hQ
 have HQC : Hid (∀ W : World, W.heap[Q]? = some (.cells #[.int .i64 q, .int .i64 (N : Int), .int .i64 tt, .int .i64 r2] 39 (0, 0)) -> W.cell? ⟨Q, 0, none⟩ = some (.int .i64 q) /\ W.cell? ⟨Q, 1, none⟩ = some (.int .i64 (N : Int)) /\ W.cell? ⟨Q, 2, none⟩ = some (.int .i64 tt) /\ W.cell? ⟨Q, 3, none⟩ = some (.int .i64 r2)) := fun W e1 => ⟨four0 e1, four1 e1, four2 e1, four3 e1⟩
 obtain ⟨z0, z1, z2, z3⟩ := HQC.out W7 HQ7.out
 clear hr2 hb6 hb67 hW7 hQ HNW
 go_wp2_with fail
 rw [<- HW7.out, <- HQE.out]
 refine (HVR.out W7).mono ?_
 rintro e w' ⟨rfl, hw'⟩
 have hw2 := hw'.symm
 subst hw2
 clear hw' HVR HW7 HQE
 go_wp2_with fail
 refine (HFI.out W7).mono ?_
 rintro e w8 ⟨rfl, hb8⟩
 have HB8 : Hid (Below w1.heap.size w1 w8) := HB7.out.trans (hb8.mono HB7.out.size)
 have HB58 : Hid (Below W5.heap.size W5 w8) := HB57.out.trans (hb8.mono HB57.out.size)
 have HQ8 := hid ((hb8.block Q (Array.getElem?_eq_some_iff.1 HQ7.out).1).trans HQ7.out)
 clear hb8 HFI z0 z1 z2 z3 HQ7 HB7 HB57
 clear HFJ
 rcases HFX.out with ⟨rfl, rfl⟩ | ⟨rfl, hne, rfl⟩ | ⟨rfl, heq, hlt, rfl⟩ | ⟨rfl, heq, hlt, hgt, rfl⟩
 ·clear HFX
  go_wp2_with fail
  refine (HTO.out w8 (HRD.out w8 (HIN.out w8 HB8.out).2.2).2.2.2.2).mono ?_
  rintro e w9 ⟨rfl, hb9⟩
  have HB9 : Hid (Below w1.heap.size w1 w9) := HB8.out.trans (hb9.mono HB8.out.size)
  have HB59 : Hid (Below W5.heap.size W5 w9) := HB58.out.trans (hb9.mono HB58.out.size)
  obtain ⟨p0, p1, p2, p3, p4, p5⟩ := HPC.out w9 ((HB59.out.block P (Array.getElem?_eq_some_iff.1 HPB.out).1).trans HPB.out)
  have HPS := hid (pledges_nil w9)
  clear hb9 HTO HB8 HB58
  go_wp2_with fail
  refine HPS.out.mono ?_
  rintro e w10 ⟨rfl, hb10⟩
  have HE : Hid (Below w.heap.size w w10) := (HIN.out w10 (HB9.out.trans (hb10.mono HB9.out.size))).2.2
  clear hb10 HPS p0 p1 p2 p3 p4 p5
  go_wp2_with fail
  go_ret
  exact ⟨rfl, HE.out⟩
 ·have hne2 : ((nA : Int) != vr) = true := by simp; exact hne
  clear HFX
  go_wp2_with fail
  refine (HTO.out w8 (HRD.out w8 (HIN.out w8 HB8.out).2.2).2.2.2.2).mono ?_
  rintro e w9 ⟨rfl, hb9⟩
  have HB9 : Hid (Below w1.heap.size w1 w9) := HB8.out.trans (hb9.mono HB8.out.size)
  have HB59 : Hid (Below W5.heap.size W5 w9) := HB58.out.trans (hb9.mono HB58.out.size)
  obtain ⟨p0, p1, p2, p3, p4, p5⟩ := HPC.out w9 ((HB59.out.block P (Array.getElem?_eq_some_iff.1 HPB.out).1).trans HPB.out)
  have HPS := hid (pledges_nil w9)
  clear hb9 HTO HB8 HB58
  go_wp2_with fail
  refine HPS.out.mono ?_
  rintro e w10 ⟨rfl, hb10⟩
  have HE : Hid (Below w.heap.size w w10) := (HIN.out w10 (HB9.out.trans (hb10.mono HB9.out.size))).2.2
  clear hb10 HPS p0 p1 p2 p3 p4 p5
  go_wp2_with fail
  go_ret
  exact ⟨rfl, HE.out⟩
 ·have hne2 : ((nA : Int) != vr) = false := by simp; exact heq
  clear HFX
  go_wp2_with fail
  refine (HTO.out w8 (HRD.out w8 (HIN.out w8 HB8.out).2.2).2.2.2.2).mono ?_
  rintro e w9 ⟨rfl, hb9⟩
  have HB9 : Hid (Below w1.heap.size w1 w9) := HB8.out.trans (hb9.mono HB8.out.size)
  have HB59 : Hid (Below W5.heap.size W5 w9) := HB58.out.trans (hb9.mono HB58.out.size)
  obtain ⟨p0, p1, p2, p3, p4, p5⟩ := HPC.out w9 ((HB59.out.block P (Array.getElem?_eq_some_iff.1 HPB.out).1).trans HPB.out)
  have HPS := hid (pledges_nil w9)
  clear hb9 HTO HB8 HB58
  go_wp2_with fail
  refine HPS.out.mono ?_
  rintro e w10 ⟨rfl, hb10⟩
  have HE : Hid (Below w.heap.size w w10) := (HIN.out w10 (HB9.out.trans (hb10.mono HB9.out.size))).2.2
  clear hb10 HPS p0 p1 p2 p3 p4 p5
  go_wp2_with fail
  go_ret
  exact ⟨rfl, HE.out⟩
 ·have hne2 : ((nA : Int) != vr) = false := by simp; exact heq
  clear HFX
  go_wp2_with fail
  refine (HTO.out w8 (HRD.out w8 (HIN.out w8 HB8.out).2.2).2.2.2.2).mono ?_
  rintro e w9 ⟨rfl, hb9⟩
  have HB9 : Hid (Below w1.heap.size w1 w9) := HB8.out.trans (hb9.mono HB8.out.size)
  have HB59 : Hid (Below W5.heap.size W5 w9) := HB58.out.trans (hb9.mono HB58.out.size)
  obtain ⟨p0, p1, p2, p3, p4, p5⟩ := HPC.out w9 ((HB59.out.block P (Array.getElem?_eq_some_iff.1 HPB.out).1).trans HPB.out)
  have HPS := hid (pledges_nil w9)
  clear hb9 HTO HB8 HB58
  go_wp2_with fail
  refine HPS.out.mono ?_
  rintro e w10 ⟨rfl, hb10⟩
  have HE : Hid (Below w.heap.size w w10) := (HIN.out w10 (HB9.out.trans (hb10.mono HB9.out.size))).2.2
  clear hb10 HPS p0 p1 p2 p3 p4 p5
  go_wp2_with fail
  go_ret
  exact ⟨rfl, HE.out⟩
theorem eopens_yes (q k0 v c3 cT c5 asked : Nat) (s : Int) (a3 aT a5 : Option Addr) (label t at' : List Int) (w : World) (hL : Laid w) (hT : TabAt 2 Lib.deBruijn64tab w) (hg : GoodT q k0 s) (hs1 : -9223372036854775808 <= s) (hs2 : s <= 9223372036854775807) (hll : label.length <= 17592186043904) (hfl : Fits label) (h3 : Lst w.heap.size w a3 c3 label) (htl : t.length <= 17592186043904) (hft : Fits t) (hlt : Lst w.heap.size w aT cT t) (hal : at'.length <= 17592186043904) (hfa : Fits at') (h5 : Lst w.heap.size w a5 c5 at') (hv : v <= 12) (hat : at'.length = v) (ht : t.length = 2 ^ v) (ha1 : 1 <= asked) (ha : asked <= 64) (hf : 2 ^ (v - v / 2) <= 2 ^ k0 / 2) :
  Calls Tryz.prog 3 #[.int .i64 q, .int .i64 ((2 ^ k0 : Nat) : Int), .int .i64 s, .slice a3 label.length c3, .slice aT t.length cT, .slice a5 at'.length c5, .int .i64 (asked : Int)] w fun e w' => e = .returned (.bool true) /\ Below w.heap.size w w' := by
 obtain ⟨ap, o, haT⟩ := some_of_lst hlt (by rw [ht]; exact Nat.two_pow_pos v)
 have hq3 := hg.at'.h3
 have hq4 := hg.at'.h4
 have h23 := hg.h23
 have hpr := hid hg.at'.pr
 have hkN := two_pow_le hg.at'.hk
 have hN1 : 1 <= 2 ^ k0 := Nat.one_le_two_pow
 have HTH := hid (things_yes q k0 s w hg hs1 hs2)
 obtain ⟨N, hN⟩ : ∃ N, N = 2 ^ k0 := ⟨_, rfl⟩
 simp only [<- hN] at HTH hkN hN1 hf ⊢
 obtain ⟨tt, htt⟩ : ∃ tt, tt = s % (q : Int) := ⟨_, rfl⟩
 rw [<- htt] at HTH
 obtain ⟨t0, t1⟩ := emod_bounds s q hq3
 rw [<- htt] at t0 t1
 have HNW := hid (fun W => rdnew_any q (N : Int) s W hpr.out hq3 hq4 (by omega) (by omega) hs1 hs2)
 rw [<- htt] at HNW
 have HVR := hid (fun W => rvariables_any t.length cT aT W)
 have HFL := hid hfl
 have HFT := hid hft
 have HFA := hid hfa
 have HLL : Hid (label.length <= 17592186043904 /\ t.length <= 17592186043904 /\ at'.length <= 17592186043904) := ⟨hll, htl, hal⟩
 have HRD : Hid (∀ W, Below w.heap.size w W -> Lst W.heap.size W a3 c3 label /\ Lst W.heap.size W aT cT t /\ Lst W.heap.size W a5 c5 at' /\ TabAt 2 Lib.deBruijn64tab W /\ Laid W) := fun W hW => ⟨(h3.below hW).mono hW.size, (hlt.below hW).mono hW.size, (h5.below hW).mono hW.size, tabZ_below hT hW, hL.below hW⟩
 subst haT
 have HTO : Hid (∀ W, Laid W -> Calls Tryz.prog 11 #[.nilIface, .int .i64 0] W fun x w' => x = .returned (.bool true) /\ Below W.heap.size W w') := fun W hW => by
  have := told_any 0 0 W hW
  rw [beq_self_eq_true, errz_nil] at this
  exact this
 have hvr := vrs_yes hv ht
 rw [hvr] at HVR
 have HFJ : Hid (∀ (W : World) (r : Int), Calls Tryz.prog 10 #[.agg #[.int .i64 q, .int .i64 (N : Int), .int .i64 tt, .int .i64 r], .int .i64 (v : Int)] W fun e w' => e = .returned (.bool true) /\ Below W.heap.size W w') := fun W r => by
  have h := rfits12_any q N tt r (v : Int) W hkN (by omega) (by omega)
  rw [decide_eq_true ⟨by omega, by omega, by rw [Int.toNat_natCast]; exact hf⟩] at h
  exact h
 obtain ⟨X, hX⟩ : ∃ X, X = Sum.ext (zat t) (zat at') at'.length % (q : Int) := ⟨_, rfl⟩
 have HEXT : Hid (∀ (b : Nat) (W : World), InT q b W -> Below w.heap.size w W -> Calls Tryz.prog 18 #[.pointer (some ⟨b, 0, none⟩), .slice (some ⟨ap, o, none⟩) (2 ^ v) cT, .slice a5 v c5] W fun e w' => e = .returned (.tuple #[.int .i64 X, .nilIface]) /\ Below W.heap.size W w') := fun b W hi hW => by
  have h := ext_as q b cT c5 (some ⟨ap, o, none⟩) a5 t at' W hi ⟨htl, hft, (hlt.below hW).mono hW.size⟩ ⟨hal, hfa, (h5.below hW).mono hW.size⟩
  have hv2 : vrs t.length = (at'.length : Int) := by rw [hvr, hat]
  have e1 : exz q t at' = X := by unfold exz; rw [if_pos hv2, hX]
  have e2 : exe t at' = 0 := by unfold exe; rw [if_pos hv2]
  rw [e1, e2, errz_nil, ht, hat] at h
  exact h
 obtain ⟨og, hog⟩ : ∃ og : Nat -> Int -> Plg, og = fun n r => opG q n tt r N v asked t at' (digl q n (2 :: label)) := ⟨_, rfl⟩
 obtain ⟨od, hod⟩ : ∃ od : Nat -> Int -> List Int, od = fun n r => opD q n tt r N v asked t at' (digl q n (2 :: label)) := ⟨_, rfl⟩
 have HOP : Hid (∀ (W w1 : World) (n dd sp b c d r : Nat), SpgOk q n dd -> PCh w1.heap.size q n W c (digl q n (2 :: label)) -> (∀ W', W.grownBy W' (some c) -> SpgAt W' sp b q n dd /\ DO W' q b d N r tt /\ Below w.heap.size w W') -> Calls Tryz.prog 7 #[.pointer (some ⟨sp, 0, none⟩), .pointer (some ⟨c, 0, none⟩), .pointer (some ⟨d, 0, none⟩), .slice (some ⟨ap, o, none⟩) (2 ^ v) cT, .slice a5 v c5, .int .i64 (asked : Int)] W fun e w' => ∃ A : PlA, e = .returned (.tuple #[.agg (plC A (og n r)), .int .i64 X, .nilIface]) /\ PlS w' A (og n r) /\ PCh w1.heap.size q n w' c (od n r) /\ W.grownBy w' (some c)) := fun W w1 n dd sp b c d r ok hP hW => by
  have hB := (hW W (gb_refl _ _)).2.2
  have h := popen_plg w1.heap.size q n dd b sp c b d v cT c5 N asked ap o tt (r : Int) a5 t at' (digl q n (2 :: label)) W ok hP (dig_digl hq3 hq4 _ _) (fun W' hW' => ⟨(hW W' hW').1, (hW W' hW').2.1, (HRD.out W' (hW W' hW').2.2).2.1, (HRD.out W' (hW W' hW').2.2).2.2.1⟩) (HRD.out W hB).2.2.2.1 hv hat ht hft hfa ha1 ha hf
  rw [ht, hat] at h
  rw [hog, hod, hX, hat]
  exact h
 have HOR : Hid (∀ (W : World) (n rc r : Nat), Spo.PowIs q n -> (r : Int) < q -> RCh q W rc (digl q n (2 :: label)) -> (∀ W', W.grownBy W' (some rc) -> Below w.heap.size w W') -> Calls Tryz.prog 14 #[.pointer (some ⟨rc, 0, none⟩), .agg #[.int .i64 (q : Int), .int .i64 (N : Int), .int .i64 tt, .int .i64 (r : Int)], .slice (some ⟨ap, o, none⟩) (2 ^ v) cT, .slice a5 v c5, .int .i64 (asked : Int)] W fun e w' => ∃ A : PlA, e = .returned (.tuple #[.agg (plC A (og n r)), .int .i64 X]) /\ PlW w' A (og n r) /\ RCh q w' rc (od n r) /\ W.grownBy w' (some rc)) := fun W n rc r hpn hr hch hW => by
  have h := ropen_plg q n rc N v asked cT c5 tt (r : Int) (some ⟨ap, o, none⟩) a5 t at' (digl q n (2 :: label)) W (by omega) hq4 hpn (by omega) hr t0 t1 hN1 hkN hch (dig_digl hq3 hq4 _ _) (fun W' hW' => ⟨(HRD.out W' (hW W' hW')).2.1, (HRD.out W' (hW W' hW')).2.2.1⟩) hv hat ht hft hfa ha1 ha
  rw [ht, hat] at h
  rw [hog, hod, hX, hat]
  exact h
 have HCK : Hid (∀ (W w1 : World) (n dd sp b c d r : Nat) (A : PlA), SpgOk q n dd -> PCh w1.heap.size q n W c (digl q n (2 :: label)) -> (∀ W', W.grownBy W' (some c) -> SpgAt W' sp b q n dd /\ DO W' q b d N r tt /\ Below w.heap.size w W' /\ PlW W' A (og n r)) -> Calls Tryz.prog 17 #[.pointer (some ⟨sp, 0, none⟩), .pointer (some ⟨c, 0, none⟩), .pointer (some ⟨d, 0, none⟩), .int .i64 (v : Int), .slice a5 v c5, .int .i64 (asked : Int), .agg (plC A (og n r))] W fun e w' => e = .returned (.tuple #[.int .i64 X, .bool true]) /\ PCh w1.heap.size q n w' c (od n r) /\ W.grownBy w' (some c)) := fun W w1 n dd sp b c d r A ok hP hW => by
  rw [hog] at hW ⊢
  have h := pcheck_plg w1.heap.size q n dd b sp b d N v asked c (r : Int) tt A a5 c5 t at' (digl q n (2 :: label)) W ⟨fun W' g => (hW W' g).1, fun W' g => (hW W' g).2.1, fun W' g => (hW W' g).2.2.2.l1, fun W' g => (hW W' g).2.2.2.l2, fun W' g => (hW W' g).2.2.2.l3, fun W' g => (hW W' g).2.2.2.lp, fun W' g => (hW W' g).2.2.2.lr, fun W' g => (hW W' g).2.2.2.ln, fun W' g => (HRD.out W' (hW W' g).2.2.1).2.2.1⟩ ok hP (dig_digl hq3 hq4 _ _) hq3 hq4 hN1 hkN hv hf hat ht hfa ha1 ha
  rw [hat] at h
  rw [hod, hX, hat]
  exact h
 have HPS : Hid (∀ (W : World) (n r : Nat) (A B : PlA), PlW W A (og n r) -> PlW W B (og n r) -> Calls Tryz.prog 12 #[.agg (plC A (og n r)), .agg (plC B (og n r))] W fun e w' => e = .returned (.bool true) /\ Below W.heap.size W w') := fun W n r A B hA hB => by
  rw [hog] at hA hB ⊢
  obtain ⟨hF, _, _, _⟩ := opG_bounds (n := n) (s := tt) (r := (r : Int)) hq3 hq4 hN1 hkN hv ha t at' (digl q n (2 :: label)) hat hfa
  exact pledges_same A B _ W hA hB (Nat.le_trans hF.m1 (by decide)) (Nat.le_trans hF.m2 (by decide)) (Nat.le_trans hF.m3 (by decide)) (Nat.le_trans hF.mp (by decide)) (Nat.le_trans hF.mr (by decide)) (Nat.le_trans hF.mn (by decide)) (fun k hk => Nat.le_trans (hF.fr k hk).2 (by decide)) (fun k hk => Nat.le_trans (hF.fn k hk).2 (by decide))
 have HDD : Hid (∀ n r, Dig (od n r)) := fun n r => by rw [hod]; exact opD_dig hq3 hq4 t at' _
 have HITX : Hid (∀ (W : World) (sp b n d : Nat), SpgAt W sp b q n d -> Below w.heap.size w W -> InT q b W) := fun W sp b n d hs hW => ⟨⟨hpr.out, hq3, hq4, hs.p⟩, tabu_below hT hW⟩
 have HBG : Hid (∀ (W : World) (n : Nat), Spo.PowIs q n -> Below w.heap.size w W -> Calls Tryz.prog 13 #[.int .i64 (q : Int), .slice a3 label.length c3] W fun e w' => ∃ rc, e = .returned (.pointer (some ⟨rc, 0, none⟩)) /\ W.heap.size <= rc /\ RCh q w' rc (digl q n (2 :: label)) /\ Below W.heap.size W w') := fun W n hpn hW => rbegin_any q n c3 a3 label W (by omega) hq4 hpn (by omega) hfl (HRD.out W hW).1
 obtain ⟨L, hL'⟩ : ∃ L, L = 2 ^ v := ⟨_, rfl⟩
 rw [ht, hat, <- hL']
 rw [<- hL'] at HEXT HOP HOR
 rw [ht, <- hL'] at HVR
 have hlt1 : ¬ (asked : Int) < 1 := by omega
 have hgt1 : ¬ (64 : Int) < (asked : Int) := by omega
 have hxx : (X != X) = false := by simp
 have hxy : (X == X) = true := by simp
 clear hg hL hT hft hlt hN htt hfl h3 htl hfa hal h5 hll hvr hf hv hat ht ha1 ha hX hog hod hL'
 go_enter Tryz.func3, Tryz.ntmps3
 go_wp2_with fail
 refine HTH.out.mono ?_
 rintro e w1 ⟨sp, b, n, dd, d, r, rfl, hok, hsp, hrt, hD, hb1⟩
 have HS1 := hid hsp
 have HD1 := hid hD
 have HB1 := hid hb1
 have HOK := hid hok
 have HRT := hid hrt
 have hsl := hsp.lt
 have hbl := hsp.ltb
 have hdl := hD.dlt
 have HIN : Hid (∀ W, Below w1.heap.size w1 W -> SpgAt W sp b q n dd /\ DO W q b d N r tt /\ Below w.heap.size w W) := fun W hW => ⟨HS1.out.keep hW, HD1.out.step hW, HB1.out.trans (hW.mono HB1.out.size)⟩
 have HN1 := hid (cnew_any w1.heap.size q n dd sp b c3 a3 label w1 hok hsp (Nat.le_refl _) hsl hbl HLL.out.1 HFL.out (HRD.out w1 hb1).1)
 clear hok hsp hrt hD hb1 HTH
 go_wp2_with fail
 refine HN1.out.mono ?_
 rintro e w2 ⟨c, rfl, hc2, hP2, hb2⟩
 have HB2 := hid hb2
 have HP2 := hid hP2
 have HN2 := hid (cnew_any w1.heap.size q n dd sp b c3 a3 label w2 HOK.out (HS1.out.keep hb2) hb2.size hsl hbl HLL.out.1 HFL.out (HRD.out w2 (HIN.out w2 hb2).2.2).1)
 have HCG : Hid (w1.heap.size <= c) := hP2.ge
 have HCL : Hid (c < w2.heap.size) := hP2.lt
 clear hP2 hb2 HN1
 go_wp2_with fail
 refine HN2.out.mono ?_
 rintro e w3 ⟨c', rfl, hc3, hP3, hb3⟩
 have HB3 : Hid (Below w1.heap.size w1 w3) := HB2.out.trans (hb3.mono HB2.out.size)
 have HP3 := hid (HP2.out.below hb3)
 have HQ3 := hid hP3
 have HCC : Hid (w1.heap.size <= c' /\ c ≠ c' /\ c' < w3.heap.size) := ⟨hP3.ge, by have := HCL.out; omega, hP3.lt⟩
 have hDG : Dig (digl q n (2 :: label)) := dig_digl hq3 hq4 _ _
 have HDG := hid hDG
 clear hP3 hb3 hc2 hc3 HN2 HP2 hDG
 have HOX := hid (HOP.out w3 w1 n dd sp b c d r HOK.out HP3.out (fun W' hW' => HIN.out W' (HB3.out.trans (gb_to hW' HCG.out HB3.out.size))))
 have HFI := hid (fun W => HFJ.out W (r : Int))
 go_wp2_with fail
 refine HOX.out.mono ?_
 rintro e w4 ⟨A, rfl, hA4, hP4, hg4⟩
 obtain ⟨G, hG⟩ : ∃ G, G = og n r := ⟨_, rfl⟩
 rw [<- hG] at hA4 ⊢
 have HGE := hid hG
 obtain ⟨W5, hW5⟩ : ∃ W5, W5 = w4.alloc (.cells (plC A G) 33) := ⟨_, rfl⟩
 obtain ⟨P, hP⟩ : ∃ P, P = w4.heap.size := ⟨_, rfl⟩
 have hb34 : Below w1.heap.size w3 w4 := gb_to hg4 HCG.out HB3.out.size
 have hb45 : Below w4.heap.size w4 W5 := by rw [hW5]; exact (Below.refl _ _).alloc (Nat.le_refl _) _
 have HPB : Hid (W5.heap[P]? = some (.cells (plC A G) 33 (0, 0))) := by unfold Hid; rw [hW5, hP]; exact heap_alloc_new w4 _
 have HB4 : Hid (Below w1.heap.size w1 w4) := HB3.out.trans hb34
 have HB5 : Hid (Below w1.heap.size w1 W5) := HB4.out.trans (hb45.mono HB4.out.size)
 have HP5 := hid (hP4.below hb45)
 have HA5 := hid (hA4.keep hb45)
 have HQ5 : Hid (PCh w1.heap.size q n W5 c' (digl q n (2 :: label))) := by
  have h := HQ3.out.blocks (gb_blk hg4 HQ3.out.lt (fun e => HCC.out.2.1 e.symm)) (fun x hx => hb34.block x hx)
  exact h.below hb45
 have HCD : Hid (c' < W5.heap.size /\ c < W5.heap.size) := ⟨HQ5.out.lt, HP5.out.lt⟩
 have HPC : Hid (∀ W : World, W.heap[P]? = some (.cells (plC A G) 33 (0, 0)) -> W.cell? ⟨P, 0, none⟩ = some (.slice A.a1 G.root.length A.c1) /\ W.cell? ⟨P, 1, none⟩ = some (.slice A.a2 G.mixed.length A.c2) /\ W.cell? ⟨P, 2, none⟩ = some (.slice A.a3 G.point.length A.c3) /\ W.cell? ⟨P, 3, none⟩ = some (.slice A.ap G.ps.length A.cp) /\ W.cell? ⟨P, 4, none⟩ = some (.slice A.ar G.rows.length A.cr) /\ W.cell? ⟨P, 5, none⟩ = some (.slice A.an G.nodes.length A.cn)) := fun W e1 =>
  ⟨by simp [World.cell?, e1], by simp [World.cell?, e1], by simp [World.cell?, e1], by simp [World.cell?, e1], by simp [World.cell?, e1], by simp [World.cell?, e1]⟩
 have HW5 := hid hW5
 have HPE := hid hP
 unfold plC at hW5
 have HWX := hid hW5
 unfold plC
 clear hb34 hb45 hW5 hP HOX HOP HP3 HQ3 hA4 hP4 hg4 hG
 go_wp2_with fail
 rw [<- HWX.out]
 try rw [<- HPE.out]
 refine (HNW.out W5).mono ?_
 rintro e w6 ⟨r2, rfl, hr2, hb6⟩
 obtain rfl : r2 = r := rootIs_unique hr2 HRT.out
 obtain ⟨Q, hQ⟩ : ∃ Q, Q = w6.heap.size := ⟨_, rfl⟩
 obtain ⟨W7, hW7⟩ : ∃ W7, W7 = w6.alloc (.cells #[.int .i64 q, .int .i64 (N : Int), .int .i64 tt, .int .i64 r2] 39) := ⟨_, rfl⟩
 have hb67 : Below w6.heap.size w6 W7 := by rw [hW7]; exact (Below.refl _ _).alloc (Nat.le_refl _) _
 have HQ7 : Hid (W7.heap[Q]? = some (.cells #[.int .i64 q, .int .i64 (N : Int), .int .i64 tt, .int .i64 r2] 39 (0, 0))) := by unfold Hid; rw [hW7, hQ]; exact heap_alloc_new w6 _
 have HB57 : Hid (Below W5.heap.size W5 W7) := hb6.trans (hb67.mono hb6.size)
 have HB7 : Hid (Below w1.heap.size w1 W7) := HB5.out.trans (HB57.out.mono HB5.out.size)
 have HW7 := hid hW7
 have HQE := hid hQ
 have HQC : Hid (∀ W : World, W.heap[Q]? = some (.cells #[.int .i64 q, .int .i64 (N : Int), .int .i64 tt, .int .i64 r2] 39 (0, 0)) -> W.cell? ⟨Q, 0, none⟩ = some (.int .i64 q) /\ W.cell? ⟨Q, 1, none⟩ = some (.int .i64 (N : Int)) /\ W.cell? ⟨Q, 2, none⟩ = some (.int .i64 tt) /\ W.cell? ⟨Q, 3, none⟩ = some (.int .i64 r2)) := fun W e1 => ⟨four0 e1, four1 e1, four2 e1, four3 e1⟩
 obtain ⟨z0, z1, z2, z3⟩ := HQC.out W7 HQ7.out
 clear hr2 hb6 hb67 hW7 hQ HNW
 go_wp2_with fail
 rw [<- HW7.out, <- HQE.out]
 refine (HVR.out W7).mono ?_
 rintro e w' ⟨rfl, hw'⟩
 have hw2 := hw'.symm
 subst hw2
 clear hw' HVR HW7 HQE
 go_wp2_with fail
 refine (HFI.out W7).mono ?_
 rintro e w8 ⟨rfl, hb8⟩
 have HB8 : Hid (Below w1.heap.size w1 w8) := HB7.out.trans (hb8.mono HB7.out.size)
 have HB58 : Hid (Below W5.heap.size W5 w8) := HB57.out.trans (hb8.mono HB57.out.size)
 have HQ8 := hid ((hb8.block Q (Array.getElem?_eq_some_iff.1 HQ7.out).1).trans HQ7.out)
 clear hb8 HFI z0 z1 z2 z3 HQ7 HB7 HB57
 clear HFJ
 go_wp2_with fail
 refine (HTO.out w8 (HRD.out w8 (HIN.out w8 HB8.out).2.2).2.2.2.2).mono ?_
 rintro e w9 ⟨rfl, hb9⟩
 have HB9 : Hid (Below w1.heap.size w1 w9) := HB8.out.trans (hb9.mono HB8.out.size)
 have HB59 : Hid (Below W5.heap.size W5 w9) := HB58.out.trans (hb9.mono HB58.out.size)
 have HQ9 := hid ((hb9.block Q (Array.getElem?_eq_some_iff.1 HQ8.out).1).trans HQ8.out)
 have HBX := hid (HBG.out w9 n HOK.out.pw (HIN.out w9 HB9.out).2.2)
 clear hb9 HTO HB8 HB58 HQ8 HBG
 go_wp2_with fail
 refine HBX.out.mono ?_
 rintro e w10 ⟨rc, rfl, hrc, hR10, hb10⟩
 have HB10 : Hid (Below w1.heap.size w1 w10) := HB9.out.trans (hb10.mono HB9.out.size)
 have HB510 : Hid (Below W5.heap.size W5 w10) := HB59.out.trans (hb10.mono HB59.out.size)
 have HRC : Hid (W5.heap.size <= rc /\ w1.heap.size <= rc) := ⟨Nat.le_trans HB59.out.size hrc, Nat.le_trans HB9.out.size hrc⟩
 obtain ⟨z0, z1, z2, z3⟩ := HQC.out w10 ((hb10.block Q (Array.getElem?_eq_some_iff.1 HQ9.out).1).trans HQ9.out)
 have HOX := hid (HOR.out w10 n rc r2 HOK.out.pw HD1.out.hr1 hR10 (fun W' hW' => (HIN.out W' (HB10.out.trans (gb_to hW' HRC.out.2 HB10.out.size))).2.2))
 clear hrc hR10 hb10 HBX HB9 HB59 HQ9 HOR HQC
 go_wp2_with fail
 refine HOX.out.mono ?_
 rintro e w11 ⟨B, rfl, hA11, hR11, hg11⟩
 rw [<- HGE.out] at hA11 ⊢
 obtain ⟨W12, hW12⟩ : ∃ W12, W12 = w11.alloc (.cells (plC B G) 33) := ⟨_, rfl⟩
 obtain ⟨P2, hP2⟩ : ∃ P2, P2 = w11.heap.size := ⟨_, rfl⟩
 have hb1011 : Below W5.heap.size w10 w11 := gb_to hg11 HRC.out.1 HB510.out.size
 have hb1112 : Below w11.heap.size w11 W12 := by rw [hW12]; exact (Below.refl _ _).alloc (Nat.le_refl _) _
 have HPB2 : Hid (W12.heap[P2]? = some (.cells (plC B G) 33 (0, 0))) := by unfold Hid; rw [hW12, hP2]; exact heap_alloc_new w11 _
 have HB511 : Hid (Below W5.heap.size W5 w11) := HB510.out.trans hb1011
 have HB512 : Hid (Below W5.heap.size W5 W12) := HB511.out.trans (hb1112.mono HB511.out.size)
 have HB12 : Hid (Below w1.heap.size w1 W12) := HB5.out.trans (HB512.out.mono HB5.out.size)
 have HR12 := hid (hR11.below hb1112)
 have HA12 := hid (hA11.step hb1112)
 have HPBX : Hid (W12.heap[P]? = some (.cells (plC A G) 33 (0, 0))) := (HB512.out.block P (Array.getElem?_eq_some_iff.1 HPB.out).1).trans HPB.out
 obtain ⟨x0, x1, x2, x3, x4, x5⟩ := HPC.out W12 HPBX.out
 obtain ⟨y0, y1, y2, y3, y4, y5⟩ : W12.cell? ⟨P2, 0, none⟩ = some (.slice B.a1 G.root.length B.c1) /\ W12.cell? ⟨P2, 1, none⟩ = some (.slice B.a2 G.mixed.length B.c2) /\ W12.cell? ⟨P2, 2, none⟩ = some (.slice B.a3 G.point.length B.c3) /\ W12.cell? ⟨P2, 3, none⟩ = some (.slice B.ap G.ps.length B.cp) /\ W12.cell? ⟨P2, 4, none⟩ = some (.slice B.ar G.rows.length B.cr) /\ W12.cell? ⟨P2, 5, none⟩ = some (.slice B.an G.nodes.length B.cn) := by
  have e1 := HPB2.out
  exact ⟨by simp [World.cell?, e1], by simp [World.cell?, e1], by simp [World.cell?, e1], by simp [World.cell?, e1], by simp [World.cell?, e1], by simp [World.cell?, e1]⟩
 have HPX : Hid (Calls Tryz.prog 12 #[.agg (plC A G), .agg (plC B G)] W12 fun e w' => e = .returned (.bool true) /\ Below W12.heap.size W12 w') := by
  rw [HGE.out]
  exact HPS.out W12 n r2 A B (by rw [<- HGE.out]; exact (HA5.out.keep HB512.out).plw) (by rw [<- HGE.out]; exact HA12.out)
 unfold plC at hW12
 rw [hP2, hW12] at y0 y1 y2 y3 y4 y5
 rw [hW12] at x0 x1 x2 x3 x4 x5
 have HW12 := hid hW12
 have HP2E := hid hP2
 unfold plC
 clear hb1011 hb1112 hW12 hP2 HOX HB510 HB511 hA11 hR11 hg11 z0 z1 z2 z3 HPS HB10
 go_wp2_with fail
 rw [<- HW12.out]
 refine HPX.out.mono ?_
 rintro e w13 ⟨rfl, hb13⟩
 have HB513 : Hid (Below W5.heap.size W5 w13) := HB512.out.trans (hb13.mono HB512.out.size)
 have HR13 := hid (HR12.out.below hb13)
 have HDX := hid (cdigest_ns w1.heap.size q n c (od n r2) w13 (HP5.out.below HB513.out) (HDD.out n r2))
 clear hb13 HPX HB512 HR12 x0 x1 x2 x3 x4 x5 y0 y1 y2 y3 y4 y5 HW12 HP2E HPB2 HPBX HP5
 go_wp2_with fail
 refine HDX.out.mono ?_
 rintro e w14 ⟨g, N', rfl, hg, hrow, hb14⟩
 have HB514 : Hid (Below W5.heap.size W5 w14) := HB513.out.trans (hb14.mono HB513.out.size)
 have HR14 := hid (HR13.out.below hb14)
 obtain ⟨aD, cD, hblk, hnl⟩ := HR14.out
 have hdl := (HDD.out n r2).1
 rw [hdl] at hblk
 have y1 : w14.cell? ⟨rc, 1, none⟩ = some (.slice aD 4 cD) := by simp [World.cell?, hblk]
 have HIX : Hid (Calls Tryz.prog 16 #[.slice (some ⟨g, 0, none⟩) 4 N', .slice aD 4 cD] w14 fun e w' => e = .returned (.bool true) /\ ∃ n, w' = w14.drewN n) := by
  have h := ints_same _ _ (od n r2) (some ⟨g, 0, none⟩) aD N' cD w14 hrow hnl.1.row (by rw [hdl]; omega)
  rw [hdl] at h
  exact h
 clear hrow hb14 hblk hnl HDX HB513 HR13 hg
 go_wp2_with fail
 refine HIX.out.mono ?_
 rintro e w15' ⟨rfl, m1, rfl⟩
 have HB515 := hid (below_drewN HB514.out m1)
 have HR15 : Hid (RCh q (w14.drewN m1) rc (od n r2)) := HR14.out.below (below_drewN (Below.refl _ _) m1)
 generalize w14.drewN m1 = w15 at *
 have HB15 : Hid (Below w1.heap.size w1 w15) := HB5.out.trans (HB515.out.mono HB5.out.size)
 obtain ⟨x0, x1, x2, x3, x4, x5⟩ := HPC.out w15 ((HB515.out.block P (Array.getElem?_eq_some_iff.1 HPB.out).1).trans HPB.out)
 have HCX : Hid (Calls Tryz.prog 17 #[.pointer (some ⟨sp, 0, none⟩), .pointer (some ⟨c', 0, none⟩), .pointer (some ⟨d, 0, none⟩), .int .i64 (v : Int), .slice a5 v c5, .int .i64 (asked : Int), .agg (plC A G)] w15 fun e w' => e = .returned (.tuple #[.int .i64 X, .bool true]) /\ PCh w1.heap.size q n w' c' (od n r2) /\ w15.grownBy w' (some c')) := by
  have h := HCK.out w15 w1 n dd sp b c' d r2 A HOK.out (HQ5.out.below HB515.out) (fun W' hW' => by
   have hb := gb_to hW' HCC.out.1 HB15.out.size
   obtain ⟨i1, i2, i3⟩ := HIN.out W' (HB15.out.trans hb)
   refine ⟨i1, i2, i3, ?_⟩
   rw [<- HGE.out]
   exact ((HA5.out.keep HB515.out).pstep (HQ5.out.below HB515.out) hW').plw)
  rw [<- HGE.out] at h
  exact h
 clear HIX HB514 HR14 y1 HCK hdl
 go_wp2_with fail
 refine HCX.out.mono ?_
 rintro e w16 ⟨rfl, hP16, hg16⟩
 have HB16 : Hid (Below w1.heap.size w1 w16) := HB15.out.trans (gb_to hg16 HCC.out.1 HB15.out.size)
 have HR16 : Hid (RCh q w16 rc (od n r2)) := by
  refine HR15.out.other hg16 (by have := HRC.out.1; have := HCD.out.1; omega) (fun cs f e => ?_)
  obtain ⟨cs', f', h⟩ := pch_typ (HQ5.out.below HB515.out)
  rw [h] at e
  injection e with e
  injection e with _ e _
  exact absurd e (by decide)
 have HDX := hid (cdigest_ns w1.heap.size q n c' (od n r2) w16 hP16 (HDD.out n r2))
 clear hP16 hg16 HCX x0 x1 x2 x3 x4 x5 HR15 HB15 HB515 HPB HPC HQ5 HA5
 go_wp2_with fail
 refine HDX.out.mono ?_
 rintro e w17 ⟨g', N2, rfl, hg, hrow, hb17⟩
 have HB17 : Hid (Below w1.heap.size w1 w17) := HB16.out.trans (hb17.mono HB16.out.size)
 obtain ⟨aD', cD', hblk, hnl⟩ := HR16.out.below hb17
 have hdl := (HDD.out n r2).1
 rw [hdl] at hblk
 have y1 : w17.cell? ⟨rc, 1, none⟩ = some (.slice aD' 4 cD') := by simp [World.cell?, hblk]
 have HIX : Hid (Calls Tryz.prog 16 #[.slice (some ⟨g', 0, none⟩) 4 N2, .slice aD' 4 cD'] w17 fun e w' => e = .returned (.bool true) /\ ∃ n, w' = w17.drewN n) := by
  have h := ints_same _ _ (od n r2) (some ⟨g', 0, none⟩) aD' N2 cD' w17 hrow hnl.1.row (by rw [hdl]; omega)
  rw [hdl] at h
  exact h
 clear hrow hb17 hblk hnl HDX hg hdl HR16 HB16
 go_wp2_with fail
 refine HIX.out.mono ?_
 rintro e w18' ⟨rfl, m2, rfl⟩
 have HB18 := hid (below_drewN HB17.out m2)
 generalize w17.drewN m2 = w18 at *
 clear HIX y1 HB17
 go_wp2_with fail
 refine (sfield_any q n dd b sp w18 (HIN.out w18 HB18.out).1).mono ?_
 rintro e w' ⟨rfl, hw'⟩
 have hwx := hw'.symm
 subst hwx
 have HEX := hid (HEXT.out b w18 (HITX.out w18 sp b n dd (HIN.out w18 HB18.out).1 (HIN.out w18 HB18.out).2.2) (HIN.out w18 HB18.out).2.2)
 clear hw'
 go_wp2_with fail
 refine HEX.out.mono ?_
 rintro e w20 ⟨rfl, hb20⟩
 have HE := hid ((HIN.out w20 (HB18.out.trans (hb20.mono HB18.out.size))).2.2)
 clear hb20 HEX
 go_wp2_with fail
 go_ret
 exact ⟨by first | rfl | simp, HE.out⟩
theorem eopens_walk (p z s asked : Int) (c3 cT c5 : Nat) (a3 aT a5 : Option Addr) (label t at' : List Int) (w : World) (hL : Laid w) (hT : TabAt 2 Lib.deBruijn64tab w) (hp1 : -9223372036854775808 <= p) (hp2 : p <= 9223372036854775807) (hz1 : -9223372036854775808 <= z) (hz2 : z <= 9223372036854775807) (hs1 : -9223372036854775808 <= s) (hs2 : s <= 9223372036854775807)
  (hll : label.length <= 17592186043904) (hfl : Fits label) (h3 : Lst w.heap.size w a3 c3 label) (htl : t.length <= 17592186043904) (hft : Fits t) (hlt : Lst w.heap.size w aT cT t) (hal : at'.length <= 17592186043904) (hfa : Fits at') (h5 : Lst w.heap.size w a5 c5 at') :
  Calls Tryz.prog 3 #[.int .i64 p, .int .i64 z, .int .i64 s, .slice a3 label.length c3, .slice aT t.length cT, .slice a5 at'.length c5, .int .i64 asked] w fun e w' => e = .returned (.bool true) /\ Below w.heap.size w w' := by
 by_cases hg : Good10 p z s
 ·obtain ⟨q, k, rfl, rfl, hg⟩ := hg
  have hN := two_pow_le hg.at'.hk
  rcases eoB_any (2 ^ k) t.length at'.length asked with ⟨v, hv, ht, hf, hat, ha1, ha⟩ | ⟨hno, hb⟩ | ⟨v, hv, ht, hf, hat, hno, hb⟩
  ·obtain ⟨a', rfl⟩ := Int.eq_ofNat_of_zero_le (show 0 <= asked by omega)
   exact eopens_yes q k v c3 cT c5 a' s a3 aT a5 label t at' w hL hT hg hs1 hs2 hll hfl h3 htl hft hlt hal hfa h5 hv hat ht (by omega) (by omega) hf
  ·exact eopens_bad q k c3 cT c5 s asked 2 a3 aT a5 label t at' w hL hT hg hs1 hs2 hll hfl h3 htl hft hlt hal hfa h5 (.inl rfl) hb (fun W sp b c d r s' hD hTW => popen_no sp c b d t.length at'.length cT c5 (2 ^ k) asked r s' aT a5 W hD hN hTW (by omega) hno)
  ·exact eopens_bad q k c3 cT c5 s asked 3 a3 aT a5 label t at' w hL hT hg hs1 hs2 hll hfl h3 htl hft hlt hal hfa h5 (.inr rfl) hb (fun W sp b c d r s' hD hTW => by
    rw [ht, hat]
    exact popen_ask sp c b d v cT c5 (2 ^ k) asked r s' aT a5 W hD hN hTW hv hf hno)
 ·have HTH := hid (things_no p z s w hL hg hp1 hp2 hz1 hz2 hs1 hs2)
  clear h3 h5 hlt hfl hft hfa hL hT
  go_enter Tryz.func3, Tryz.ntmps3
  go_wp2_with fail
  refine HTH.out.mono ?_
  rintro e w1 ⟨rfl, hb1⟩
  have HB1 := hid hb1
  clear hb1
  go_wp2_with fail
  go_ret
  exact ⟨rfl, HB1.out⟩
end Go.Proofs.YtlhjifpomchnfaaGreatDoor
