/- ChainDraws: the walk. -/
import Derived.Test.YtgjkakfkefpgbafDoorChnG
import Derived.Test.YtgjkakfkefpgbafDoorOpenS
import Derived.Test.YtgjkakfkefpgbafDoorSpgT
import Derived.Deep.RegionHeld3
namespace Go.Proofs.YtgjkakfkefpgbafDoor
open Go.RowKit

theorem ownP_first {N0 : Nat} {w : World} (t : TypeId) (c : Nat) (hN : N0 ≤ w.heap.size) : OwnP N0 (w.alloc (.cells #[.pointer (some ⟨c, 0, none⟩)] t)) t (.slice (some ⟨w.heap.size, 0, none⟩) 1 1) (lsn (fun _ => c) (0 + 1)) := (OwnP.one w t c).mono hN

set_option maxRecDepth 100000 in
set_option maxHeartbeats 4000000 in
theorem hdraws_good (q : Nat) (a1 a2 : Option Addr) (c1 c2 : Nat) (zl : List Int) (sc : List OpZ) (w : World) (h23 : 23 ≤ q) (h4 : q ≤ 2147483647) (hpr : Num.Prime q)
    (hr1 : zl.length ≤ 17592186043904) (hf1 : Fits zl) (hl1 : Lst w.heap.size w a1 c1 zl) (hr2 : sc.length ≤ 3518437208780 ∧ ∀ k, k < sc.length → (oat sc k).l.length ≤ 17592186043904) (hf2 : FitsO sc) (hl2 : LstO w.heap.size w a2 c2 sc) :
    Calls Tryd.prog 3 #[.int .i64 q, .slice a1 zl.length c1, .slice a2 sc.length c2] w fun e w' => e = .returned (.bool true) ∧ Below w.heap.size w w' := by
  have HP := hid hpr
  have HF := hid hf1
  have HL1 := hid hl1
  have HL2 := hid hl2
  have HF2 := hid hf2
  have HR2 := hid hr2.2
  have hscl := hr2.1
  obtain ⟨L, hL⟩ : ∃ L, L = sc.length := ⟨_, rfl⟩
  rw [← hL] at hscl ⊢
  have HLL := hid hL
  clear hpr hf1 hl1 hl2 hf2 hr2 hL
  go_enter Tryd.func3, Tryd.ntmps3
  go_wp2_with fail
  refine (sponge_yes q w h23 h4 HP.out).mono ?_
  rintro e w1 ⟨s, b, n, d, rfl, hok, hat, hb1⟩
  have HB1 := hid hb1
  have HPW := hid hok.pw
  obtain ⟨N0, hN0⟩ : ∃ N0, N0 = w1.heap.size := ⟨_, rfl⟩
  have HNW := hid (cnew_any N0 q n d s b c1 a1 zl w1 hok hat (by omega) (by rw [hN0]; exact hat.lt) (by rw [hN0]; exact hat.ltb) hr1 HF.out ((HL1.out.below hb1).mono hb1.size))
  clear hok hat hb1
  go_wp2_with fail
  refine HNW.out.mono ?_
  rintro e w2 ⟨c0, rfl, hc0, hPc, hb2⟩
  have HB2 : Hid (Below w.heap.size w w2) := HB1.out.trans (hb2.mono HB1.out.size)
  have HPC := hid hPc
  have HS2 := hid hb2.size
  have HBG := hid (rbegin_any q n c1 a1 zl w2 (by omega) h4 HPW.out (by omega) HF.out ((HL1.out.below HB2.out).mono HB2.out.size))
  clear hPc hb2 HNW
  go_wp2_with fail
  refine HBG.out.mono ?_
  rintro e w3 ⟨r0, rfl, hr0, hRc, hb3⟩
  have HB3 : Hid (Below w.heap.size w w3) := HB2.out.trans (hb3.mono HB2.out.size)
  have HPC3 := hid (HPC.out.below hb3)
  have HRC3 := hid hRc
  have hN3 : N0 ≤ w3.heap.size := by have := hb3.size; have := HS2.out; omega
  have hr0N : N0 ≤ r0 := by have := HS2.out; omega
  have HD0 : Hid (Dig (digl q n (2 :: zl))) := dig_digl (by omega) h4 n _
  generalize digl q n (2 :: zl) = D0 at *
  clear hRc hb3 HBG HPC
  have HST : Hid (StD N0 q n 0 (fun _ => c0) (fun _ => r0) (fun _ => D0) (.slice (some ⟨w3.heap.size, 0, none⟩) 1 1) (.slice (some ⟨w3.heap.size + 1, 0, none⟩) 1 1) w ((w3.alloc (.cells #[.pointer (some ⟨c0, 0, none⟩)] 27)).alloc (.cells #[.pointer (some ⟨r0, 0, none⟩)] 29))) := by
    have b1 : Below w3.heap.size w3 (w3.alloc (.cells #[.pointer (some ⟨c0, 0, none⟩)] 27)) := (Below.refl _ _).alloc (Nat.le_refl _) _
    have e1 : (w3.alloc (.cells #[.pointer (some ⟨c0, 0, none⟩)] 27)).heap.size = w3.heap.size + 1 := by simp
    have o1 := ownP_first (N0 := N0) (w := w3) 27 c0 hN3
    generalize w3.alloc (.cells #[.pointer (some ⟨c0, 0, none⟩)] 27) = W1 at *
    have b2 : Below W1.heap.size W1 (W1.alloc (.cells #[.pointer (some ⟨r0, 0, none⟩)] 29)) := (Below.refl _ _).alloc (Nat.le_refl _) _
    have o2 := ownP_first (N0 := N0) (w := W1) 29 r0 (by omega)
    rw [e1] at o2
    refine ⟨⟨fun i _ => (HPC3.out.below b1).below b2, fun i _ => (HRC3.out.below b1).below b2, fun i _ => HD0.out, fun i _ => hr0N, fun i j h1 h2 => by omega⟩, o1.below b2, o2, (HB3.out.trans (b1.mono HB3.out.size)).trans (b2.mono (by have := HB3.out.size; omega)), by have := HB1.out.size; omega⟩
  clear HPC3 HRC3 HD0 hc0 hr0 hr0N HB2 HB3 HS2 hN3 hN0
  go_wp2_with fail
  go_loopw [11, 12, 13] (fun lv mv iv wr => ∃ k : Nat, k ≤ L ∧ iv = .int .i64 k ∧ ∃ (m : Nat) (c r : Nat → Nat) (D : Nat → List Int), m ≤ k ∧ Hid (StD N0 q n m c r D lv mv w wr))
    (fun _ _ iv _ => L - (intOf iv).toNat)
  case atStart => exact ⟨0, by omega, rfl, 0, _, _, _, by omega, HST⟩
  case round =>
    obtain ⟨k, hk, rfl, m, c, r, D, hmk0, hC⟩ := hrel
    clear HST
    by_cases hlt : k < L
    · have hlt2 : (k : Int) < (L : Int) := by omega
      have hks : IntKind.i64.wrap ((k : Int) + 1) = (k : Int) + 1 := by rw [IntKind.wrap_i64]; omega
      obtain ⟨bs, os', ak, ck, rfl, hbs, z0, z1, z2, hlz⟩ := HL2.out.row k (by rw [← HLL.out]; exact hlt)
      obtain ⟨_, _, hfz⟩ := HF2.out k (by rw [← HLL.out]; exact hlt)
      have hlzl := HR2.out k (by rw [← HLL.out]; exact hlt)
      have s0 := (hC.out.bel.cell (p := ⟨bs, os' + k * 3, none⟩) hbs).trans z0
      have s1 := (hC.out.bel.cell (p := ⟨bs, os' + k * 3 + 1, none⟩) hbs).trans z1
      have s2 := (hC.out.bel.cell (p := ⟨bs, os' + k * 3 + 2, none⟩) hbs).trans z2
      have HLZ := hid hlz
      have HFZ := hid hfz
      clear z0 z1 z2 hlz hfz hbs
      obtain ⟨kd, hkd⟩ : ∃ kd, kd = (oat sc k).kind := ⟨_, rfl⟩
      obtain ⟨nm, hnm⟩ : ∃ nm, nm = (oat sc k).num := ⟨_, rfl⟩
      obtain ⟨lz, hlz⟩ : ∃ lz, lz = (oat sc k).l := ⟨_, rfl⟩
      rw [← hkd] at s0
      rw [← hnm] at s1
      rw [← hlz] at s2 HLZ HFZ hlzl
      clear hkd hnm hlz
      obtain ⟨gl, cl, gm, cm, rfl, rfl, hgl, hgm, hform⟩ := hC.out.form
      have HF0 := hid hform
      have hba : Below wr.heap.size wr (wr.alloc (.cells #[.int .i64 kd, .int .i64 nm, .slice ak lz.length ck] 34)) := (Below.refl _ _).alloc (Nat.le_refl _) _
      have HS0 := hid (hC.out.below hba)
      have HF1 := hid (hform.below hba)
      have HO0 := hid (tri_arr (tri_new wr 34 (.int .i64 kd) (.int .i64 nm) (.slice ak lz.length ck)))
      have HLZ0 := hid (HLZ.out.below (hC.out.bel.trans (hba.mono hC.out.bel.size)))
      have d0 := trio_c0 HO0.out
      have hsz : wr.heap.size < (wr.alloc (.cells #[.int .i64 kd, .int .i64 nm, .slice ak lz.length ck] 34)).heap.size := by simp
      obtain ⟨W0, hW0⟩ : ∃ W0, W0 = wr.alloc (.cells #[.int .i64 kd, .int .i64 nm, .slice ak lz.length ck] 34) := ⟨_, rfl⟩
      rw [← hW0] at HS0 HF1 HO0 HLZ0 d0 hsz
      obtain ⟨M, hM⟩ : ∃ M, M = m + 1 := ⟨_, rfl⟩
      rw [← hM]
      have HMQ := hid hM
      have y1 : IntKind.i64.wrap (m : Int) = (m : Int) := by rw [IntKind.wrap_i64]; omega
      have y3 : (M : Int) - 1 = (m : Int) := by omega
      have y4 : (m : Int) < (M : Int) := by omega
      clear hform hba HF0 hM
      by_cases k5 : kd = 5
      · subst k5
        have x1 := HF1.out.l
        have HFK := hid (cfork_any N0 q n (c m) (D m) W0 (HS0.out.chs.pc m (Nat.le_refl _)))
        obtain ⟨cx0, hcx0⟩ : ∃ cx0, cx0 = c m := ⟨_, rfl⟩
        rw [← hcx0] at x1 HFK
        clear hcx0
        rw [hW0] at d0 x1
        go_wp2_with fail
        rw [← hW0]
        clear hW0 d0 x1 s0 s1 s2
        refine HFK.out.mono ?_
        rintro e w4 ⟨c', rfl, hc', hP4, hb4⟩
        have HS4 := hid (HS0.out.below hb4)
        have HF4 := hid (HF1.out.below hb4)
        have HP4 := hid hP4
        have HC4 : Hid (∀ i, i ≤ m → c i < c') := fun i hi => by have := (HS0.out.chs.pc i hi).lt; omega
        obtain ⟨ad, cd, hrb, hrn⟩ := HS4.out.chs.rc m (Nat.le_refl _)
        have hb5 : Below w4.heap.size w4 (w4.alloc (.cells #[] 3)) := (Below.refl _ _).alloc (Nat.le_refl _) _
        have x2 := (HF4.out.below hb5).mm
        have x3 := duo1 ((hb5.block _ (Array.getElem?_eq_some_iff.1 hrb).1).trans hrb)
        have HRN := hid hrn.1
        have HDL := hid (HS4.out.chs.dg m (Nat.le_refl _)).1
        obtain ⟨rx0, hrx0⟩ : ∃ rx0, rx0 = r m := ⟨_, rfl⟩
        obtain ⟨Dm, hDm⟩ : ∃ Dm, Dm = D m := ⟨_, rfl⟩
        rw [← hrx0] at x2 x3
        rw [← hDm] at x3 HRN HDL HP4
        have HDm := hid hDm
        clear hrx0 hDm hrb hrn hb5 hb4 hP4 hc' HFK HS0 HF1 HO0 HLZ0 hsz hC
        go_wp2_with (at_builtin; refine wpList_copyN w4 w4.heap.size w4.heap.size rfl rfl _ _ rfl rfl ad cd Dm rfl (by rw [HDL.out]; omega) (Nat.le_refl _) HRN.out ?_)
        intro a5 c5 w5 hn5 hb5
        have HS5 := hid (HS4.out.below hb5)
        have HF5 := hid (HF4.out.below hb5)
        have HP5 := hid (HP4.out.below hb5)
        have HN5 := hid hn5
        have HL5 : Hid (OwnP N0 w5 27 (.slice (some ⟨gl, 0, none⟩) M cl) (lsn c (m + 1))) := by rw [HMQ.out]; exact HS5.out.l
        have hN5 : N0 ≤ w5.heap.size := by have := (HP5.out).ge; have := HP5.out.lt; omega
        clear hn5 hb5 HS4 HF4 HP4 HRN x2 x3
        go_wp2_with (at_builtin; refine wpList_ptr1 w5 N0 31 27 Tryd.underlying31 (by kernel_rfl) rfl _ _ rfl _ (lsn c (m + 1)) c' HL5.out rfl rfl (by rw [lsn_len]; omega) hN5 ?_)
        intro v3 w6 ho3 _ hg6
        have HO3 := hid ho3
        have HG6 : Hid (w5.grownBy w6 (some gl)) := hg6
        have hs6 : (w6.alloc (.cells #[.int .i64 (q : Int), .slice a5 Dm.length c5] 37)).heap.size = w6.heap.size + 1 := by simp
        have HSZ6 := hid hs6
        have HM6 : Hid (OwnP N0 (w6.alloc (.cells #[.int .i64 (q : Int), .slice a5 Dm.length c5] 37)) 29 (.slice (some ⟨gm, 0, none⟩) M cm) (lsn r (m + 1))) := by
          rw [HMQ.out]
          refine OwnP.below ?_ ((Below.refl _ _).alloc (Nat.le_refl _) _)
          refine HS5.out.m.kept hg6 (.inr ?_)
          intro e
          injection e with e
          obtain ⟨_, _, _, h1⟩ := HF5.out.lb
          obtain ⟨_, _, _, h2⟩ := HF5.out.mb
          exact typ_ne h2 h1 (by decide) e
        have hN6 : N0 ≤ (w6.alloc (.cells #[.int .i64 (q : Int), .slice a5 Dm.length c5] 37)).heap.size := by have := hg6.size; omega
        have HNN6 := hid hN6
        clear ho3 hg6 hs6 hN6 HL5
        go_wp2_with (at_builtin; refine wpList_ptr1 (w6.alloc (.cells #[.int .i64 (q : Int), .slice a5 Dm.length c5] 37)) N0 32 29 Tryd.underlying32 (by kernel_rfl) rfl _ _ rfl _ (lsn r (m + 1)) w6.heap.size HM6.out rfl (by rw [HSZ6.out]; rfl) (by rw [lsn_len]; omega) HNN6.out ?_)
        intro v5 w7 ho5 _ hg7
        have HT : Hid (StD N0 q n (m + 1) (upn c (m + 1) c') (upn r (m + 1) w6.heap.size) (upn D (m + 1) (D m)) v3 v5 w w7) := by
          refine HS5.out.push (a2 := a5) (c2 := c5) HF5.out hgl hgm ?_ HC4.out ?_ HO3.out HG6.out ho5 ?_
          · rw [← HDm.out]; exact HP5.out
          · rw [← HDm.out]; exact HN5.out
          · rw [← HDm.out]; exact hg7
        obtain ⟨gl', cl', gm', cm', e1, e2, _, _, hform⟩ := HT.out.form
        subst e1
        subst e2
        have HF := hid hform
        clear HMQ y1 y3 y4 ho5 hg7 hform HM6 HG6 HO3 HS5 HF5 HP5 HN5 HC4 HDL HDm HSZ6 HNN6
        obtain ⟨M2, hM2⟩ : ∃ M2, M2 = m + 1 + 1 := ⟨_, rfl⟩
        rw [← hM2]
        have HMQ := hid hM2
        clear hM2
        obtain ⟨ad, cd, hrb, hrn⟩ := HT.out.chs.rc (m + 1) (Nat.le_refl _)
        have x1 := HF.out.l
        have x2 := HF.out.mm
        have hD4 := (HT.out.chs.dg (m + 1) (Nat.le_refl _)).1
        rw [hD4] at hrb
        have x3 := duo1 hrb
        have HRB := hid hrb
        have HRN := hid hrn
        have HD4 := hid hD4
        have HDG := hid (cdigest_any N0 q n ((upn c (m + 1) c') (m + 1)) ((upn D (m + 1) (D m)) (m + 1)) w7 (HT.out.chs.pc (m + 1) (Nat.le_refl _)) (HT.out.chs.dg (m + 1) (Nat.le_refl _)))
        have hmk : ((m + 1) : Nat) ≤ k + 1 := by omega
        clear hrb hrn hD4
        obtain ⟨cx, hcx⟩ : ∃ cx, cx = (upn c (m + 1) c') (m + 1) := ⟨_, rfl⟩
        obtain ⟨rx, hrx⟩ : ∃ rx, rx = (upn r (m + 1) w6.heap.size) (m + 1) := ⟨_, rfl⟩
        obtain ⟨mx, hmx⟩ : ∃ mx, mx = (m + 1) := ⟨_, rfl⟩
        rw [← hcx] at x1 HDG
        rw [← hrx] at x2 x3 HRB
        rw [← hmx] at x1 x2 hmk HMQ
        have HMX := hid hmx
        have y1 : IntKind.i64.wrap ((mx : Nat) : Int) = ((mx : Nat) : Int) := by rw [IntKind.wrap_i64]; omega
        have y3 : (M2 : Int) - 1 = (mx : Int) := by have := HMQ.out; omega
        have y4 : (mx : Int) < (M2 : Int) := by have := HMQ.out; omega
        clear hcx hrx hmx
        go_wp2_with fail
        refine HDG.out.mono ?_
        rintro e w7 ⟨g, Ng, rfl, hg, hrow, hb7, hspl⟩
        have HB7 := hid hb7
        have HG7 := hid hg
        have HSPL := hid hspl
        have HIN := hid (ints_same _ _ ((upn D (m + 1) (D m)) (m + 1)) (some ⟨g, 0, none⟩) ad Ng cd w7 hrow (HRN.out.below hb7).1.row (by rw [HD4.out]; omega))
        rw [HD4.out] at HIN
        have x2' := (hb7.cell (p := ⟨gm', mx, none⟩) HF.out.mb.1).trans x2
        have x3' := duo1 ((hb7.block _ (Array.getElem?_eq_some_iff.1 HRB.out).1).trans HRB.out)
        clear hg hrow hb7 hspl HDG x1 x2 x3
        go_wp2_with fail
        refine HIN.out.mono ?_
        rintro e w8 ⟨rfl, nd, rfl⟩
        clear HIN x2' x3'
        have HSP := hid (HSPL.out (w7.drewN nd) rfl)
        go_wp2_with fail
        refine HSP.out.mono ?_
        rintro e w9 ⟨rfl, hg9⟩
        have HT9 := hid (HT.out.below ((below_drewN HB7.out nd).trans (gb_to hg9 HG7.out (by show _ ≤ w7.heap.size; exact HB7.out.size))))
        rw [← HMX.out, ← HMQ.out] at HT9
        clear HSP hg9 HSPL HB7 HG7 HRN HRB HT HF
        go_wp2_with fail
        go_roundw
        case rel => exact ⟨k + 1, by omega, by go_num, mx, _, _, _, by omega, HT9⟩
        case measure => simp [intOf]; omega
      by_cases k6 : kd = 6
      · subst k6
        by_cases hm0 : m = 0
        · have t0 : ¬ (m : Int) > 0 := by omega
          have HT := HS0
          have HF := HF1
          rw [hW0] at d0
          clear HS0 HF1 HO0 hC HLZ0 hsz hm0 y1 y3 y4
          obtain ⟨ad, cd, hrb, hrn⟩ := HT.out.chs.rc m (Nat.le_refl _)
          have x1 := HF.out.l
          have x2 := HF.out.mm
          have hD4 := (HT.out.chs.dg m (Nat.le_refl _)).1
          rw [hD4] at hrb
          have x3 := duo1 hrb
          have HRB := hid hrb
          have HRN := hid hrn
          have HD4 := hid hD4
          have HDG := hid (cdigest_any N0 q n (c m) (D m) W0 (HT.out.chs.pc m (Nat.le_refl _)) (HT.out.chs.dg m (Nat.le_refl _)))
          have hmk : (m : Nat) ≤ k + 1 := by omega
          clear hrb hrn hD4
          obtain ⟨cx, hcx⟩ : ∃ cx, cx = c m := ⟨_, rfl⟩
          obtain ⟨rx, hrx⟩ : ∃ rx, rx = r m := ⟨_, rfl⟩
          obtain ⟨mx, hmx⟩ : ∃ mx, mx = m := ⟨_, rfl⟩
          rw [← hcx] at x1 HDG
          rw [← hrx] at x2 x3 HRB
          rw [← hmx] at x1 x2 hmk HMQ t0
          have HMX := hid hmx
          have y1 : IntKind.i64.wrap ((mx : Nat) : Int) = ((mx : Nat) : Int) := by rw [IntKind.wrap_i64]; omega
          have y3 : (M : Int) - 1 = (mx : Int) := by have := HMQ.out; omega
          have y4 : (mx : Int) < (M : Int) := by have := HMQ.out; omega
          clear hcx hrx hmx
          rw [hW0] at x1
          go_wp2_with fail
          rw [← hW0] at x1 ⊢
          clear hW0 d0
          refine HDG.out.mono ?_
          rintro e w7 ⟨g, Ng, rfl, hg, hrow, hb7, hspl⟩
          have HB7 := hid hb7
          have HG7 := hid hg
          have HSPL := hid hspl
          have HIN := hid (ints_same _ _ (D m) (some ⟨g, 0, none⟩) ad Ng cd w7 hrow (HRN.out.below hb7).1.row (by rw [HD4.out]; omega))
          rw [HD4.out] at HIN
          have x2' := (hb7.cell (p := ⟨gm, mx, none⟩) HF.out.mb.1).trans x2
          have x3' := duo1 ((hb7.block _ (Array.getElem?_eq_some_iff.1 HRB.out).1).trans HRB.out)
          clear hg hrow hb7 hspl HDG x1 x2 x3
          go_wp2_with fail
          refine HIN.out.mono ?_
          rintro e w8 ⟨rfl, nd, rfl⟩
          clear HIN x2' x3'
          have HSP := hid (HSPL.out (w7.drewN nd) rfl)
          go_wp2_with fail
          refine HSP.out.mono ?_
          rintro e w9 ⟨rfl, hg9⟩
          have HT9 := hid (HT.out.below ((below_drewN HB7.out nd).trans (gb_to hg9 HG7.out (by show _ ≤ w7.heap.size; exact HB7.out.size))))
          rw [← HMX.out, ← HMQ.out] at HT9
          clear HSP hg9 HSPL HB7 HG7 HRN HRB HT HF
          go_wp2_with fail
          go_roundw
          case rel => exact ⟨k + 1, by omega, by go_num, mx, _, _, _, by omega, HT9⟩
          case measure => simp [intOf]; omega
        · obtain ⟨m0, hmm⟩ : ∃ m0, m = m0 + 1 := ⟨m - 1, by omega⟩
          have t0 : (m : Int) > 0 := by omega
          have hcl : (m : Int) ≤ (cl : Int) := by have := HF1.out.lc; omega
          have hcm : (m : Int) ≤ (cm : Int) := by have := HF1.out.mc; omega
          have HT : Hid (StD N0 q n m0 c r D (.slice (some ⟨gl, 0, none⟩) m cl) (.slice (some ⟨gm, 0, none⟩) m cm) w W0) := by
            have h0 := HS0.out
            rw [hmm] at h0 ⊢
            exact h0.pop
          have HMQ2 := hid hmm
          have HF : Hid (StF m0 c r gl cl gm cm W0) := by
            have hT := HT.out
            rw [hmm] at hT
            obtain ⟨_, _, _, _, e1, e2, _, _, hform⟩ := hT.form
            cases e1
            cases e2
            exact hform
          rw [hW0] at d0
          have hm0k : m0 ≤ k := by omega
          have z1 := y1
          have z3 := y3
          have z4 := y4
          clear HS0 HF1 HO0 hC HMQ hm0 hmm HLZ0 hsz y1 y3 y4
          have HMQ := HMQ2
          clear HMQ2
          obtain ⟨ad, cd, hrb, hrn⟩ := HT.out.chs.rc m0 (Nat.le_refl _)
          have x1 := HF.out.l
          have x2 := HF.out.mm
          have hD4 := (HT.out.chs.dg m0 (Nat.le_refl _)).1
          rw [hD4] at hrb
          have x3 := duo1 hrb
          have HRB := hid hrb
          have HRN := hid hrn
          have HD4 := hid hD4
          have HDG := hid (cdigest_any N0 q n (c m0) (D m0) W0 (HT.out.chs.pc m0 (Nat.le_refl _)) (HT.out.chs.dg m0 (Nat.le_refl _)))
          have hmk : (m0 : Nat) ≤ k + 1 := by omega
          clear hrb hrn hD4
          obtain ⟨cx, hcx⟩ : ∃ cx, cx = c m0 := ⟨_, rfl⟩
          obtain ⟨rx, hrx⟩ : ∃ rx, rx = r m0 := ⟨_, rfl⟩
          obtain ⟨mx, hmx⟩ : ∃ mx, mx = m0 := ⟨_, rfl⟩
          rw [← hcx] at x1 HDG
          rw [← hrx] at x2 x3 HRB
          rw [← hmx] at x1 x2 hmk HMQ
          have HMX := hid hmx
          have y1 : IntKind.i64.wrap ((mx : Nat) : Int) = ((mx : Nat) : Int) := by rw [IntKind.wrap_i64]; omega
          have y3 : (m : Int) - 1 = (mx : Int) := by have := HMQ.out; omega
          have y4 : (mx : Int) < (m : Int) := by have := HMQ.out; omega
          clear hcx hrx hmx
          rw [hW0] at x1
          go_wp2_with fail
          rw [← hW0] at x1 ⊢
          clear hW0 d0
          refine HDG.out.mono ?_
          rintro e w7 ⟨g, Ng, rfl, hg, hrow, hb7, hspl⟩
          have HB7 := hid hb7
          have HG7 := hid hg
          have HSPL := hid hspl
          have HIN := hid (ints_same _ _ (D m0) (some ⟨g, 0, none⟩) ad Ng cd w7 hrow (HRN.out.below hb7).1.row (by rw [HD4.out]; omega))
          rw [HD4.out] at HIN
          have x2' := (hb7.cell (p := ⟨gm, mx, none⟩) HF.out.mb.1).trans x2
          have x3' := duo1 ((hb7.block _ (Array.getElem?_eq_some_iff.1 HRB.out).1).trans HRB.out)
          clear hg hrow hb7 hspl HDG x1 x2 x3
          go_wp2_with fail
          refine HIN.out.mono ?_
          rintro e w8 ⟨rfl, nd, rfl⟩
          clear HIN x2' x3'
          have HSP := hid (HSPL.out (w7.drewN nd) rfl)
          go_wp2_with fail
          refine HSP.out.mono ?_
          rintro e w9 ⟨rfl, hg9⟩
          have HT9 := hid (HT.out.below ((below_drewN HB7.out nd).trans (gb_to hg9 HG7.out (by show _ ≤ w7.heap.size; exact HB7.out.size))))
          rw [← HMX.out] at HT9
          clear HSP hg9 HSPL HB7 HG7 HRN HRB HT HF
          go_wp2_with fail
          go_roundw
          case rel => exact ⟨k + 1, by omega, by go_num, mx, _, _, _, by omega, HT9⟩
          case measure => simp [intOf]; omega
      have t5 : (kd == 5) = false := by simp [k5]
      have t6 : (kd == 6) = false := by simp [k6]
      have x1 := HF1.out.l
      have x2 := HF1.out.mm
      have d1 := trio_c1 HO0.out
      have d2 := trio_c2 HO0.out
      have HDN : Hid (Calls Tryd.prog 8 #[.pointer (some ⟨c m, 0, none⟩), .pointer (some ⟨r m, 0, none⟩), .agg #[.int .i64 kd, .int .i64 nm, .slice ak lz.length ck]] W0.drew fun e w' => e = .returned (.bool true) ∧ Hid (∃ D', StD N0 q n m c r D' (.slice (some ⟨gl, 0, none⟩) (m + 1) cl) (.slice (some ⟨gm, 0, none⟩) (m + 1) cm) w w') ∧ w'.cell? ⟨gl, m, none⟩ = some (.pointer (some ⟨c m, 0, none⟩)) ∧ w'.cell? ⟨gm, m, none⟩ = some (.pointer (some ⟨r m, 0, none⟩)) ∧ w'.cell? ⟨wr.heap.size, 0, none⟩ = some (.int .i64 kd) ∧ w'.cell? ⟨wr.heap.size, 1, none⟩ = some (.int .i64 nm) ∧ w'.cell? ⟨wr.heap.size, 2, none⟩ = some (.slice ak lz.length ck)) := by
        have hbd : Below W0.heap.size W0 W0.drew := (Below.refl _ _).drew
        have hSd := HS0.out.below hbd
        have hlo := hSd.lo
        have hcg := (hSd.chs.pc m (Nat.le_refl _)).ge
        have hrg := hSd.chs.ge m (Nat.le_refl _)
        refine (done_any (N0 := N0) (by omega) h4 HPW.out w.heap.size (c m) (r m) ck kd nm ak lz (D m) W0.drew hrg (hSd.chs.pc m (Nat.le_refl _)) (hSd.chs.rc m (Nat.le_refl _)) (hSd.chs.dg m (Nat.le_refl _)) hlzl HFZ.out (by omega) (by omega) (HLZ0.out.below (hbd.mono HS0.out.bel.size))).mono ?_
        rintro e w' ⟨rfl, hdn⟩
        obtain ⟨D', hT⟩ := hSd.turn hdn
        obtain ⟨E, hE, hP, hR, hp⟩ := hdn
        obtain ⟨_, _, hc⟩ := (hSd.chs.pc m (Nat.le_refl _)).typ
        obtain ⟨_, _, hr⟩ := (hSd.chs.rc m (Nat.le_refl _)).typ
        obtain ⟨hl1, _, _, hl2⟩ := (HF1.out.below hbd).lb
        obtain ⟨hm1, _, _, hm2⟩ := (HF1.out.below hbd).mb
        have eO := hp.block wr.heap.size hsz (typ_ne HO0.out hc (by decide)) (typ_ne HO0.out hr (by decide))
        refine ⟨rfl, ⟨D', hT⟩, (World.cell?_of_block (w := W0.drew) (a := ⟨gl, m, none⟩) (hp.block gl hl1 (typ_ne hl2 hc (by decide)) (typ_ne hl2 hr (by decide)))).trans x1, (World.cell?_of_block (w := W0.drew) (a := ⟨gm, m, none⟩) (hp.block gm hm1 (typ_ne hm2 hc (by decide)) (typ_ne hm2 hr (by decide)))).trans x2, (World.cell?_of_block (w := W0.drew) (a := ⟨wr.heap.size, 0, none⟩) eO).trans d0, (World.cell?_of_block (w := W0.drew) (a := ⟨wr.heap.size, 1, none⟩) eO).trans d1, (World.cell?_of_block (w := W0.drew) (a := ⟨wr.heap.size, 2, none⟩) eO).trans d2⟩
      obtain ⟨cx0, hcx0⟩ : ∃ cx0, cx0 = c m := ⟨_, rfl⟩
      obtain ⟨rx0, hrx0⟩ : ∃ rx0, rx0 = r m := ⟨_, rfl⟩
      rw [← hcx0] at HDN x1
      rw [← hrx0] at HDN x2
      clear hcx0 hrx0
      have hd1 : Below W0.heap.size W0 W0.drew := (Below.refl _ _).drew
      rw [hW0] at d0
      go_wp2_with fail
      rw [← hW0] at d0 ⊢
      clear hW0
      go_region_held3 (fun W => W.cell? ⟨gl, m, none⟩ = some (.pointer (some ⟨cx0, 0, none⟩)) ∧ W.cell? ⟨gm, m, none⟩ = some (.pointer (some ⟨rx0, 0, none⟩)) ∧ W.cell? ⟨wr.heap.size, 0, none⟩ = some (.int .i64 kd) ∧ W.cell? ⟨wr.heap.size, 1, none⟩ = some (.int .i64 nm) ∧ W.cell? ⟨wr.heap.size, 2, none⟩ = some (.slice ak lz.length ck)) (first | assumption | exact ⟨x1, x2, d0, d1, d2⟩)
        (first
          | (go_at_call 8; refine HDN.out.mono ?_; rintro e w' ⟨rfl, HTT, hkeep⟩))
      obtain ⟨D', hT'⟩ := HTT.out
      have HT := hid hT'
      obtain ⟨gl', cl', gm', cm', e1, e2, _, _, hform⟩ := hT'.form
      cases e1
      cases e2
      have HF := hid hform
      clear hT' hform hkeep HTT HDN x1 x2 d0 d1 d2 HS0 HF1 HO0 hC y1 y3 y4
      obtain ⟨ad, cd, hrb, hrn⟩ := HT.out.chs.rc m (Nat.le_refl _)
      have x1 := HF.out.l
      have x2 := HF.out.mm
      have hD4 := (HT.out.chs.dg m (Nat.le_refl _)).1
      rw [hD4] at hrb
      have x3 := duo1 hrb
      have HRB := hid hrb
      have HRN := hid hrn
      have HD4 := hid hD4
      have HDG := hid (cdigest_any N0 q n (c m) (D' m) w' (HT.out.chs.pc m (Nat.le_refl _)) (HT.out.chs.dg m (Nat.le_refl _)))
      have hmk : (m : Nat) ≤ k + 1 := by omega
      clear hrb hrn hD4
      obtain ⟨cx, hcx⟩ : ∃ cx, cx = c m := ⟨_, rfl⟩
      obtain ⟨rx, hrx⟩ : ∃ rx, rx = r m := ⟨_, rfl⟩
      obtain ⟨mx, hmx⟩ : ∃ mx, mx = m := ⟨_, rfl⟩
      rw [← hcx] at x1 HDG
      rw [← hrx] at x2 x3 HRB
      rw [← hmx] at x1 x2 hmk HMQ
      have HMX := hid hmx
      have y1 : IntKind.i64.wrap ((mx : Nat) : Int) = ((mx : Nat) : Int) := by rw [IntKind.wrap_i64]; omega
      have y3 : (M : Int) - 1 = (mx : Int) := by have := HMQ.out; omega
      have y4 : (mx : Int) < (M : Int) := by have := HMQ.out; omega
      clear hcx hrx hmx
      go_wp2_with fail
      refine HDG.out.mono ?_
      rintro e w7 ⟨g, Ng, rfl, hg, hrow, hb7, hspl⟩
      have HB7 := hid hb7
      have HG7 := hid hg
      have HSPL := hid hspl
      have HIN := hid (ints_same _ _ (D' m) (some ⟨g, 0, none⟩) ad Ng cd w7 hrow (HRN.out.below hb7).1.row (by rw [HD4.out]; omega))
      rw [HD4.out] at HIN
      have x2' := (hb7.cell (p := ⟨gm, mx, none⟩) HF.out.mb.1).trans x2
      have x3' := duo1 ((hb7.block _ (Array.getElem?_eq_some_iff.1 HRB.out).1).trans HRB.out)
      clear hg hrow hb7 hspl HDG x1 x2 x3
      go_wp2_with fail
      refine HIN.out.mono ?_
      rintro e w8 ⟨rfl, nd, rfl⟩
      clear HIN x2' x3'
      have HSP := hid (HSPL.out (w7.drewN nd) rfl)
      go_wp2_with fail
      refine HSP.out.mono ?_
      rintro e w9 ⟨rfl, hg9⟩
      have HT9 := hid (HT.out.below ((below_drewN HB7.out nd).trans (gb_to hg9 HG7.out (by show _ ≤ w7.heap.size; exact HB7.out.size))))
      rw [← HMX.out, ← HMQ.out] at HT9
      clear HSP hg9 HSPL HB7 HG7 HRN HRB HT HF
      go_wp2_with fail
      go_roundw
      case rel => exact ⟨k + 1, by omega, by go_num, mx, _, _, _, by omega, HT9⟩
      case measure => simp [intOf]; omega
    · obtain rfl : k = L := by omega
      have hlt2 : ¬ (k : Int) < (k : Int) := by omega
      go_wp2_with fail
      go_ret
      exact ⟨rfl, hC.out.bel⟩

set_option maxRecDepth 100000 in
theorem hdraws_walk (p : Int) (a1 a2 : Option Addr) (c1 c2 : Nat) (zl : List Int) (sc : List OpZ) (w : World) (hL : Laid w) (hp1 : -9223372036854775808 ≤ p) (hp2 : p ≤ 9223372036854775807)
    (hr1 : zl.length ≤ 17592186043904) (hf1 : Fits zl) (hl1 : Lst w.heap.size w a1 c1 zl) (hr2 : sc.length ≤ 3518437208780 ∧ ∀ k, k < sc.length → (oat sc k).l.length ≤ 17592186043904) (hf2 : FitsO sc) (hl2 : LstO w.heap.size w a2 c2 sc) :
    Calls Tryd.prog 3 #[.int .i64 p, .slice a1 zl.length c1, .slice a2 sc.length c2] w fun e w' => e = .returned (.bool true) ∧ Below w.heap.size w w' := by
  by_cases hg : GoodS p
  · obtain ⟨⟨hq3, hq4, hqp⟩, h23⟩ := hg
    obtain ⟨q, rfl⟩ := Int.eq_ofNat_of_zero_le (show 0 ≤ p by omega)
    exact hdraws_good q a1 a2 c1 c2 zl sc w (by omega) (by omega) (by simpa using hqp) hr1 hf1 hl1 hr2 hf2 hl2
  · clear hr1 hf1 hl1 hr2 hf2 hl2
    go_enter Tryd.func3, Tryd.ntmps3
    go_wp2_with fail
    refine (sponge_no p w hL hg hp1 hp2).mono ?_
    rintro e w1 ⟨rfl, hb1⟩
    go_wp2_with fail
    go_ret
    exact ⟨rfl, hb1⟩

end Go.Proofs.YtgjkakfkefpgbafDoor
