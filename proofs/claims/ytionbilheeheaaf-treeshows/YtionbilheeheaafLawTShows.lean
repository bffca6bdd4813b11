/- TreeShows: the walk. -/
import Derived.Test.YtionbilheeheaafTrhJ
import Derived.Test.YtionbilheeheaafTrgX
import Derived.Test.YtionbilheeheaafTreI
import Derived.Test.YtionbilheeheaafSpgT
namespace Go.Proofs.Ytionbilheeheaaf
open Go.RowKit

/-- what stands while TreeShows looks -/
structure Shn (q O c1 c2 k1 k2 : Nat) (a1 a2 b1 b2 : Option Addr) (v3 : Value) (rows : List (List Int)) (ps os : List Int) (W : World) : Prop where
  hO : W.heap[O]? = some (.cells #[.slice b1 os.length k1, .slice b2 os.length k2, v3] 32 (0, 0))
  lr : LstR W.heap.size W a1 c1 rows
  lp : Lst W.heap.size W a2 c2 ps
  lo : Lst W.heap.size W b1 k1 os
  lw : LstR W.heap.size W b2 k2 (shw q rows os)
theorem Shn.lt {q O c1 c2 k1 k2 : Nat} {a1 a2 b1 b2 : Option Addr} {v3 : Value} {rows : List (List Int)} {ps os : List Int} {W : World} (h : Shn q O c1 c2 k1 k2 a1 a2 b1 b2 v3 rows ps os W) : O < W.heap.size := (Array.getElem?_eq_some_iff.1 h.hO).1
theorem Shn.keep {q O c1 c2 k1 k2 : Nat} {a1 a2 b1 b2 : Option Addr} {v3 : Value} {rows : List (List Int)} {ps os : List Int} {W W' : World} (h : Shn q O c1 c2 k1 k2 a1 a2 b1 b2 v3 rows ps os W) (hb : Below W.heap.size W W') : Shn q O c1 c2 k1 k2 a1 a2 b1 b2 v3 rows ps os W' :=
  ⟨(hb.block _ h.lt).trans h.hO, (h.lr.below hb).mono hb.size, (h.lp.below hb).mono hb.size, (h.lo.below hb).mono hb.size, (h.lw.below hb).mono hb.size⟩

set_option maxRecDepth 100000 in
set_option maxHeartbeats 4000000 in
theorem tshows_good (q : Nat) (a1 : Option Addr) (c1 : Nat) (rows : List (List Int)) (a2 : Option Addr) (c2 : Nat) (ps : List Int) (w : World) (h23 : 23 ≤ q) (h4 : q ≤ 2147483647) (hqp : Num.Prime q)
    (hfr : FitsR rows) (hl1 : LstR w.heap.size w a1 c1 rows) (hpl : ps.length ≤ 17592186043904) (hl2 : Lst w.heap.size w a2 c2 ps) (h1 : 1 ≤ rows.length) (h2 : rows.length ≤ 65536) (hin : ps.any (lackb 0 rows.length) = false) :
    Calls Try.prog 3 #[.int .i64 q, .slice a1 rows.length c1, .slice a2 ps.length c2] w fun e w' => e = .returned (.bool true) ∧ Below w.heap.size w w' := by
  have HP := hid hqp
  have HFR := hid hfr
  have HL1 := hid hl1
  have HL2 := hid hl2
  have HN := hid (And.intro h1 h2)
  have HIN := hid (any_range hin)
  have HIB := hid hin
  have h3 : 3 ≤ q := by omega
  clear hqp hfr hl1 hl2 h1 h2 hin
  go_enter Try.func3, Try.ntmps3
  go_wp2_with fail
  refine (lives3_any w).mono ?_
  rintro e w0 ⟨rfl, hb0⟩
  have HB0 := hid hb0
  clear hb0
  go_wp2_with fail
  refine (plain3_yes q w0 h23 h4 HP.out).mono ?_
  rintro e w1 ⟨s, b, n, d, rfl, hok, hat, hb1⟩
  have HOK := hid hok
  have HAT := hid hat
  have HB1 := hid (HB0.out.trans (hb1.mono HB0.out.size))
  clear hok hat hb1 HB0
  have HT1 := hid (troot_any q n d b s c1 a1 rows w1 HOK.out HAT.out HN.out.1 HN.out.2 HFR.out ((HL1.out.below HB1.out).mono HB1.out.size))
  go_wp2_with fail
  refine HT1.out.mono ?_
  rintro e w2 ⟨ar, cr, rfl, hrt, hb2⟩
  have HRT := hid hrt
  have HAT2 := hid (HAT.out.keep hb2)
  have HB2 := hid (HB1.out.trans (hb2.mono HB1.out.size))
  clear hb2 hrt HB1 HAT HT1
  have HT2 : Hid (Calls Try.prog 8 #[.pointer (some ⟨s, 0, none⟩), .slice a1 rows.length c1, .slice a2 ps.length c2] w2 fun e w3 => ∃ os b1 b2 b3 k1 k2 k3 nn, e = .returned (.tuple #[.agg #[.slice b1 os.length k1, .slice b2 os.length k2, .slice b3 nn k3], .nilIface]) ∧ Hid (OnceIs ps os ∧ Lst w3.heap.size w3 b1 k1 os ∧ LstR w3.heap.size w3 b2 k2 (shw q rows os) ∧ LstR w3.heap.size w3 b3 k3 (ndf q n rows.length rows os 0) ∧ nn = (ndf q n rows.length rows os 0).length) ∧ Below w2.heap.size w2 w3) := by
    refine (open_any q n d b s c1 c2 a1 a2 rows ps w2 HOK.out HAT2.out HN.out.1 HN.out.2 (by omega) HFR.out ((HL1.out.below HB2.out).mono HB2.out.size) ((HL2.out.below HB2.out).mono HB2.out.size).row HIB.out).mono ?_
    rintro e w3 ⟨os, b1, b2, b3, k1, k2, k3, rfl, hos, hp, hr, hn, hb3⟩
    obtain ⟨_, _, e1, l1⟩ := hp.lst
    cases e1
    obtain ⟨_, _, e2, l2⟩ := hr.lst
    cases e2
    obtain ⟨_, _, e3, l3⟩ := hn.lst
    cases e3
    refine ⟨os, b1, b2, b3, k1, k2, k3, _, ?_, ⟨hos, l1, l2, l3, rfl⟩, hb3⟩
    rw [shw_len]
  go_wp2_with fail
  refine HT2.out.mono ?_
  rintro e w3 ⟨os, b1, b2, b3, k1, k2, k3, nn, rfl, HX, hb3⟩
  have HBO : Hid (Below w3.heap.size w3 (w3.alloc (.cells #[.slice b1 os.length k1, .slice b2 os.length k2, .slice b3 nn k3] 32))) := (Below.refl _ _).alloc (Nat.le_refl _) _
  have hb3' := hb3.trans (HBO.out.mono hb3.size)
  have HB3 := hid (HB2.out.trans (hb3'.mono HB2.out.size))
  have HSH : Hid (Shn q w3.heap.size c1 c2 k1 k2 a1 a2 b1 b2 (.slice b3 nn k3) rows ps os (w3.alloc (.cells #[.slice b1 os.length k1, .slice b2 os.length k2, .slice b3 nn k3] 32))) := ⟨tri_arr (tri_new w3 32 (.slice b1 os.length k1) (.slice b2 os.length k2) (.slice b3 nn k3)), (HL1.out.below HB3.out).mono HB3.out.size, (HL2.out.below HB3.out).mono HB3.out.size, (HX.out.2.1.below HBO.out).mono HBO.out.size, (HX.out.2.2.1.below HBO.out).mono HBO.out.size⟩
  have HAN := hid (ascN_once HX.out.1 HIN.out)
  have HOL : Hid (os.length ≤ 65536) := by have := once_len HX.out.1 HIN.out; have := HN.out.2; unfold Hid; omega
  have HMM : Hid (∀ x, x ∈ ps → ∃ j, j < os.length ∧ zat os j = x) := fun x hx => by
    obtain ⟨j, hj, e⟩ := mem_zat ((HX.out.1.2 x).2 hx)
    exact ⟨j, hj, e⟩
  have HCK : Hid (Calls Try.prog 9 #[.pointer (some ⟨s, 0, none⟩), .slice ar 4 cr, .int .i64 (rows.length : Int), .agg #[.slice b1 os.length k1, .slice b2 os.length k2, .slice b3 nn k3]] (w3.alloc (.cells #[.slice b1 os.length k1, .slice b2 os.length k2, .slice b3 nn k3] 32)) fun e w' => e = .returned (.bool true) ∧ Below (w3.alloc (.cells #[.slice b1 os.length k1, .slice b2 os.length k2, .slice b3 nn k3] 32)).heap.size (w3.alloc (.cells #[.slice b1 os.length k1, .slice b2 os.length k2, .slice b3 nn k3] 32)) w') := by
    have hn := HN.out
    have h := check_any q n d b s cr k1 k2 k3 ar b1 b2 b3 (rtf q n rows.length rows) (rows.length : Int) os (shw q rows os) (ndf q n rows.length rows os 0) (w3.alloc (.cells #[.slice b1 os.length k1, .slice b2 os.length k2, .slice b3 nn k3] 32)) HOK.out (HAT2.out.keep hb3') (by have := HOL.out; omega) (by have := ndf_len q n rows.length rows os 0 hn.1; omega) (by omega) (by omega)
      (rtf_fitsR h3 h4 n hn.1) (fun j hj => by have := HAN.out j hj; omega) (shw_fits h3 h4 HFR.out HAN.out) (ndf_fits h3 h4 n os hn.1) ((HRT.out.below hb3').mono hb3'.size) HSH.out.lo HSH.out.lw ((HX.out.2.2.2.1.below HBO.out).mono HBO.out.size)
    rw [chk_shown h3 n rows os hn.1 hn.2 HAN.out, rtf_len q n rows.length rows hn.1, shw_len, ← HX.out.2.2.2.2] at h
    exact h
  obtain ⟨O, hO⟩ : ∃ O, O = w3.heap.size := ⟨_, rfl⟩
  have HOO : Hid ((w3.alloc (.cells #[.slice b1 os.length k1, .slice b2 os.length k2, .slice b3 nn k3] 32)).heap[O]? = some (.cells #[.slice b1 os.length k1, .slice b2 os.length k2, .slice b3 nn k3] 32 (0, 0))) := by unfold Hid; rw [hO]; exact HSH.out.hO
  clear hb3 hb3' HBO HT2 HX HRT HAT2 HB2 HOK
  go_wp2_with (refine wpList_load_row rfl 32 _ rfl w3.heap.size rfl _ _ _ _ HSH.out.hO Try.underlying32 rfl (by kernel_rfl) ?_)
  rw [← hO] at HSH ⊢
  clear hO HOO
  generalize w3.alloc (.cells #[.slice b1 os.length k1, .slice b2 os.length k2, .slice b3 nn k3] 32) = W3 at *
  refine HCK.out.mono ?_
  rintro e w4 ⟨rfl, hb4⟩
  have HB4 := hid (HB3.out.trans (hb4.mono HB3.out.size))
  have HS4 := hid (HSH.out.keep hb4)
  have c0 := opn_c0 HS4.out.hO
  have c1' := opn_c1 HS4.out.hO
  have hne : ((os.length : Int) != (os.length : Int)) = false := by simp
  clear hb4 HCK HB3 HSH
  go_wp2_with fail
  clear c0 c1' hne
  have HSK : Hid (∀ W, Below w4.heap.size w4 W → Shn q O c1 c2 k1 k2 a1 a2 b1 b2 (.slice b3 nn k3) rows ps os W) := fun W h => HS4.out.keep h
  go_loopw [13] (fun iv wr => ∃ i : Nat, i ≤ os.length ∧ iv = .int .i64 i ∧ Hid (Below w4.heap.size w4 wr)) (fun iv _ => os.length - (intOf iv).toNat)
  case atStart => exact ⟨0, Nat.zero_le _, rfl, Below.refl _ _⟩
  case round =>
    obtain ⟨i, hi, rfl, HC⟩ := hrel
    have sh := HSK.out wr HC.out
    have c0 := opn_c0 sh.hO
    by_cases hlt : i < os.length
    · have hlt2 : (i : Int) < (os.length : Int) := by omega
      have hks : IntKind.i64.wrap ((i : Int) + 1) = (i : Int) + 1 := by rw [IntKind.wrap_i64]; have := HOL.out; omega
      have hbd := HAN.out i hlt
      obtain ⟨m, hm⟩ := Int.eq_ofNat_of_zero_le hbd.1
      have hmr : m < rows.length := by omega
      have hm1 : ¬ ((m : Int) < 0) := by omega
      have hm2 : (m : Int) < (rows.length : Int) := by omega
      obtain ⟨bo, oo, hae, hbo, hco⟩ := sh.lo.row i hlt
      subst hae
      obtain ⟨br, orr, ak, ck, hae, hbr, hcr, hlr⟩ := sh.lr.row m hmr
      subst hae
      obtain ⟨bs, os', al, cl, hae, hbs, hcs, hls⟩ := sh.lw.row i (by rw [shw_len]; exact hlt)
      subst hae
      rw [hm] at hco
      have hrs := rat_shw (q := q) (rows := rows) hlt
      rw [hm, Int.toNat_natCast] at hrs
      rw [hrs] at hcs hls
      have hel : (elr q (rat rows m)).length = (rat rows m).length := by unfold elr; rw [ls_len]
      have hfm := HFR.out m hmr
      have HSM : Hid (∀ W, Below wr.heap.size wr W → Calls Try.prog 10 #[.int .i64 (q : Int), .slice ak (rat rows m).length ck, .slice al (elr q (rat rows m)).length cl] W fun e w' => e = .returned (.bool true) ∧ w' = W) := fun W h => by
        have := rsame_any q ck cl ak al (rat rows m) (elr q (rat rows m)) W h3 h4 (by have := hfm.2; omega) (by rw [hel]; have := hfm.2; omega) hfm.1 (elr_fits h3 h4 _) ((hlr.below h).mono h.size).row ((hls.below h).mono h.size).row
        rw [samb_shown] at this
        exact this
      have hO1 := sh.hO
      have HKe : Hid (∀ W, Below wr.heap.size wr W → W.cell? ⟨br, orr + m, none⟩ = some (.slice ak (rat rows m).length ck) ∧ W.cell? ⟨O, 1, none⟩ = some (.slice (some ⟨bs, os', none⟩) os.length k2) ∧ W.cell? ⟨bs, os' + i, none⟩ = some (.slice al (elr q (rat rows m)).length cl)) := fun W h =>
        ⟨(h.cell (p := ⟨br, orr + m, none⟩) hbr).trans hcr, (h.cell (p := ⟨O, 1, none⟩) (Array.getElem?_eq_some_iff.1 hO1).1).trans (opn_c1 hO1), (h.cell (p := ⟨bs, os' + i, none⟩) hbs).trans hcs⟩
      have hd1 : Below wr.heap.size wr wr.drew := (Below.refl _ _).drew
      have HR2 := hid (HC.out.trans (hd1.mono HC.out.size))
      clear sh hcr hlr hcs hls hrs hel hfm hO1 hm hbd
      go_wp2_with fail
      go_region_held3 (fun W => W.cell? ⟨br, orr + m, none⟩ = some (.slice ak (rat rows m).length ck) ∧ W.cell? ⟨O, 1, none⟩ = some (.slice (some ⟨bs, os', none⟩) os.length k2) ∧ W.cell? ⟨bs, os' + i, none⟩ = some (.slice al (elr q (rat rows m)).length cl)) (exact HKe.out _ (by assumption))
        (first
          | (go_at_call 10; refine (HSM.out _ (by assumption)).mono ?_; rintro e w' ⟨rfl, rfl⟩))
      clear HKe HSM
      go_wp2_with fail
      go_roundw
      case rel => exact ⟨i + 1, by omega, by go_num, HR2.out⟩
      case measure => simp [intOf]; omega
    · obtain rfl : i = os.length := by omega
      clear sh
      go_wp2_with fail
      clear c0 HAN
      go_loopw [16] (fun iv wt => ∃ i : Nat, i ≤ ps.length ∧ iv = .int .i64 i ∧ Hid (Below w4.heap.size w4 wt)) (fun iv _ => ps.length - (intOf iv).toNat)
      case atStart => exact ⟨0, Nat.zero_le _, rfl, HC⟩
      case round =>
        clear HC
        obtain ⟨i, hi', rfl, HD⟩ := hrel
        by_cases hlp : i < ps.length
        · have hlp2 : (i : Int) < (ps.length : Int) := by omega
          have hks : IntKind.i64.wrap ((i : Int) + 1) = (i : Int) + 1 := by rw [IntKind.wrap_i64]; omega
          have sh := HSK.out wr HD.out
          have hbd := HIN.out _ (zat_mem hlp)
          have hex := HMM.out _ (zat_mem hlp)
          obtain ⟨m, hm⟩ := Int.eq_ofNat_of_zero_le hbd.1
          have hmr : m < rows.length := by omega
          have hm1 : ¬ ((m : Int) < 0) := by omega
          have hm2 : (m : Int) < (rows.length : Int) := by omega
          obtain ⟨bp, op, hae, hbp, hcp⟩ := sh.lp.row i hlp
          subst hae
          obtain ⟨br, orr, ak, ck, hae, hbr, hcr, hlr⟩ := sh.lr.row m hmr
          subst hae
          rw [hm] at hcp hex
          have hel : (elr q (rat rows m)).length = (rat rows m).length := by unfold elr; rw [ls_len]
          have hfm := HFR.out m hmr
          have hO1 := sh.hO
          have HRW : Hid (∀ W, Below wr.heap.size wr W → Calls Try.prog 11 #[.agg #[.slice b1 os.length k1, .slice b2 os.length k2, .slice b3 nn k3], .int .i64 (m : Int)] W fun e w' => ∃ a c, e = .returned (.slice a (elr q (rat rows m)).length c) ∧ Hid (Lst w'.heap.size w' a c (elr q (rat rows m))) ∧ Below wr.heap.size wr w') := fun W h => by
            have sW := HSK.out W (HD.out.trans (h.mono HD.out.size))
            have hr := rrow_any k1 k2 b1 b2 os (shw q rows os) (.slice b3 nn k3) (m : Int) W (by have := HOL.out; omega) (shw_len _ _ _) sW.lo.row sW.lw hex
            rw [shw_len] at hr
            refine hr.mono ?_
            rintro e w' ⟨a, c, rfl, hl, hfx, hz, hb⟩
            rw [rat_shw hfx, hz, Int.toNat_natCast] at hl ⊢
            exact ⟨a, c, rfl, (hl.below hb).mono hb.size, h.trans (hb.mono h.size)⟩
          have HSM : Hid (∀ W al cl, Below wr.heap.size wr W → Lst W.heap.size W al cl (elr q (rat rows m)) → Calls Try.prog 10 #[.int .i64 (q : Int), .slice ak (rat rows m).length ck, .slice al (elr q (rat rows m)).length cl] W fun e w' => e = .returned (.bool true) ∧ w' = W) := fun W al cl h hls => by
            have := rsame_any q ck cl ak al (rat rows m) (elr q (rat rows m)) W h3 h4 (by have := hfm.2; omega) (by rw [hel]; have := hfm.2; omega) hfm.1 (elr_fits h3 h4 _) ((hlr.below h).mono h.size).row hls.row
            rw [samb_shown] at this
            exact this
          have HKe : Hid (∀ W, Below wr.heap.size wr W → W.cell? ⟨O, 0, none⟩ = some (.slice b1 os.length k1) ∧ W.cell? ⟨O, 1, none⟩ = some (.slice b2 os.length k2) ∧ W.cell? ⟨O, 2, none⟩ = some (.slice b3 nn k3) ∧ W.cell? ⟨bp, op + i, none⟩ = some (.int .i64 (m : Int))) := fun W h =>
            ⟨(h.cell (p := ⟨O, 0, none⟩) (Array.getElem?_eq_some_iff.1 hO1).1).trans (opn_c0 hO1), (h.cell (p := ⟨O, 1, none⟩) (Array.getElem?_eq_some_iff.1 hO1).1).trans (opn_c1 hO1), (h.cell (p := ⟨O, 2, none⟩) (Array.getElem?_eq_some_iff.1 hO1).1).trans (opn_c2 hO1), (h.cell (p := ⟨bp, op + i, none⟩) hbp).trans hcp⟩
          have HKf : Hid (∀ W, Below wr.heap.size wr W → W.cell? ⟨bp, op + i, none⟩ = some (.int .i64 (m : Int)) ∧ W.cell? ⟨br, orr + m, none⟩ = some (.slice ak (rat rows m).length ck)) := fun W h =>
            ⟨(h.cell (p := ⟨bp, op + i, none⟩) hbp).trans hcp, (h.cell (p := ⟨br, orr + m, none⟩) hbr).trans hcr⟩
          have HTR : Hid (∀ W, Below wr.heap.size wr W → Below w4.heap.size w4 W) := fun W h => HD.out.trans (h.mono HD.out.size)
          have hd1 : Below wr.heap.size wr wr.drew := (Below.refl _ _).drew
          clear sh hcr hlr hel hfm hO1 hm hbd hex
          go_wp2_with fail
          clear hcp
          go_region_held3 (fun W => W.cell? ⟨O, 0, none⟩ = some (.slice b1 os.length k1) ∧ W.cell? ⟨O, 1, none⟩ = some (.slice b2 os.length k2) ∧ W.cell? ⟨O, 2, none⟩ = some (.slice b3 nn k3) ∧ W.cell? ⟨bp, op + i, none⟩ = some (.int .i64 (m : Int))) (exact HKe.out _ (by assumption))
            (first
              | (go_at_call 11; refine (HRW.out _ (by assumption)).mono ?_; rintro e w' ⟨al, cl, rfl, hls, hbw⟩))
          obtain ⟨f1, f2⟩ := HKf.out _ hbw
          have HB5 := hid (HTR.out _ hbw)
          have HSX := hid (HSM.out w' al cl hbw hls.out)
          clear HKe HKf HRW HSM hls hbw hd1
          go_wp2_with fail
          refine HSX.out.mono ?_
          rintro e w6 ⟨rfl, rfl⟩
          clear HSX
          go_wp2_with fail
          go_roundw
          case rel => exact ⟨i + 1, by omega, by go_num, HB5⟩
          case measure => simp [intOf]; omega
        · obtain rfl : i = ps.length := by omega
          go_wp2_with fail
          go_ret
          exact ⟨rfl, HB4.out.trans (HD.out.mono HB4.out.size)⟩

set_option maxRecDepth 100000 in
set_option maxHeartbeats 2000000 in
theorem tshows_range (q : Nat) (a1 : Option Addr) (c1 : Nat) (rows : List (List Int)) (a2 : Option Addr) (c2 : Nat) (ps : List Int) (w : World) (h23 : 23 ≤ q) (h4 : q ≤ 2147483647) (hqp : Num.Prime q)
    (hfr : FitsR rows) (hl1 : LstR w.heap.size w a1 c1 rows) (hpl : ps.length ≤ 17592186043904) (hl2 : Lst w.heap.size w a2 c2 ps) (h1 : 1 ≤ rows.length) (h2 : rows.length ≤ 65536) (hin : ps.any (lackb 0 rows.length) = true) :
    Calls Try.prog 3 #[.int .i64 q, .slice a1 rows.length c1, .slice a2 ps.length c2] w fun e w' => e = .returned (.bool true) ∧ Below w.heap.size w w' := by
  have HP := hid hqp
  have HFR := hid hfr
  have HL1 := hid hl1
  have HL2 := hid hl2
  have HN := hid (And.intro h1 h2)
  have HIB := hid hin
  clear hqp hfr hl1 hl2 h1 h2 hin
  go_enter Try.func3, Try.ntmps3
  go_wp2_with fail
  refine (lives3_any w).mono ?_
  rintro e w0 ⟨rfl, hb0⟩
  have HB0 := hid hb0
  clear hb0
  go_wp2_with fail
  refine (plain3_yes q w0 h23 h4 HP.out).mono ?_
  rintro e w1 ⟨s, b, n, d, rfl, hok, hat, hb1⟩
  have HB1 := hid (HB0.out.trans (hb1.mono HB0.out.size))
  have HT1 := hid (troot_any q n d b s c1 a1 rows w1 hok hat HN.out.1 HN.out.2 HFR.out ((HL1.out.below HB1.out).mono HB1.out.size))
  clear hok hat hb1 HB0
  go_wp2_with fail
  refine HT1.out.mono ?_
  rintro e w2 ⟨ar, cr, rfl, hrt, hb2⟩
  have HB2 := hid (HB1.out.trans (hb2.mono HB1.out.size))
  clear hb2 hrt HB1 HT1
  have HT2 := hid (open_range s c1 c2 rows.length a1 a2 ps w2 HN.out.1 HN.out.2 (by omega) ((HL2.out.below HB2.out).mono HB2.out.size).row HIB.out)
  go_wp2_with fail
  refine HT2.out.mono ?_
  rintro e w3 ⟨rfl, hb3⟩
  have HB3 := hid (HB2.out.trans (hb3.mono HB2.out.size))
  have HB4 := hid (HB3.out.alloc HB3.out.size (.cells #[.slice none 0 0, .slice none 0 0, .slice none 0 0] 32))
  clear hb3 HB2 HT2 HB3
  go_wp2_with fail
  go_ret
  exact ⟨rfl, HB4.out⟩

set_option maxRecDepth 100000 in
set_option maxHeartbeats 2000000 in
theorem tshows_size (q : Nat) (a1 : Option Addr) (c1 : Nat) (rows : List (List Int)) (a2 : Option Addr) (c2 : Nat) (ps : List Int) (w : World) (h23 : 23 ≤ q) (h4 : q ≤ 2147483647) (hqp : Num.Prime q) (hl : rows.length ≤ 281474976710656) (hbad : ¬ (1 ≤ rows.length ∧ rows.length ≤ 65536)) :
    Calls Try.prog 3 #[.int .i64 q, .slice a1 rows.length c1, .slice a2 ps.length c2] w fun e w' => e = .returned (.bool true) ∧ Below w.heap.size w w' := by
  have HP := hid hqp
  have HT := hid (fun s W => troot_size s c1 rows.length a1 W hbad hl)
  clear hqp hbad hl
  go_enter Try.func3, Try.ntmps3
  go_wp2_with fail
  refine (lives3_any w).mono ?_
  rintro e w0 ⟨rfl, hb0⟩
  have HB0 := hid hb0
  clear hb0
  go_wp2_with fail
  refine (plain3_yes q w0 h23 h4 HP.out).mono ?_
  rintro e w1 ⟨s, b, n, d, rfl, _, _, hb1⟩
  have HB1 := hid (HB0.out.trans (hb1.mono HB0.out.size))
  clear hb1 HB0
  go_wp2_with fail
  refine (HT.out s w1).mono ?_
  rintro e w2 ⟨rfl, hb2⟩
  have HB2 := hid (HB1.out.trans (hb2.mono HB1.out.size))
  clear hb2 HB1
  go_wp2_with fail
  go_ret
  exact ⟨rfl, HB2.out⟩

set_option maxRecDepth 100000 in
theorem tshows_walk (p : Int) (a1 : Option Addr) (c1 : Nat) (rows : List (List Int)) (a2 : Option Addr) (c2 : Nat) (ps : List Int) (w : World) (hp1 : -9223372036854775808 ≤ p) (hp2 : p ≤ 9223372036854775807)
    (hr : rows.length ≤ 5864062014634 ∧ ∀ k, k < rows.length → (rat rows k).length ≤ 17592186043904) (hfr : FitsR rows) (hl1 : LstR w.heap.size w a1 c1 rows) (hpl : ps.length ≤ 17592186043904) (hl2 : Lst w.heap.size w a2 c2 ps) :
    Calls Try.prog 3 #[.int .i64 p, .slice a1 rows.length c1, .slice a2 ps.length c2] w fun e w' => e = .returned (.bool true) ∧ Below w.heap.size w w' := by
  by_cases hg : GoodS p
  · obtain ⟨⟨hq3, hq4, hqp⟩, h23⟩ := hg
    obtain ⟨q, rfl⟩ := Int.eq_ofNat_of_zero_le (show 0 ≤ p by omega)
    have hqp' : Num.Prime q := by simpa using hqp
    by_cases hs : 1 ≤ rows.length ∧ rows.length ≤ 65536
    · cases hin : ps.any (lackb 0 rows.length) with
      | false => exact tshows_good q a1 c1 rows a2 c2 ps w (by omega) (by omega) hqp' hfr hl1 hpl hl2 hs.1 hs.2 hin
      | true => exact tshows_range q a1 c1 rows a2 c2 ps w (by omega) (by omega) hqp' hfr hl1 hpl hl2 hs.1 hs.2 hin
    · exact tshows_size q a1 c1 rows a2 c2 ps w (by omega) (by omega) hqp' (by omega) hs
  · clear hr hfr hl1 hpl hl2
    go_enter Try.func3, Try.ntmps3
    go_wp2_with fail
    refine (lives3_any w).mono ?_
    rintro e w0 ⟨rfl, hb0⟩
    go_wp2_with fail
    refine (plain3_no p w0 hg hp1 hp2).mono ?_
    rintro e w1 ⟨rfl, hb1⟩
    go_wp2_with fail
    go_ret
    exact ⟨rfl, hb0.trans (hb1.mono hb0.size)⟩

end Go.Proofs.Ytionbilheeheaaf
