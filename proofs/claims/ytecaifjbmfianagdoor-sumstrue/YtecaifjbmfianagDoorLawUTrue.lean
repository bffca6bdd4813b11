/- SumsTrue: the walk. -/
import Derived.Test.YtecaifjbmfianagDoorSumX
namespace Go.Proofs.YtecaifjbmfianagDoor
open Go.RowKit

theorem rndl_fits {p : Nat} (h3 : 3 ≤ p) (hm : p ≤ 2147483647) (rows : List (List Int)) : Fits (rndl p rows) := fun j hj => by
  rw [rndl_len] at hj
  unfold rndl
  rw [ls_at _ _ _ hj]
  have := totz_bounds p (fixr p rows (j : Int)) h3
  omega
theorem TbW.inR {p : Nat} {rows : List (List Int)} {drawn : List Int} {W : World} {a : Option Addr} {c : Nat} (h : TbW p rows drawn) (hz : mke p rows drawn = 0) (hl : LstR W.heap.size W a c (mkR p rows drawn)) : InR W a c (mkR p rows drawn) := by
  have h4 := h.d4
  refine ⟨by rw [mkR_len hz]; have := h.v12; omega, fun k hk => ?_, fun k hk => ?_, hl⟩
  · rw [mkR_len hz] at hk
    rw [mkR_rat hz hk, rndl_len, tbs_len]
    omega
  · rw [mkR_len hz] at hk
    rw [mkR_rat hz hk]
    exact rndl_fits h.h3 h.hm _
theorem TbW.inF {p : Nat} {rows : List (List Int)} {drawn : List Int} {W : World} {a : Option Addr} {c : Nat} (h : TbW p rows drawn) (hz : mke p rows drawn = 0) (hl : Lst W.heap.size W a c (mkF p rows drawn)) : InL W a c (mkF p rows drawn) := by
  have h4 := h.d4
  refine ⟨by rw [mkF_len hz]; omega, fun j hj => ?_, hl⟩
  rw [mkF_len hz] at hj
  rw [mkF_at hz hj]
  have := emod_bounds (zat (rat (tbs p rows drawn drawn.length) j) 0) p h.h3
  have := h.hm
  omega

set_option maxRecDepth 100000 in
set_option maxHeartbeats 4000000 in
theorem utrue_good (EX : ExtAs) (TO : TotAs) (MK : MakAs) (CK : ChkAs) (q : Nat) (a1 a2 : Option Addr) (c1 c2 : Nat) (rows : List (List Int)) (drawn : List Int) (w : World) (hT : TabAt 2 Lib.deBruijn64tab w) (h3 : 3 ≤ q) (h4 : q ≤ 2147483647) (hpr : Num.Prime q) (h1 : InR w a1 c1 rows) (h2 : InL w a2 c2 drawn) :
    Calls Tryd.prog 4 #[.int .i64 q, .slice a1 rows.length c1, .slice a2 drawn.length c2] w fun e w' => e = .returned (.bool true) ∧ Below w.heap.size w w' := by
  have HTT := hid hT
  have HP := hid hpr
  have H1 := hid h1
  have H2 := hid h2
  have HEX := hid EX
  have HTO := hid TO
  have HMK := hid MK
  have HCK := hid CK
  have hln := h1.len
  have hdn := h2.len
  clear hT hpr h1 h2 EX TO MK CK
  obtain ⟨d, hd⟩ : ∃ d, d = rows.length := ⟨_, rfl⟩
  obtain ⟨dl, hdl⟩ : ∃ dl, dl = drawn.length := ⟨_, rfl⟩
  have HD := hid hd
  have HDL := hid hdl
  rw [← hd] at hln ⊢
  rw [← hdl] at hdn ⊢
  clear hd hdl
  go_enter Tryd.func4, Tryd.ntmps4
  go_wp2_with fail
  refine (lives4_any HTO.out w).mono ?_
  rintro e w0 ⟨rfl, hb0⟩
  have HB0 := hid hb0
  clear hb0
  go_wp2_with fail
  refine (plain4_yes q w0 h3 h4 HP.out).mono ?_
  rintro e w1 ⟨b, rfl, hf1, hb1⟩
  have HB1 : Hid (Below w.heap.size w w1) := HB0.out.trans (hb1.mono HB0.out.size)
  replace hf1 : InT q b w1 := ⟨hf1, tabu_below HTT.out HB1.out⟩
  have HI1 := hid hf1
  obtain ⟨R, hR⟩ : ∃ R, R = mkR q rows drawn := ⟨_, rfl⟩
  obtain ⟨F, hF⟩ : ∃ F, F = mkF q rows drawn := ⟨_, rfl⟩
  obtain ⟨E, hE⟩ : ∃ E, E = mke q rows drawn := ⟨_, rfl⟩
  have HRR := hid hR
  have HFF := hid hF
  have HEE := hid hE
  have HM1 : Hid (Calls Tryd.prog 9 #[.pointer (some ⟨b, 0, none⟩), .slice a1 d c1, .slice a2 dl c2] w1 fun e w' => ∃ ar cr af cf, e = .returned (.tuple #[.agg #[.slice ar R.length cr, .slice af F.length cf], errz E]) ∧ LstR w'.heap.size w' ar cr R ∧ Lst w'.heap.size w' af cf F ∧ Below w1.heap.size w1 w') := by
    have h := HMK.out q b c1 c2 a1 a2 rows drawn w1 hf1 (H1.out.below HB1.out) (H2.out.below HB1.out)
    rw [← HD.out, ← HDL.out, ← hR, ← hF, ← hE] at h
    exact h
  obtain ⟨rl, hrl⟩ : ∃ rl, rl = R.length := ⟨_, rfl⟩
  obtain ⟨fl, hfl⟩ : ∃ fl, fl = F.length := ⟨_, rfl⟩
  rw [← hrl, ← hfl] at HM1
  have HRL := hid hrl
  have HFL := hid hfl
  clear hrl hfl hR hF hE hf1 hb1 HB0
  go_wp2_with fail
  refine HM1.out.mono ?_
  rintro e w2 ⟨ar, cr, af, cf, rfl, hr2, hf2, hb2⟩
  have HM2 : Hid (Below w.heap.size w (w2.alloc (.cells #[.slice ar rl cr, .slice af fl cf] 29)) ∧ InT q b (w2.alloc (.cells #[.slice ar rl cr, .slice af fl cf] 29)) ∧ (w2.alloc (.cells #[.slice ar rl cr, .slice af fl cf] 29)).heap[w2.heap.size]? = some (.cells #[.slice ar rl cr, .slice af fl cf] 29 (0, 0)) ∧ LstR (w2.alloc (.cells #[.slice ar rl cr, .slice af fl cf] 29)).heap.size (w2.alloc (.cells #[.slice ar rl cr, .slice af fl cf] 29)) ar cr R ∧ Lst (w2.alloc (.cells #[.slice ar rl cr, .slice af fl cf] 29)).heap.size (w2.alloc (.cells #[.slice ar rl cr, .slice af fl cf] 29)) af cf F) := by
    have hba : Below w2.heap.size w2 (w2.alloc (.cells #[.slice ar rl cr, .slice af fl cf] 29)) := (Below.refl _ _).alloc (Nat.le_refl _) _
    have hbw := HB1.out.trans (hb2.mono HB1.out.size)
    exact ⟨hbw.trans (hba.mono hbw.size), (HI1.out.below hb2).below hba, heap_alloc_new w2 _, (hr2.below hba).mono hba.size, (hf2.below hba).mono hba.size⟩
  clear hr2 hf2 hb2 HM1 HB1 HI1
  by_cases hE0 : E = 0
  · have HEZ : Hid (mke q rows drawn = 0) := by unfold Hid; rw [← HEE.out]; exact hE0
    have HTB := hid (tbW_of HP.out h3 h4 HEZ.out)
    rw [hE0, errz_nil]
    obtain ⟨O, hO⟩ : ∃ O, O = w2.heap.size := ⟨_, rfl⟩
    have HOQ := hid hO
    have hrl : rl = dl := by rw [HRL.out, HRR.out, mkR_len HEZ.out, ← HDL.out]
    have hfl : fl = d := by rw [HFL.out, HFF.out, mkF_len HEZ.out, ← HD.out]
    subst hrl
    subst hfl
    obtain ⟨W3, hW3⟩ : ∃ W3, W3 = w2.alloc (.cells #[.slice ar rl cr, .slice af fl cf] 29) := ⟨_, rfl⟩
    rw [← hW3, ← hO] at HM2
    have HOV : Hid (0 ≤ ovr rows) := by unfold Hid; rw [(mke_of HEZ.out).1]; omega
    obtain ⟨X, hX⟩ : ∃ X, X = totz q rows := ⟨_, rfl⟩
    have HXX := hid hX
    have HXB : Hid (0 ≤ X ∧ X < (q : Int)) := by rw [hX]; exact totz_bounds q rows h3
    have HT3 : Hid (Calls Tryd.prog 19 #[.pointer (some ⟨b, 0, none⟩), .slice a1 fl c1] W3 fun e w' => e = .returned (.tuple #[.int .i64 X, .nilIface]) ∧ Below W3.heap.size W3 w') := by
      have h := HTO.out q b c1 a1 rows W3 HM2.out.2.1.toInF (H1.out.below HM2.out.1)
      have e1 : toz q rows = X := by unfold toz; rw [if_pos HOV.out, hX]
      have e2 : toe rows = 0 := by unfold toe; rw [if_pos HOV.out]
      rw [← HD.out, e1, e2, errz_nil] at h
      exact h
    clear hE0 hX
    rw [hW3] at HT3
    go_wp2_with fail
    rw [← hO]
    refine HT3.out.mono ?_
    rintro e w4 ⟨rfl, hb4⟩
    rw [← hW3] at hb4
    have HM4 : Hid (Below w.heap.size w w4 ∧ InT q b w4 ∧ w4.heap[O]? = some (.cells #[.slice ar rl cr, .slice af fl cf] 29 (0, 0)) ∧ LstR w4.heap.size w4 ar cr R ∧ Lst w4.heap.size w4 af cf F) :=
      ⟨HM2.out.1.trans (hb4.mono HM2.out.1.size), HM2.out.2.1.below hb4, (hb4.block _ (Array.getElem?_eq_some_iff.1 HM2.out.2.2.1).1).trans HM2.out.2.2.1, (HM2.out.2.2.2.1.below hb4).mono hb4.size, (HM2.out.2.2.2.2.below hb4).mono hb4.size⟩
    have d0 := dua0 HM4.out.2.2.1
    have d1 := dua1 HM4.out.2.2.1
    have HC4 : Hid (Calls Tryd.prog 20 #[.pointer (some ⟨b, 0, none⟩), .int .i64 X, .int .i64 (fl : Int), .agg #[.slice ar rl cr, .slice af fl cf], .slice a2 rl c2] w4 fun e w' => e = .returned (.bool true) ∧ Below w4.heap.size w4 w') := by
      have hrr := HM4.out.2.2.2.1
      have hff := HM4.out.2.2.2.2
      rw [HRR.out] at hrr
      rw [HFF.out] at hff
      have h := HCK.out q b cr cf c2 ar af a2 X (fl : Int) (mkR q rows drawn) (mkF q rows drawn) drawn w4 HM4.out.2.1.toInF (HTB.out.inR HEZ.out hrr) (HTB.out.inF HEZ.out hff) (H2.out.below HM4.out.1) (by have := HXB.out; omega) (by have := HXB.out; omega) (by omega) (by have := HTB.out.d4; have := HD.out; omega)
      have hk : chkz q X (fl : Int) (mkR q rows drawn) (mkF q rows drawn) drawn = true := by rw [HXX.out, HD.out]; exact chkz_yes (HTB.out.shown HEZ.out)
      rw [mkR_len HEZ.out, mkF_len HEZ.out, ← HD.out, ← HDL.out, hk] at h
      exact h
    clear hb4 HT3 HM2 hW3 hO HOQ
    go_wp2_with fail
    refine HC4.out.mono ?_
    rintro e w5 ⟨rfl, hb5⟩
    have HM5 : Hid (Below w.heap.size w w5 ∧ InT q b w5 ∧ w5.heap[O]? = some (.cells #[.slice ar rl cr, .slice af fl cf] 29 (0, 0)) ∧ Lst w5.heap.size w5 af cf F) :=
      ⟨HM4.out.1.trans (hb5.mono HM4.out.1.size), HM4.out.2.1.below hb5, (hb5.block _ (Array.getElem?_eq_some_iff.1 HM4.out.2.2.1).1).trans HM4.out.2.2.1, (HM4.out.2.2.2.2.below hb5).mono hb5.size⟩
    have d0 := dua0 HM5.out.2.2.1
    have d1 := dua1 HM5.out.2.2.1
    have u2 : ((fl : Int) != (fl : Int)) = false := by simp
    clear hb5 HC4 HM4
    go_wp2_with fail
    go_loopw [13] (fun iv wr => ∃ i : Nat, i ≤ fl ∧ iv = .int .i64 i ∧ Hid (Below w.heap.size w wr ∧ InT q b wr ∧ wr.heap[O]? = some (.cells #[.slice ar rl cr, .slice af fl cf] 29 (0, 0)) ∧ Lst wr.heap.size wr af cf F)) (fun iv _ => fl - (intOf iv).toNat)
    case atStart => exact ⟨0, by omega, rfl, HM5⟩
    case round =>
      obtain ⟨i, hi, rfl, hI⟩ := hrel
      clear d0 d1 HM5
      by_cases hlt : i < fl
      · have hlt2 : (i : Int) < (fl : Int) := by omega
        have hks : IntKind.i64.wrap ((i : Int) + 1) = (i : Int) + 1 := by rw [IntKind.wrap_i64]; omega
        obtain ⟨bt, ot, ak, ck, hae, hbt, hct, hlk⟩ := H1.out.lst.row i (by rw [← HD.out]; exact hlt)
        subst hae
        have hct2 := (hI.out.1.cell (p := ⟨bt, ot + i, none⟩) hbt).trans hct
        have HTI : Hid (InL wr ak ck (rat rows i)) := ⟨H1.out.lens i (by rw [← HD.out]; exact hlt), H1.out.fit i (by rw [← HD.out]; exact hlt), (hlk.below hI.out.1).mono hI.out.1.size⟩
        obtain ⟨y, hy⟩ : ∃ y, y = zat F i := ⟨_, rfl⟩
        have HEXT : Hid (Calls Tryd.prog 21 #[.pointer (some ⟨b, 0, none⟩), .slice ak (rat rows i).length ck, .slice a2 rl c2] wr fun e w' => e = .returned (.tuple #[.int .i64 y, .nilIface]) ∧ Below wr.heap.size wr w') := by
          have h := HEX.out q b ck c2 ak a2 (rat rows i) drawn wr hI.out.2.1 HTI.out (H2.out.below hI.out.1)
          have hv : vrs (rat rows i).length = (drawn.length : Int) := by rw [HTB.out.lens i (by rw [← HD.out]; exact hlt)]; exact vrs_yes HTB.out.v12 rfl
          have e1 : exz q (rat rows i) drawn = y := by unfold exz; rw [if_pos hv, HTB.out.final HEZ.out (by rw [← HD.out]; exact hlt), hy, HFF.out]
          have e2 : exe (rat rows i) drawn = 0 := by unfold exe; rw [if_pos hv]
          rw [e1, e2, errz_nil, ← HDL.out] at h
          exact h
        have HIQ := hI
        clear hI hct hlk HTI
        generalize (rat rows i).length = tl at *
        go_wp2_with fail
        refine HEXT.out.mono ?_
        rintro e w6 ⟨rfl, hb6⟩
        have HI6 : Hid (Below w.heap.size w w6 ∧ InT q b w6 ∧ w6.heap[O]? = some (.cells #[.slice ar rl cr, .slice af fl cf] 29 (0, 0)) ∧ Lst w6.heap.size w6 af cf F) :=
          ⟨HIQ.out.1.trans (hb6.mono HIQ.out.1.size), HIQ.out.2.1.below hb6, (hb6.block _ (Array.getElem?_eq_some_iff.1 HIQ.out.2.2.1).1).trans HIQ.out.2.2.1, (HIQ.out.2.2.2.below hb6).mono hb6.size⟩
        have d1 := dua1 HI6.out.2.2.1
        obtain ⟨bf, of', hfe, hbf, hxf⟩ := HI6.out.2.2.2.row i (by rw [← HFL.out]; exact hlt)
        subst hfe
        rw [← hy] at hxf
        have hyy : (y != y) = false := by simp
        clear hb6 HEXT HIQ hct2 hy
        go_wp2_with fail
        go_roundw
        case rel => exact ⟨i + 1, by omega, by go_num, HI6⟩
        case measure => simp [intOf]; omega
      · obtain rfl : i = fl := by omega
        have hlt2 : ¬ (i : Int) < (i : Int) := by omega
        go_wp2_with fail
        go_ret
        exact ⟨rfl, hI.out.1⟩
  · have HBE := hid HM2.out.1
    rw [errz_some hE0]
    clear hE0 HM2
    go_wp2_with fail
    go_ret
    exact ⟨rfl, HBE.out⟩

set_option maxRecDepth 100000 in
theorem utrue_walk (EX : ExtAs) (TO : TotAs) (MK : MakAs) (CK : ChkAs) (p : Int) (a1 a2 : Option Addr) (c1 c2 : Nat) (rows : List (List Int)) (drawn : List Int) (w : World) (hT : TabAt 2 Lib.deBruijn64tab w) (hp1 : -9223372036854775808 ≤ p) (hp2 : p ≤ 9223372036854775807)
    (hr1 : rows.length ≤ 5864062014634 ∧ ∀ k, k < rows.length → (rat rows k).length ≤ 17592186043904) (hf1 : ∀ k, k < rows.length → Fits (rat rows k)) (hl1 : LstR w.heap.size w a1 c1 rows) (hr2 : drawn.length ≤ 17592186043904) (hf2 : Fits drawn) (hl2 : Lst w.heap.size w a2 c2 drawn) :
    Calls Tryd.prog 4 #[.int .i64 p, .slice a1 rows.length c1, .slice a2 drawn.length c2] w fun e w' => e = .returned (.bool true) ∧ Below w.heap.size w w' := by
  by_cases hg : okPrime p
  · obtain ⟨hq3, hq4, hqp⟩ := hg
    obtain ⟨q, rfl⟩ := Int.eq_ofNat_of_zero_le (show 0 ≤ p by omega)
    exact utrue_good EX TO MK CK q a1 a2 c1 c2 rows drawn w hT (by omega) (by omega) (by simpa using hqp) ⟨hr1.1, hr1.2, hf1, hl1⟩ ⟨hr2, hf2, hl2⟩
  · have HTO := hid TO
    clear hT hr1 hf1 hl1 hr2 hf2 hl2 EX TO MK CK
    go_enter Tryd.func4, Tryd.ntmps4
    go_wp2_with fail
    refine (lives4_any HTO.out w).mono ?_
    rintro e w0 ⟨rfl, hb0⟩
    have HB0 := hid hb0
    clear hb0
    go_wp2_with fail
    refine (plain4_no p w0 hg hp1 hp2).mono ?_
    rintro e w1 ⟨rfl, rfl⟩
    go_wp2_with fail
    go_ret
    exact ⟨rfl, HB0.out⟩

end Go.Proofs.YtecaifjbmfianagDoor
