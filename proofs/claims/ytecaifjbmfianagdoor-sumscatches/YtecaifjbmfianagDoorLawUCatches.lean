/- SumsCatches: the walk. -/
import Derived.Test.YtecaifjbmfianagDoorSumX
import Derived.Test.YtecaifjbmfianagDoorUnlike
import Derived.Deep.RegionHeld3
namespace Go.Proofs.YtecaifjbmfianagDoor
open Go.RowKit

theorem ovr_fix {p v : Nat} {rows : List (List Int)} (h1 : 1 ≤ rows.length) (h4 : rows.length ≤ 4) (hv : v ≤ 12) (hl : ∀ k, k < rows.length → (rat rows k).length = 2 ^ (v + 1)) (r : Int) : ovr (fixr p rows r) = v := by
  have hh : ∀ k, k < rows.length → (rat (fixr p rows r) k).length = 2 ^ v := fun k hk => by
    rw [fixr_rat hk, fixl_len, hl k hk, Nat.pow_succ]
    omega
  unfold ovr
  rw [fixr_len, if_pos ⟨h1, h4, fun k hk => by rw [hh k hk, hh 0 (by omega)]⟩]
  exact vrs_yes hv (hh 0 (by omega))
theorem unl_dvd {p : Nat} (h3 : 3 ≤ p) {zs : List Int} (h : Unl p (zat zs) zs.length) : ∀ i j, i < j → j < zs.length → ¬ (p : Int) ∣ zat zs j - zat zs i := fun i j hij hj hd => h i j hij hj ((Pol.emod_eq_iff (show 0 < p by omega)).2 (by
  have := Int.dvd_neg.2 hd
  rwa [Int.neg_sub] at this))

set_option maxRecDepth 100000 in
set_option maxHeartbeats 4000000 in
theorem ucatches_good (FX : FixAs) (TO : TotAs) (q : Nat) (a1 a3 a4 : Option Addr) (c1 c3 c4 : Nat) (rows : List (List Int)) (claim : Int) (told drawn : List Int) (w : World) (hT : TabAt 2 Lib.deBruijn64tab w) (h3 : 3 ≤ q) (h4 : q ≤ 2147483647) (hpr : Num.Prime q) (h1 : InR w a1 c1 rows) (hc1 : -9223372036854775808 ≤ claim) (hc2 : claim ≤ 9223372036854775807) (ht : InL w a3 c3 told) (hdr : InL w a4 c4 drawn) :
    Calls Tryd.prog 5 #[.int .i64 q, .slice a1 rows.length c1, .int .i64 claim, .slice a3 told.length c3, .slice a4 drawn.length c4] w fun e w' => e = .returned (.bool true) ∧ Below w.heap.size w w' := by
  have HTT := hid hT
  have HP := hid hpr
  have H1 := hid h1
  have H3 := hid ht
  have H4 := hid hdr
  have HFX := hid FX
  have HTO := hid TO
  have hln := h1.len
  have htn := ht.len
  have hdn := hdr.len
  clear hT hpr h1 ht hdr FX TO
  obtain ⟨d, hd⟩ : ∃ d, d = rows.length := ⟨_, rfl⟩
  obtain ⟨tl, htl⟩ : ∃ tl, tl = told.length := ⟨_, rfl⟩
  obtain ⟨dl, hdl⟩ : ∃ dl, dl = drawn.length := ⟨_, rfl⟩
  have HD := hid hd
  have HTL := hid htl
  have HDL := hid hdl
  rw [← hd] at hln ⊢
  rw [← htl] at htn ⊢
  rw [← hdl] at hdn ⊢
  clear hd htl hdl
  have hdw : IntKind.i64.wrap ((d : Int) + 1) = (d : Int) + 1 := by rw [IntKind.wrap_i64]; omega
  go_enter Tryd.func5, Tryd.ntmps5
  go_wp2_with fail
  refine (lives4_any HTO.out w).mono ?_
  rintro e w0 ⟨rfl, hb0⟩
  have HB0 := hid hb0
  clear hb0
  go_wp2_with fail
  refine (plain4_yes q w0 h3 h4 HP.out).mono ?_
  rintro e w1 ⟨b, rfl, hf1, hb1⟩
  have HB1 : Hid (Below w.heap.size w w1) := HB0.out.trans (hb1.mono HB0.out.size)
  replace hf1 : InT q b w1 := ⟨hf1, tabu_below HTT.out HB1.out⟩
  have HI1 := hid hf1
  obtain ⟨X, hX⟩ : ∃ X, X = toz q rows := ⟨_, rfl⟩
  obtain ⟨E, hE⟩ : ∃ E, E = toe rows := ⟨_, rfl⟩
  have HXX := hid hX
  have HEE := hid hE
  have HT1 : Hid (Calls Tryd.prog 19 #[.pointer (some ⟨b, 0, none⟩), .slice a1 d c1] w1 fun e w' => e = .returned (.tuple #[.int .i64 X, errz E]) ∧ Below w1.heap.size w1 w') := by
    have h := HTO.out q b c1 a1 rows w1 hf1.toInF (H1.out.below HB1.out)
    rw [← HD.out, ← hX, ← hE] at h
    exact h
  clear hf1 hb1 HB0 hX hE
  go_wp2_with fail
  refine HT1.out.mono ?_
  rintro e w2 ⟨rfl, hb2⟩
  have HB2 : Hid (Below w.heap.size w w2) := HB1.out.trans (hb2.mono HB1.out.size)
  have HI2 := hid (HI1.out.below hb2)
  obtain ⟨U, hU⟩ : ∃ U, U = unlB q drawn := ⟨_, rfl⟩
  have HUU := hid hU
  have HUN : Hid (Calls Tryd.prog 22 #[.int .i64 q, .slice a4 dl c4] w2 fun e w' => e = .returned (.bool U) ∧ Below w2.heap.size w2 w') := by
    have h := runlike_any q c4 a4 drawn w2 h3 h4 (by have := H4.out.len; omega) H4.out.fit (H4.out.below HB2.out).lst.row
    rw [← HDL.out, ← hU] at h
    exact h
  clear hb2 HT1 HB1 HI1 hU
  go_wp2_with fail
  refine HUN.out.mono ?_
  rintro e w3 ⟨rfl, hb3⟩
  have HB3 : Hid (Below w.heap.size w w3) := HB2.out.trans (hb3.mono HB2.out.size)
  have HI3 := hid (HI2.out.below hb3)
  have HOF := hid (rof_any q claim w3 h3 h4 hc1 hc2)
  obtain ⟨C, hC⟩ : ∃ C, C = claim % (q : Int) := ⟨_, rfl⟩
  rw [← hC] at HOF
  clear hb3 HUN HB2 HI2 hC
  go_wp2_with fail
  refine HOF.out.mono ?_
  rintro e w4 ⟨rfl, rfl⟩
  clear HOF
  by_cases t1 : E ≠ 0
  · rw [errz_some t1]
    clear t1
    go_wp2_with fail
    go_ret
    exact ⟨rfl, HB3.out⟩
  have HE0 : Hid (E = 0) := Classical.not_not.1 t1
  rw [HE0.out, errz_nil]
  clear t1
  by_cases t2 : X = C
  · have u2 : (X == C) = true := by simp [t2]
    clear t2
    go_wp2_with fail
    go_ret
    exact ⟨rfl, HB3.out⟩
  have u2 : (X == C) = false := by simp [t2]
  by_cases t3 : tl ≠ d + 1
  · have u3 : ((tl : Int) != (d : Int) + 1) = true := by simp; omega
    clear t3
    go_wp2_with fail
    go_ret
    exact ⟨rfl, HB3.out⟩
  have u3 : ((tl : Int) != (d : Int) + 1) = false := by simp; omega
  by_cases t4 : q ≤ d
  · have u4 : (d : Int) ≥ (q : Int) := by omega
    clear t4
    go_wp2_with fail
    go_ret
    exact ⟨rfl, HB3.out⟩
  have u4 : ¬ (d : Int) ≥ (q : Int) := by omega
  have u4b : decide ((q : Int) ≤ (d : Int)) = false := by simp; omega
  have u4c : ¬ (q : Int) ≤ (d : Int) := by omega
  by_cases t5 : dl ≠ d + 1
  · have u5 : ((dl : Int) != (d : Int) + 1) = true := by simp; omega
    clear t5
    go_wp2_with fail
    go_ret
    exact ⟨rfl, HB3.out⟩
  have u5 : ((dl : Int) != (d : Int) + 1) = false := by simp; omega
  by_cases t6 : U = false
  · subst t6
    go_wp2_with fail
    go_ret
    exact ⟨rfl, HB3.out⟩
  obtain rfl : U = true := by cases U <;> simp_all
  have HNE : Hid (X ≠ C) := t2
  have htl : tl = d + 1 := by omega
  have hdl : dl = d + 1 := by omega
  have hdq : d < q := by omega
  have HOV : Hid (0 ≤ ovr rows) := by
    unfold Hid
    have h := HEE.out
    rw [HE0.out] at h
    unfold toe at h
    split at h
    · assumption
    · omega
  have HXT : Hid (X = totz q rows) := by unfold Hid; rw [HXX.out]; unfold toz; rw [if_pos HOV.out]
  have HOK := hid (ovr_of HOV.out)
  have HUL : Hid (Unl q (zat drawn) drawn.length) := Classical.byContradiction fun hn => by
    have := HUU.out
    rw [unlB_no hn] at this
    cases this
  have HD1 : Hid (1 ≤ d ∧ d ≤ 4) := by
    obtain ⟨v, _, _, e3, e4, _⟩ := HOK.out
    exact ⟨by rw [HD.out]; exact e3, by rw [HD.out]; exact e4⟩
  obtain ⟨b3, o3, ha3, hb3, hx0⟩ := H3.out.lst.row 0 (by rw [← HTL.out]; omega)
  obtain ⟨_, _, he3, _, hx1⟩ := H3.out.lst.row 1 (by rw [← HTL.out]; have := HD1.out; omega)
  subst ha3
  cases he3
  have xa := (HB3.out.cell (p := ⟨b3, o3 + 0, none⟩) hb3).trans hx0
  have xb := (HB3.out.cell (p := ⟨b3, o3 + 1, none⟩) hb3).trans hx1
  rw [Nat.add_zero] at xa
  obtain ⟨f1, f2⟩ := H3.out.fit.all 0
  obtain ⟨f3, f4⟩ := H3.out.fit.all 1
  obtain ⟨y0, hy0⟩ : ∃ y0, y0 = zat told 0 := ⟨_, rfl⟩
  obtain ⟨y1, hy1⟩ : ∃ y1, y1 = zat told 1 := ⟨_, rfl⟩
  rw [← hy0] at xa f1 f2
  rw [← hy1] at xb f3 f4
  have HADD := hid (fun W => radd_any q y0 y1 W h3 h4 f1 f2 f3 f4)
  obtain ⟨S, hS⟩ : ∃ S, S = (y0 + y1) % (q : Int) := ⟨_, rfl⟩
  have HSS : Hid (S = (zat told 0 + zat told 1) % (q : Int)) := by unfold Hid; rw [hS, hy0, hy1]
  rw [← hS] at HADD
  have v0 : (0 : Int) < (tl : Int) := by omega
  have v1 : (1 : Int) < (tl : Int) := by have := HD1.out; omega
  have HTLD := hid htl
  have HDLD := hid hdl
  have HDQ := hid hdq
  have u4d : decide (q ≤ d) = false := by simp; omega
  clear hS hy0 hy1 hx0 hx1 t2 t3 t5 t6 htl hdl hdq hb3
  go_wp2_with fail
  go_quiet (first
    | (go_at_call 23; exact Calls.quiet_of_same (HADD.out _)))
  have HB5 : Hid (Below w.heap.size w (w4.drewN nq)) := below_drewN HB3.out nq
  have HI5 : Hid (InT q b (w4.drewN nq)) := HI3.out.below (below_drewN (Below.refl _ _) nq)
  clear xa xb HADD HB3 HI3
  generalize w4.drewN nq = W5 at *
  by_cases t7 : S = C
  · have u7 : (S != C) = false := by simp [t7]
    have HWR : Hid ((zat told 0 + zat told 1) % (q : Int) ≠ totz q rows) := by
      unfold Hid
      rw [← HSS.out, t7, ← HXT.out]
      exact fun h => HNE.out h.symm
    clear t7
    go_wp2_with fail
    go_loopw [19] (fun iv wr => ∃ i : Nat, i ≤ dl ∧ iv = .int .i64 i ∧ Hid ((∀ j, j < i → 1 ≤ ovr rows ∧ totz q (fixr q rows (zat drawn j)) = atz q told (zat drawn j)) ∧ Below w.heap.size w wr ∧ InT q b wr)) (fun iv _ => dl - (intOf iv).toNat)
    case atStart => exact ⟨0, by omega, rfl, fun j hj => by omega, HB5.out, HI5.out⟩
    case round =>
      obtain ⟨i, hi, rfl, hI⟩ := hrel
      by_cases hlt : i < dl
      · have hlt2 : (i : Int) < (dl : Int) := by omega
        have hks : IntKind.i64.wrap ((i : Int) + 1) = (i : Int) + 1 := by rw [IntKind.wrap_i64]; omega
        obtain ⟨bd, od, hde, hbd, hxd⟩ := H4.out.lst.row i (by rw [← HDL.out]; exact hlt)
        subst hde
        obtain ⟨g1, g2⟩ := H4.out.fit.all i
        obtain ⟨dr, hdr⟩ : ∃ dr, dr = zat drawn i := ⟨_, rfl⟩
        have HDR := hid hdr
        rw [← hdr] at hxd g1 g2
        have HXD : Hid (∀ W, Below w.heap.size w W → W.cell? ⟨bd, od + i, none⟩ = some (.int .i64 dr)) := fun W h => (h.cell (p := ⟨bd, od + i, none⟩) hbd).trans hxd
        obtain ⟨R, hR⟩ : ∃ R, R = fixr q rows dr := ⟨_, rfl⟩
        have HRQ := hid hR
        have HRL : Hid (R.length = d) := by unfold Hid; rw [hR, fixr_len, HD.out]
        have HRR : Hid (∀ k, k < d → rat R k = fixl q (rat rows k) dr) := fun k hk => by rw [hR]; exact fixr_rat (by rw [← HD.out]; exact hk)
        have HOI := hid hI.out.1
        have HBI := hid hI.out.2.1
        have HII := hid hI.out.2.2
        clear hI hxd hdr hR
        generalize wr = Wi at *
        go_wp2_with fail
        go_loopw [20, 21] (fun nv kv wk => ∃ k : Nat, k ≤ d ∧ kv = .int .i64 k ∧ Hid ((0 < k → 1 ≤ ovr rows) ∧ OwnR Wi.heap.size wk nv (R.take k) ∧ Below Wi.heap.size Wi wk)) (fun _ kv _ => d - (intOf kv).toNat)
        case atStart => exact ⟨0, by omega, rfl, fun h => by omega, by rw [List.take_zero]; exact OwnR.nil _ _, Below.refl _ _⟩
        case round =>
          obtain ⟨k, hk, rfl, hJ⟩ := hrel
          by_cases hkt : k < d
          · have hkt2 : (k : Int) < (d : Int) := by omega
            have hkw : IntKind.i64.wrap ((k : Int) + 1) = (k : Int) + 1 := by rw [IntKind.wrap_i64]; omega
            obtain ⟨bt, ot, ak, ck, hae, hbt, hct, hlk⟩ := H1.out.lst.row k (by rw [← HD.out]; exact hkt)
            subst hae
            have HKe : Hid (∀ W, Below w.heap.size w W → W.cell? ⟨bt, ot + k, none⟩ = some (.slice ak (rat rows k).length ck) ∧ W.cell? ⟨bd, od + i, none⟩ = some (.int .i64 dr)) := fun W h => ⟨(h.cell (p := ⟨bt, ot + k, none⟩) hbt).trans hct, HXD.out W h⟩
            have hvr : vrs (rat rows k).length = ovr rows := by
              obtain ⟨v, e1, e2, _, _, e5⟩ := HOK.out
              rw [e2]
              exact vrs_yes e1 (e5 k (by rw [← HD.out]; exact hkt))
            have HTI : Hid (∀ W, Below w.heap.size w W → InL W ak ck (rat rows k)) := fun W h => ⟨H1.out.lens k (by rw [← HD.out]; exact hkt), H1.out.fit k (by rw [← HD.out]; exact hkt), (hlk.below h).mono h.size⟩
            have HJB := hid hJ.out.2.2
            have HW : Hid (Below w.heap.size w wr) := HBI.out.trans (HJB.out.mono HBI.out.size)
            have HF0 := hid (HII.out.below HJB.out)
            have HFC : Hid (∀ W, Below wr.heap.size wr W → Calls Tryd.prog 24 #[.pointer (some ⟨b, 0, none⟩), .slice ak (rat rows k).length ck, .int .i64 dr] W fun e w' => ∃ a' c', e = .returned (.tuple #[.slice a' (fxl q (rat rows k) dr).length c', errz (fxe (rat rows k))]) ∧ SlR w' (fxl q (rat rows k) dr) (.slice a' (fxl q (rat rows k) dr).length c') ∧ Below wr.heap.size wr w') := fun W h => by
              refine (HFX.out q b ck ak (rat rows k) dr W (HF0.out.below h) (HTI.out W (HW.out.trans (h.mono HW.out.size))) g1 g2).mono ?_
              rintro e w' ⟨a', c', h1, _, h2, h3⟩
              exact ⟨a', c', h1, h2, h.trans (h3.mono h.size)⟩
            have HKE2 : Hid (∀ W, Below wr.heap.size wr W → W.cell? ⟨bt, ot + k, none⟩ = some (.slice ak (rat rows k).length ck) ∧ W.cell? ⟨bd, od + i, none⟩ = some (.int .i64 dr)) := fun W h => HKe.out W (HW.out.trans (h.mono HW.out.size))
            have hdd : Below wr.heap.size wr wr.drew := (Below.refl _ _).drew
            obtain ⟨x1, x2⟩ := HKE2.out wr (Below.refl _ _)
            by_cases hv1 : 1 ≤ ovr rows
            · have HXE : Hid (fxe (rat rows k) = 0) := by unfold Hid fxe; rw [if_pos (by rw [hvr]; exact hv1)]
              have HXL : Hid (fxl q (rat rows k) dr = fixl q (rat rows k) dr) := by unfold Hid fxl; rw [if_pos (by rw [hvr]; exact hv1)]
              rw [HXE.out, HXL.out, errz_nil] at HFC
              have HTK : Hid (R.take (k + 1) = R.take k ++ [fixl q (rat rows k) dr]) := by unfold Hid; rw [take_succ_rat (by rw [HRL.out]; exact hkt), HRR.out k hkt]
              have HKL : Hid ((R.take k).length = k) := by unfold Hid; rw [List.length_take, HRL.out]; omega
              have HV1 := hid hv1
              have HOW := hid hJ.out.2.1
              generalize fixl q (rat rows k) dr = t at *
              generalize (rat rows k).length = n1 at *
              clear hJ hlk hct hvr HTI HKe HXE HXL hv1 x1 x2
              go_wp2_with fail
              go_region_held3 (fun W => W.cell? ⟨bt, ot + k, none⟩ = some (.slice ak n1 ck) ∧ W.cell? ⟨bd, od + i, none⟩ = some (.int .i64 dr)) (exact HKE2.out _ (by assumption))
                (first
                  | (go_at_call 24; refine (HFC.out _ (by assumption)).mono ?_; rintro e w' ⟨a', c', rfl, hsl, hb'⟩))
              have HS1 := hid hsl
              have HO1 := hid (HOW.out.keep hb')
              have HB1 : Hid (Below Wi.heap.size Wi w') := HJB.out.trans (hb'.mono HJB.out.size)
              clear hsl hb' hdd HKE2 HFC HOW HF0 HW HJB
              go_wp2_with (at_builtin; refine wpList_row1 w' Wi.heap.size rfl _ _ rfl _ _ (R.take k) t HO1.out HS1.out rfl rfl (by rw [HKL.out]; omega) HB1.out.size ?_)
              intro v3 w6 ho6 hb6 _
              rw [← HTK.out] at ho6
              have HE6 : Hid ((0 < k + 1 → 1 ≤ ovr rows) ∧ OwnR Wi.heap.size w6 v3 (R.take (k + 1)) ∧ Below Wi.heap.size Wi w6) := ⟨fun _ => HV1.out, ho6, HB1.out.trans hb6⟩
              clear ho6 hb6 HO1 HS1 HB1
              go_wp2_with fail
              go_roundw
              case rel => exact ⟨k + 1, by omega, by go_num, HE6⟩
              case measure => simp [intOf]; omega
            · have HXE : Hid (fxe (rat rows k) = 2) := by unfold Hid fxe; rw [if_neg (by rw [hvr]; exact hv1)]
              rw [HXE.out, errz_some (by omega)] at HFC
              generalize fxl q (rat rows k) dr = t at *
              generalize (rat rows k).length = n1 at *
              clear hJ hlk hct hvr HTI HKe HXE hv1 x1 x2 HF0 HJB
              go_wp2_with fail
              go_region_held3 (fun W => W.cell? ⟨bt, ot + k, none⟩ = some (.slice ak n1 ck) ∧ W.cell? ⟨bd, od + i, none⟩ = some (.int .i64 dr)) (exact HKE2.out _ (by assumption))
                (first
                  | (go_at_call 24; refine (HFC.out _ (by assumption)).mono ?_; rintro e w' ⟨a', c', rfl, hsl, hb'⟩))
              have HB1 : Hid (Below w.heap.size w w') := HW.out.trans (hb'.mono HW.out.size)
              clear hsl hb' hdd HKE2 HFC HW
              go_wp2_with fail
              go_ret
              exact ⟨rfl, HB1.out⟩
          · obtain rfl : k = d := by omega
            have hkt2 : ¬ (k : Int) < (k : Int) := by omega
            have HV1 := hid (hJ.out.1 (by have := HD1.out; omega))
            have HWK : Hid (Below w.heap.size w wr) := HBI.out.trans (hJ.out.2.2.mono HBI.out.size)
            have HFK := hid (HII.out.below hJ.out.2.2)
            obtain ⟨an', cn, hne, hln'⟩ := hJ.out.2.1.lst
            rw [← HRL.out, List.take_length] at hln' hne
            rw [HRL.out] at hne
            subst hne
            have HTT : Hid (Calls Tryd.prog 19 #[.pointer (some ⟨b, 0, none⟩), .slice an' k cn] wr fun e w' => e = .returned (.tuple #[.int .i64 (totz q R), .nilIface]) ∧ Below wr.heap.size wr w') := by
              obtain ⟨v, e1, e2, e3, e4, e5⟩ := HOK.out
              obtain ⟨u, hu⟩ : ∃ u, v = u + 1 := ⟨v - 1, by have := HV1.out; omega⟩
              subst hu
              have hov : ovr R = (u : Int) := by rw [HRQ.out]; exact ovr_fix e3 e4 (by omega) e5 dr
              have hlR := hln'
              rw [HRQ.out] at hlR
              have h := HTO.out q b cn an' R wr HFK.out.toInF ⟨by rw [HRL.out]; exact hln, fun j hj => by
                rw [HRL.out] at hj
                rw [HRQ.out, fixr_rat (by rw [← HD.out]; exact hj), fixl_len, e5 j (by rw [← HD.out]; exact hj)]
                have := two12 e1
                omega, by rw [HRQ.out]; exact fixr_fits h3 h4 _ _, hln'⟩
              have e6 : toz q R = totz q R := by unfold toz; rw [if_pos (by rw [hov]; omega)]
              have e7 : toe R = 0 := by unfold toe; rw [if_pos (by rw [hov]; omega)]
              rw [HRL.out, e6, e7, errz_nil] at h
              exact h
            obtain ⟨M, hM⟩ : ∃ M, M = totz q R := ⟨_, rfl⟩
            rw [← hM] at HTT
            have HMM := hid hM
            clear hJ hln' hM
            go_wp2_with fail
            refine HTT.out.mono ?_
            rintro e w6 ⟨rfl, hb6⟩
            have HB6 : Hid (Below w.heap.size w w6) := HWK.out.trans (hb6.mono HWK.out.size)
            have HI6 := hid (HFK.out.below hb6)
            have xd := HXD.out w6 HB6.out
            obtain ⟨A, hA⟩ : ∃ A, A = atz q told dr := ⟨_, rfl⟩
            have HAA := hid hA
            have HAT : Hid (Calls Tryd.prog 25 #[.int .i64 q, .slice (some ⟨b3, o3, none⟩) tl c3, .int .i64 dr] w6 fun e w' => e = .returned (.int .i64 A) ∧ Below w6.heap.size w6 w') := by
              have h := rat4_any q c3 (some ⟨b3, o3, none⟩) told dr w6 h3 h4 H3.out.len H3.out.fit g1 g2 (H3.out.below HB6.out).lst.row
              rw [← HTL.out, ← hA] at h
              exact h
            clear hb6 HTT hA HWK HFK
            go_wp2_with fail
            refine HAT.out.mono ?_
            rintro e w7 ⟨rfl, hb7⟩
            have HB7 : Hid (Below w.heap.size w w7) := HB6.out.trans (hb7.mono HB6.out.size)
            have HI7 := hid (HI6.out.below hb7)
            clear hb7 HAT xd HB6 HI6
            by_cases t8 : M = A
            · have u8 : (M != A) = false := by simp [t8]
              have HE8 : Hid ((∀ j, j < i + 1 → 1 ≤ ovr rows ∧ totz q (fixr q rows (zat drawn j)) = atz q told (zat drawn j)) ∧ Below w.heap.size w w7 ∧ InT q b w7) := by
                refine ⟨fun j hj => ?_, HB7.out, HI7.out⟩
                by_cases e : j = i
                · rw [e, ← HDR.out, ← HRQ.out, ← HMM.out, ← HAA.out]
                  exact ⟨HV1.out, t8⟩
                · exact HOI.out j (by omega)
              clear t8
              go_wp2_with fail
              go_roundw
              case rel => exact ⟨i + 1, by omega, by go_num, HE8⟩
              case measure => simp [intOf]; omega
            · have u8 : (M != A) = true := by simp [t8]
              clear t8
              go_wp2_with fail
              go_ret
              exact ⟨rfl, HB7.out⟩
      · exfalso
        obtain rfl : i = dl := by omega
        obtain ⟨v, e1, e2, e3, e4, e5⟩ := HOK.out
        have hv1 : 1 ≤ ovr rows := (hI.out.1 0 (by have := HDLD.out; omega)).1
        obtain ⟨u, hu⟩ : ∃ u, v = u + 1 := ⟨v - 1, by omega⟩
        subst hu
        obtain ⟨j, hj, hne⟩ := caught (p := q) (N := 2 ^ (u + 1)) (h := 2 ^ u) HP.out h3 e3 e5 (by rw [Nat.pow_succ]; omega) (by rw [← HD.out]; exact HDQ.out) (told := told) (drawn := drawn) (by rw [← HTL.out, ← HD.out]; exact HTLD.out) (by rw [← HDL.out, ← HD.out]; exact HDLD.out) (unl_dvd h3 HUL.out) HWR.out
        exact hne (hI.out.1 j (by rw [HDL.out]; exact hj)).2
  · have u7 : (S != C) = true := by simp [t7]
    clear t7
    go_wp2_with fail
    go_ret
    exact ⟨rfl, HB5.out⟩

set_option maxRecDepth 100000 in
theorem ucatches_walk (FX : FixAs) (TO : TotAs) (p : Int) (a1 a3 a4 : Option Addr) (c1 c3 c4 : Nat) (rows : List (List Int)) (claim : Int) (told drawn : List Int) (w : World) (hT : TabAt 2 Lib.deBruijn64tab w) (hp1 : -9223372036854775808 ≤ p) (hp2 : p ≤ 9223372036854775807) (hc1 : -9223372036854775808 ≤ claim) (hc2 : claim ≤ 9223372036854775807)
    (hr1 : rows.length ≤ 5864062014634 ∧ ∀ k, k < rows.length → (rat rows k).length ≤ 17592186043904) (hf1 : ∀ k, k < rows.length → Fits (rat rows k)) (hl1 : LstR w.heap.size w a1 c1 rows) (hr3 : told.length ≤ 17592186043904) (hf3 : Fits told) (hl3 : Lst w.heap.size w a3 c3 told) (hr4 : drawn.length ≤ 17592186043904) (hf4 : Fits drawn) (hl4 : Lst w.heap.size w a4 c4 drawn) :
    Calls Tryd.prog 5 #[.int .i64 p, .slice a1 rows.length c1, .int .i64 claim, .slice a3 told.length c3, .slice a4 drawn.length c4] w fun e w' => e = .returned (.bool true) ∧ Below w.heap.size w w' := by
  by_cases hg : okPrime p
  · obtain ⟨hq3, hq4, hqp⟩ := hg
    obtain ⟨q, rfl⟩ := Int.eq_ofNat_of_zero_le (show 0 ≤ p by omega)
    exact ucatches_good FX TO q a1 a3 a4 c1 c3 c4 rows claim told drawn w hT (by omega) (by omega) (by simpa using hqp) ⟨hr1.1, hr1.2, hf1, hl1⟩ hc1 hc2 ⟨hr3, hf3, hl3⟩ ⟨hr4, hf4, hl4⟩
  · have HTO := hid TO
    clear hT hr1 hf1 hl1 hr3 hf3 hl3 hr4 hf4 hl4 FX TO
    go_enter Tryd.func5, Tryd.ntmps5
    go_wp2_with fail
    refine (lives4_any HTO.out w).mono ?_
    rintro e w0 ⟨rfl, hb0⟩
    have HB0 := hid hb0
    clear hb0
    go_wp2_with fail
    refine (plain4_no p w0 hg hp1 hp2).mono ?_
    rintro e w1 ⟨rfl, rfl⟩
    go_wp2_with fail
    go_ret
    exact ⟨rfl, HB0.out⟩

end Go.Proofs.YtecaifjbmfianagDoor
