/- Package whole: the reference's Bytes. Package whole: lists of Openings read. -/
import Derived.Test.YtcajofdmadpmoaaDoorWbAK
import Derived.Test.YtcajofdmadpmoaaDoorWbAI
namespace Go.Proofs.YtcajofdmadpmoaaDoor
open Go.RowKit

set_option maxRecDepth 100000 in
set_option maxHeartbeats 2000000 in
theorem refBytes_any (z : VoZ) (w : World) (am_ aa_ ar_ als_ ao_ arxp arxr arxn alxp alxr alxn : Option Addr) (cm_ ca_ cr_ cls_ co_ crxp crxr crxn clxp clxr clxn : Nat)
    (hm_ : Lst w.heap.size w am_ cm_ z.main)
    (ha_ : Lst w.heap.size w aa_ ca_ z.aux)
    (hr_ : LstR w.heap.size w ar_ cr_ z.roots)
    (hls_ : Lst w.heap.size w als_ cls_ z.last)
    (ho_ : LstF w.heap.size w ao_ co_ z.opens)
    (hrxp : Lst w.heap.size w arxp crxp z.rows.ps)
    (hrxr : LstR w.heap.size w arxr crxr z.rows.rows)
    (hrxn : LstR w.heap.size w arxn crxn z.rows.nodes)
    (hlxp : Lst w.heap.size w alxp clxp z.lst.ps)
    (hlxr : LstR w.heap.size w alxr clxr z.lst.rows)
    (hlxn : LstR w.heap.size w alxn clxn z.lst.nodes)
    (hl : (vbV z).length ≤ 70368744177664) :
    Calls Tryd.prog 5 #[.agg #[.slice am_ z.main.length cm_, .slice aa_ z.aux.length ca_, .int .i64 z.tries, .slice ar_ z.roots.length cr_, .slice als_ z.last.length cls_, .slice ao_ z.opens.length co_, .slice arxp z.rows.ps.length crxp, .slice arxr z.rows.rows.length crxr, .slice arxn z.rows.nodes.length crxn, .slice alxp z.lst.ps.length clxp, .slice alxr z.lst.rows.length clxr, .slice alxn z.lst.nodes.length clxn]] w fun e w' => ∃ v', e = .returned v' ∧ OwnB w.heap.size w' v' (vbV z) ∧ Below w.heap.size w w' := by
  obtain ⟨P1, hP1⟩ : ∃ P, P = [] ++ vbL z.main := ⟨_, rfl⟩
  obtain ⟨P2, hP2⟩ : ∃ P, P = P1 ++ vbL z.aux := ⟨_, rfl⟩
  obtain ⟨P3, hP3⟩ : ∃ P, P = P2 ++ vbI z.tries := ⟨_, rfl⟩
  obtain ⟨P4, hP4⟩ : ∃ P, P = P3 ++ vbR z.roots := ⟨_, rfl⟩
  obtain ⟨P5, hP5⟩ : ∃ P, P = P4 ++ vbL z.last := ⟨_, rfl⟩
  obtain ⟨P6, hP6⟩ : ∃ P, P = P5 ++ vbOs z.opens := ⟨_, rfl⟩
  obtain ⟨P7, hP7⟩ : ∃ P, P = P6 ++ vbO z.rows := ⟨_, rfl⟩
  obtain ⟨P8, hP8⟩ : ∃ P, P = P7 ++ vbO z.lst := ⟨_, rfl⟩
  have hT : vbV z = P8 := by rw [hP8, hP7, hP6, hP5, hP4, hP3, hP2, hP1]; rfl
  rw [hT] at hl ⊢
  have hl8 := hl
  have hl7 : P7.length ≤ 70368744177664 := by rw [hP8, List.length_append] at hl8; omega
  have hl6 : P6.length ≤ 70368744177664 := by rw [hP7, List.length_append] at hl7; omega
  have hl5 : P5.length ≤ 70368744177664 := by rw [hP6, List.length_append] at hl6; omega
  have hl4 : P4.length ≤ 70368744177664 := by rw [hP5, List.length_append] at hl5; omega
  have hl3 : P3.length ≤ 70368744177664 := by rw [hP4, List.length_append] at hl4; omega
  have hl2 : P2.length ≤ 70368744177664 := by rw [hP3, List.length_append] at hl3; omega
  have hl1 : P1.length ≤ 70368744177664 := by rw [hP2, List.length_append] at hl2; omega
  have hol : z.opens.length ≤ 70368744177664 := by
    have h1 : z.opens.length ≤ (vbOs z.opens).length := by unfold vbOs; exact flat_ge vbO_len z.opens _
    rw [hP6, List.length_append] at hl6
    omega
  obtain ⟨PC, hPC⟩ : ∃ P, P = P5 ++ vbI (z.opens.length : Int) := ⟨_, rfl⟩
  have hP6' : P6 = PC ++ (z.opens.map vbO).flatten := by rw [hP6, hPC, List.append_assoc]; unfold vbOs vbI; rw [uzz_nat (by omega)]
  have hlC : PC.length ≤ 70368744177664 := by rw [hP6', List.length_append] at hl6; omega
  have HPC := hid hPC
  have HLC := hid hlC
  have HP6' := hid hP6'
  have HPL : Hid (∀ i, i < z.opens.length → ((PC ++ ((z.opens.take i).map vbO).flatten) ++ vbO (onat z.opens i)).length ≤ 70368744177664) := fun i hi => by
    have := flat_pre vbO z.opens (i + 1)
    rw [flat_succ_on vbO z.opens i hi] at this
    rw [List.append_assoc, List.length_append]
    rw [hP6', List.length_append] at hl6
    omega
  have HP1 := hid hP1
  have HL1 := hid hl1
  have HP2 := hid hP2
  have HL2 := hid hl2
  have HP3 := hid hP3
  have HL3 := hid hl3
  have HP4 := hid hP4
  have HL4 := hid hl4
  have HP5 := hid hP5
  have HL5 := hid hl5
  have HP6 := hid hP6
  have HL6 := hid hl6
  have HP7 := hid hP7
  have HL7 := hid hl7
  have HP8 := hid hP8
  have HL8 := hid hl8
  obtain ⟨V0, hV0⟩ : ∃ W0, W0 = w.alloc (.cells #[.slice am_ z.main.length cm_, .slice aa_ z.aux.length ca_, .int .i64 z.tries, .slice ar_ z.roots.length cr_, .slice als_ z.last.length cls_, .slice ao_ z.opens.length co_, .slice arxp z.rows.ps.length crxp, .slice arxr z.rows.rows.length crxr, .slice arxn z.rows.nodes.length crxn, .slice alxp z.lst.ps.length clxp, .slice alxr z.lst.rows.length clxr, .slice alxn z.lst.nodes.length clxn] 30) := ⟨_, rfl⟩
  obtain ⟨W0, hW0⟩ : ∃ W0, W0 = V0.alloc (.cells #[.slice none 0 0] 49) := ⟨_, rfl⟩
  obtain ⟨Q, hQ⟩ : ∃ Q, Q = w.heap.size := ⟨_, rfl⟩
  obtain ⟨B, hBB⟩ : ∃ B, B = Q + 1 := ⟨_, rfl⟩
  have hvs : V0.heap.size = B := by rw [hV0, hBB, hQ]; simp
  have hbv : Below V0.heap.size V0 W0 := by rw [hW0]; exact (Below.refl _ _).alloc (Nat.le_refl _) _
  have hbw0 : Below w.heap.size w V0 := by rw [hV0]; exact (Below.refl _ _).alloc (Nat.le_refl _) _
  have hb0 : Below Q w W0 := by rw [hQ]; exact hbw0.trans (hbv.mono hbw0.size)
  have hku : KB B w W0 := KB.trans (KB.ku (KU.below hbw0)) (KB.ku (KU.below hbv))
  have hq0 : W0.heap[Q]? = some (.cells #[.slice am_ z.main.length cm_, .slice aa_ z.aux.length ca_, .int .i64 z.tries, .slice ar_ z.roots.length cr_, .slice als_ z.last.length cls_, .slice ao_ z.opens.length co_, .slice arxp z.rows.ps.length crxp, .slice arxr z.rows.rows.length crxr, .slice arxn z.rows.nodes.length crxn, .slice alxp z.lst.ps.length clxp, .slice alxr z.lst.rows.length clxr, .slice alxn z.lst.nodes.length clxn] 30 (0, 0)) := (hbv.block Q (by omega)).trans (by rw [hV0, hQ]; exact heap_alloc_new w _)
  have hR0 : RB Q W0 B [] := ⟨by omega, _, by rw [hW0, ← hvs]; exact heap_alloc_new V0 _, World.ownsRow_nil _ _ _ _⟩
  rw [← hQ] at hm_ ha_ hr_ hls_ ho_ hrxp hrxr hrxn hlxp hlxr hlxn ⊢
  have HB := hid (Nat.le_of_eq hQ)
  have HBK := hid (And.intro hb0 hku)
  have HQB : Hid (Q ≠ B) := by unfold Hid; omega
  have Hm_ := hid hm_
  have Ha_ := hid ha_
  have Hr_ := hid hr_
  have Hls_ := hid hls_
  have Ho_ := hid ho_
  have Hrxp := hid hrxp
  have Hrxr := hid hrxr
  have Hrxn := hid hrxn
  have Hlxp := hid hlxp
  have Hlxr := hid hlxr
  have Hlxn := hid hlxn
  have HQQ := hid hQ
  have HBQ := hid hBB
  have HW0 := hid hW0
  have HV0 := hid hV0
  have HQ0 := hid hq0
  obtain ⟨nm_, hnm_⟩ : ∃ n, n = z.main.length := ⟨_, rfl⟩
  have HNm_ := hid hnm_
  obtain ⟨na_, hna_⟩ : ∃ n, n = z.aux.length := ⟨_, rfl⟩
  have HNa_ := hid hna_
  obtain ⟨nr_, hnr_⟩ : ∃ n, n = z.roots.length := ⟨_, rfl⟩
  have HNr_ := hid hnr_
  obtain ⟨nls_, hnls_⟩ : ∃ n, n = z.last.length := ⟨_, rfl⟩
  have HNls_ := hid hnls_
  obtain ⟨no_, hno_⟩ : ∃ n, n = z.opens.length := ⟨_, rfl⟩
  have HNo_ := hid hno_
  obtain ⟨nrxp, hnrxp⟩ : ∃ n, n = z.rows.ps.length := ⟨_, rfl⟩
  have HNrxp := hid hnrxp
  obtain ⟨nrxr, hnrxr⟩ : ∃ n, n = z.rows.rows.length := ⟨_, rfl⟩
  have HNrxr := hid hnrxr
  obtain ⟨nrxn, hnrxn⟩ : ∃ n, n = z.rows.nodes.length := ⟨_, rfl⟩
  have HNrxn := hid hnrxn
  obtain ⟨nlxp, hnlxp⟩ : ∃ n, n = z.lst.ps.length := ⟨_, rfl⟩
  have HNlxp := hid hnlxp
  obtain ⟨nlxr, hnlxr⟩ : ∃ n, n = z.lst.rows.length := ⟨_, rfl⟩
  have HNlxr := hid hnlxr
  obtain ⟨nlxn, hnlxn⟩ : ∃ n, n = z.lst.nodes.length := ⟨_, rfl⟩
  have HNlxn := hid hnlxn
  rw [← hnm_, ← hna_, ← hnr_, ← hnls_, ← hno_, ← hnrxp, ← hnrxr, ← hnrxn, ← hnlxp, ← hnlxr, ← hnlxn] at HV0 HQ0
  rw [← hnm_, ← hna_, ← hnr_, ← hnls_, ← hno_, ← hnrxp, ← hnrxr, ← hnrxn, ← hnlxp, ← hnlxr, ← hnlxn]
  have HN := hid (refNums_any Q B [] am_ cm_ z.main W0 hR0 (Nat.le_trans HB.out HBK.out.1.size) (Hm_.out.below HBK.out.1) (by rw [← HP1.out]; exact HL1.out))
  rw [← HP1.out] at HN
  rw [← HNm_.out] at HN
  have x0 : W0.cell? ⟨Q, 0, none⟩ = some (.slice am_ nm_ cm_) := by have := HQ0.out; simp [World.cell?, this]
  clear hm_ ha_ hr_ hls_ ho_ hrxp hrxr hrxn hlxp hlxr hlxn hP8 hP7 hP6 hP5 hP4 hP3 hP2 hP1 hl1 hl2 hl3 hl4 hl5 hl6 hl7 hT hl hl8 hW0 hV0 hQ hb0 hku hq0 hR0 hvs hbv hbw0 hPC hP6' hlC hnm_ hna_ hnr_ hnls_ hno_ hnrxp hnrxr hnrxn hnlxp hnlxr hnlxn
  have hBq := HBQ.out
  rw [HQQ.out] at hBq
  subst hBB
  have hQ := HQQ.out
  go_enter Tryd.func5, Tryd.ntmps5
  go_wp2_with fail
  rw [← HV0.out, ← HW0.out, ← hQ]
  generalize Q + 1 = B at *
  clear hQ hBq
  refine HN.out.mono ?_
  rintro e w1 ⟨rfl, k1, k2, k3⟩
  have HBK2 := hid (And.intro (HBK.out.1.trans k2) (HBK.out.2.trans k3))
  have HQ2 := hid ((k3 _ _ _ _ HQ0.out (by decide) HQB.out).trans HQ0.out)
  clear HN HBK HQ0 x0
  have HBK := HBK2
  have HQ0 := HQ2
  clear HBK2 HQ2
  have HN := hid (refNums_any Q B P1 aa_ ca_ z.aux w1 k1 (Nat.le_trans HB.out HBK.out.1.size) (Ha_.out.below HBK.out.1) (by rw [← HP2.out]; exact HL2.out))
  rw [← HP2.out] at HN
  rw [← HNa_.out] at HN
  clear k1 k2 k3
  have x0 : w1.cell? ⟨Q, 1, none⟩ = some (.slice aa_ na_ ca_) := by have := HQ0.out; simp [World.cell?, this]
  clear HW0 HV0
  go_wp2_with fail
  refine HN.out.mono ?_
  rintro e w2 ⟨rfl, k1, k2, k3⟩
  have HBK2 := hid (And.intro (HBK.out.1.trans k2) (HBK.out.2.trans k3))
  have HQ2 := hid ((k3 _ _ _ _ HQ0.out (by decide) HQB.out).trans HQ0.out)
  clear HN HBK HQ0 x0
  have HBK := HBK2
  have HQ0 := HQ2
  clear HBK2 HQ2
  have HN := hid (refNumber_any Q B P2 z.tries w2 k1 (Nat.le_trans HB.out HBK.out.1.size) (by rw [← HP3.out]; exact HL3.out))
  rw [← HP3.out] at HN
  clear k1 k2 k3
  have x0 : w2.cell? ⟨Q, 2, none⟩ = some (.int .i64 z.tries) := by have := HQ0.out; simp [World.cell?, this]
  go_wp2_with fail
  refine HN.out.mono ?_
  rintro e w3 ⟨rfl, k1, k2, k3⟩
  have HBK2 := hid (And.intro (HBK.out.1.trans k2) (HBK.out.2.trans k3))
  have HQ2 := hid ((k3 _ _ _ _ HQ0.out (by decide) HQB.out).trans HQ0.out)
  clear HN HBK HQ0 x0
  have HBK := HBK2
  have HQ0 := HQ2
  clear HBK2 HQ2
  have HN := hid (refRows_any Q B P3 ar_ cr_ z.roots w3 k1 (Nat.le_trans HB.out HBK.out.1.size) (Hr_.out.below HBK.out.1) (by rw [← HP4.out]; exact HL4.out))
  rw [← HP4.out] at HN
  rw [← HNr_.out] at HN
  clear k1 k2 k3
  have x0 : w3.cell? ⟨Q, 3, none⟩ = some (.slice ar_ nr_ cr_) := by have := HQ0.out; simp [World.cell?, this]
  go_wp2_with fail
  refine HN.out.mono ?_
  rintro e w4 ⟨rfl, k1, k2, k3⟩
  have HBK2 := hid (And.intro (HBK.out.1.trans k2) (HBK.out.2.trans k3))
  have HQ2 := hid ((k3 _ _ _ _ HQ0.out (by decide) HQB.out).trans HQ0.out)
  clear HN HBK HQ0 x0
  have HBK := HBK2
  have HQ0 := HQ2
  clear HBK2 HQ2
  have HN := hid (refNums_any Q B P4 als_ cls_ z.last w4 k1 (Nat.le_trans HB.out HBK.out.1.size) (Hls_.out.below HBK.out.1) (by rw [← HP5.out]; exact HL5.out))
  rw [← HP5.out] at HN
  rw [← HNls_.out] at HN
  clear k1 k2 k3
  have x0 : w4.cell? ⟨Q, 4, none⟩ = some (.slice als_ nls_ cls_) := by have := HQ0.out; simp [World.cell?, this]
  go_wp2_with fail
  refine HN.out.mono ?_
  rintro e w5 ⟨rfl, k1, k2, k3⟩
  have HBK2 := hid (And.intro (HBK.out.1.trans k2) (HBK.out.2.trans k3))
  have HQ2 := hid ((k3 _ _ _ _ HQ0.out (by decide) HQB.out).trans HQ0.out)
  clear HN HBK HQ0 x0
  have HBK := HBK2
  have HQ0 := HQ2
  clear HBK2 HQ2
  have HN := hid (refNumber_any Q B P5 (z.opens.length : Int) w5 k1 (Nat.le_trans HB.out HBK.out.1.size) (by rw [← HPC.out]; exact HLC.out))
  rw [← HPC.out, ← HNo_.out] at HN
  clear k1 k2 k3
  have x0 : w5.cell? ⟨Q, 5, none⟩ = some (.slice ao_ no_ co_) := by have := HQ0.out; simp [World.cell?, this]
  go_wp2_with fail
  refine HN.out.mono ?_
  rintro e w6 ⟨rfl, k1, k2, k3⟩
  have HBK2 := hid (And.intro (HBK.out.1.trans k2) (HBK.out.2.trans k3))
  have HQ2 := hid ((k3 _ _ _ _ HQ0.out (by decide) HQB.out).trans HQ0.out)
  clear HN HBK HQ0 x0
  have HBK := HBK2
  have HQ0 := HQ2
  clear HBK2 HQ2
  have HK := hid k1
  clear k1 k2 k3
  have x0 : w6.cell? ⟨Q, 5, none⟩ = some (.slice ao_ no_ co_) := by have := HQ0.out; simp [World.cell?, this]
  have HNL : Hid (∀ i, i < no_ → i < z.opens.length) := fun i hi => by rw [← HNo_.out]; exact hi
  have hnol : no_ ≤ 70368744177664 := by rw [HNo_.out]; exact hol
  have HALL : Hid ((z.opens.take no_).map vbO = z.opens.map vbO) := by unfold Hid; rw [HNo_.out, List.take_length]
  go_wp2_with fail
  go_loopw [4] (fun iv wr => ∃ (i : Nat), i ≤ no_ ∧ iv = .int .i64 (i : Int) ∧ Hid (RB Q wr B (PC ++ ((z.opens.take i).map vbO).flatten) ∧ Below Q w wr ∧ KB B w wr ∧ wr.heap[Q]? = w6.heap[Q]?)) (fun iv _ => no_ - (intOf iv).toNat)
  case atStart => exact ⟨0, Nat.zero_le _, rfl, by rw [List.take_zero, List.map_nil, List.flatten_nil, List.append_nil]; exact HK.out, HBK.out.1, HBK.out.2, rfl⟩
  case round =>
    obtain ⟨i, hi', rfl, hI⟩ := hrel
    have HQr := hid (hI.out.2.2.2.trans HQ0.out)
    have x0 : wr.cell? ⟨Q, 5, none⟩ = some (.slice ao_ no_ co_) := by have := HQr.out; simp [World.cell?, this]
    by_cases hlt2 : i < no_
    · have hltI : (i : Int) < (no_ : Int) := by omega
      have hks : IntKind.i64.wrap ((i : Int) + 1) = (i : Int) + 1 := by rw [IntKind.wrap_i64]; omega
      have hlt := HNL.out i hlt2
      obtain ⟨b0, o0, ap, cp, ar, cr, an', cn, rfl, hb0, hc0, hc1, hc2, hL0, hL1, hL2⟩ := Ho_.out.row i hlt
      have y0 := (hI.out.2.1.cell (p := ⟨b0, o0 + i * 3, none⟩) hb0).trans hc0
      have y1 := (hI.out.2.1.cell (p := ⟨b0, o0 + i * 3 + 1, none⟩) hb0).trans hc1
      have y2 := (hI.out.2.1.cell (p := ⟨b0, o0 + i * 3 + 2, none⟩) hb0).trans hc2
      have HC := hid (refOpening_any Q B _ ap ar an' cp cr cn (onat z.opens i) wr hI.out.1 (Nat.le_trans HB.out hI.out.2.1.size) (hL0.below hI.out.2.1) (hL1.below hI.out.2.1) (hL2.below hI.out.2.1) (HPL.out i hlt))
      have HTI := hid (flat_succ_on vbO z.opens i hlt)
      have HBI := hid hI.out.2
      obtain ⟨m1, hm1⟩ : ∃ n, n = (onat z.opens i).ps.length := ⟨_, rfl⟩
      obtain ⟨m2, hm2⟩ : ∃ n, n = (onat z.opens i).rows.length := ⟨_, rfl⟩
      obtain ⟨m3, hm3⟩ : ∃ n, n = (onat z.opens i).nodes.length := ⟨_, rfl⟩
      rw [← hm1, ← hm2, ← hm3] at HC
      rw [← hm1] at y0
      rw [← hm2] at y1
      rw [← hm3] at y2
      clear hlt hI hb0 hc0 hc1 hc2 hL0 hL1 hL2 hm1 hm2 hm3
      go_wp2_with fail
      refine HC.out.mono ?_
      rintro e w3 ⟨rfl, k1, k2, k3⟩
      have HE : Hid (RB Q w3 B (PC ++ ((z.opens.take (i + 1)).map vbO).flatten) ∧ Below Q w w3 ∧ KB B w w3 ∧ w3.heap[Q]? = w6.heap[Q]?) := ⟨by rw [HTI.out, ← List.append_assoc]; exact k1, HBI.out.1.trans k2, HBI.out.2.1.trans k3, (k3 _ _ _ _ HQr.out (by decide) HQB.out).trans HBI.out.2.2⟩
      clear k1 k2 k3 HBI HC y0 y1 y2 x0
      go_wp2_with fail
      go_roundw
      case rel => exact ⟨i + 1, by omega, by go_num, HE⟩
      case measure => simp [intOf]; omega
    · obtain rfl : i = no_ := by omega
      have hltI : ¬ (i : Int) < (i : Int) := by omega
      have k1 : RB Q wr B P6 := by rw [HP6'.out, ← HALL.out]; exact hI.out.1
      have HBK := hid (And.intro hI.out.2.1 hI.out.2.2.1)
      have HQ0 := HQr
      clear hI HQr HK
      have HN := hid (refOpening_any Q B P6 arxp arxr arxn crxp crxr crxn z.rows wr k1 (Nat.le_trans HB.out HBK.out.1.size) (Hrxp.out.below HBK.out.1) (Hrxr.out.below HBK.out.1) (Hrxn.out.below HBK.out.1) (by rw [← HP7.out]; exact HL7.out))
      rw [← HP7.out] at HN
      rw [← HNrxp.out] at HN
      rw [← HNrxr.out] at HN
      rw [← HNrxn.out] at HN
      have x9 := x0
      clear k1 x0
      have x0 : wr.cell? ⟨Q, 6, none⟩ = some (.slice arxp nrxp crxp) := by have := HQ0.out; simp [World.cell?, this]
      have x1 : wr.cell? ⟨Q, 7, none⟩ = some (.slice arxr nrxr crxr) := by have := HQ0.out; simp [World.cell?, this]
      have x2 : wr.cell? ⟨Q, 8, none⟩ = some (.slice arxn nrxn crxn) := by have := HQ0.out; simp [World.cell?, this]
      go_wp2_with fail
      refine HN.out.mono ?_
      rintro e w7 ⟨rfl, k1, k2, k3⟩
      have HBK2 := hid (And.intro (HBK.out.1.trans k2) (HBK.out.2.trans k3))
      have HQ2 := hid ((k3 _ _ _ _ HQ0.out (by decide) HQB.out).trans HQ0.out)
      clear HN HBK HQ0 x0 x1 x2 x9
      have HBK := HBK2
      have HQ0 := HQ2
      clear HBK2 HQ2
      have HN := hid (refOpening_any Q B P7 alxp alxr alxn clxp clxr clxn z.lst w7 k1 (Nat.le_trans HB.out HBK.out.1.size) (Hlxp.out.below HBK.out.1) (Hlxr.out.below HBK.out.1) (Hlxn.out.below HBK.out.1) (by rw [← HP8.out]; exact HL8.out))
      rw [← HP8.out] at HN
      rw [← HNlxp.out] at HN
      rw [← HNlxr.out] at HN
      rw [← HNlxn.out] at HN
      clear k1 k2 k3
      have x0 : w7.cell? ⟨Q, 9, none⟩ = some (.slice alxp nlxp clxp) := by have := HQ0.out; simp [World.cell?, this]
      have x1 : w7.cell? ⟨Q, 10, none⟩ = some (.slice alxr nlxr clxr) := by have := HQ0.out; simp [World.cell?, this]
      have x2 : w7.cell? ⟨Q, 11, none⟩ = some (.slice alxn nlxn clxn) := by have := HQ0.out; simp [World.cell?, this]
      go_wp2_with fail
      refine HN.out.mono ?_
      rintro e w8 ⟨rfl, k1, k2, k3⟩
      have HBK2 := hid (And.intro (HBK.out.1.trans k2) (HBK.out.2.trans k3))
      have HQ2 := hid ((k3 _ _ _ _ HQ0.out (by decide) HQB.out).trans HQ0.out)
      clear HN HBK HQ0 x0 x1 x2
      have HBK := HBK2
      have HQ0 := HQ2
      clear HBK2 HQ2

      obtain ⟨_, v8, hc8, hO8⟩ := k1
      have z0 : w8.cell? ⟨B, 0, none⟩ = some v8 := by simp [World.cell?, hc8]
      obtain ⟨a8, n8, c8, rfl⟩ := OwnB.sl hO8
      have HE := hid (And.intro hO8 HBK.out.1)
      clear k2 k3 hO8 hc8
      go_wp2_with fail
      go_ret
      exact ⟨_, rfl, HE.out⟩

end Go.Proofs.YtcajofdmadpmoaaDoor

namespace Go.Proofs.YtcajofdmadpmoaaDoor
open Go.RowKit

set_option maxRecDepth 100000 in
set_option maxHeartbeats 4000000 in
theorem readOpens_any (R : Nat) (bs : List Nat) (w : World) (h : RdW w R bs) : Calls Tryd.prog 35 #[.pointer (some ⟨R, 0, none⟩), .func (.func 36) #[.pointer (some ⟨R, 0, none⟩)] #[]] w (ReE (fun w v l => OwnK 0 w v l) R w (rdL rdO bs)) := by
  have HN := hid (number_any R bs w h)
  have hRl := h.lt
  cases hc : rdI bs with
  | none =>
    rw [rdL_end rdO hc]
    rw [hc] at HN
    clear h hc
    go_enter Tryd.func35, Tryd.ntmps35
    go_wp2_with fail
    refine HN.out.mono ?_
    rintro e w1 ⟨hg1, rfl⟩
    exact ⟨rfl, hg1, rfl⟩
  | some nr =>
    obtain ⟨n, r⟩ := nr
    rw [rdL_num rdO hc]
    rw [hc] at HN
    have hrb : r.length ≤ 16777216 := rdI_le h hc
    clear h hc
    by_cases hok : 0 ≤ n ∧ n ≤ (r.length : Int)
    · rw [if_pos hok]
      obtain ⟨k, rfl⟩ := Int.eq_ofNat_of_zero_le hok.1
      have hkr : k ≤ r.length := by have := hok.2; omega
      have hk2 : (k : Int) ≤ (r.length : Int) := by omega
      have hk20 : k ≤ 16777216 := by omega
      rw [Int.toNat_natCast]
      clear hok
      obtain ⟨T, hT⟩ : ∃ T, T = rdN rdO r k := ⟨_, rfl⟩
      rw [← hT]
      have HT := hid hT
      clear hT
      go_enter Tryd.func35, Tryd.ntmps35
      go_wp2_with fail
      refine HN.out.mono ?_
      rintro e w1 ⟨hg1, rfl, h1⟩
      have H1 := hid h1
      have HG1 := hid hg1
      obtain ⟨a0, c0, h10, _⟩ := h1
      obtain ⟨nr, hnr⟩ : ∃ nr, nr = r.length := ⟨_, rfl⟩
      rw [← hnr] at hk2 h10
      have x0 : w1.cell? ⟨R, 0, none⟩ = some (.slice a0 nr c0) := by simp [World.cell?, h10]
      have HM := hid (must_yes w1)
      clear hg1 HN h10 hnr
      go_wp2_with fail
      refine HM.out.mono ?_
      rintro e w2 ⟨rfl, hw⟩
      have hwx := hw.symm
      subst hwx
      clear hw HM x0 hk2
      go_wp2_with fail
      go_loopw [6, 22] (fun lv0 iv wr => ∃ (i : Nat) (lv : Value), i ≤ k ∧ iv = .int .i64 (i : Int) ∧ lv = lv0 ∧ Hid (∃ (l : List OnZ) (r' : List Nat), rdN rdO r i = some (l, r') ∧ l.length = i ∧ OwnK w.heap.size wr lv l ∧ RdW wr R r' ∧ w.grownBy wr (some R))) (fun _ iv _ => k - (intOf iv).toNat)
      case atStart => exact ⟨0, _, Nat.zero_le _, rfl, rfl, [], r, rfl, rfl, OwnK.nil _ _, H1.out, HG1.out⟩
      case round =>
        obtain ⟨i, lv, hi', rfl, rfl, hI⟩ := hrel
        obtain ⟨l, r', e1, e2, e3, e4, e5⟩ := hI.out
        by_cases hlt : i < k
        · have hlt2 : (i : Int) < (k : Int) := by omega
          have hks : IntKind.i64.wrap ((i : Int) + 1) = (i : Int) + 1 := by rw [IntKind.wrap_i64]; omega
          have HO := hid (opening_any R r' wr e4)
          cases hp : rdO r' with
          | none =>
            rw [hp] at HO
            have HE : Hid (T = none) := by
              unfold Hid
              rw [HT.out]
              refine rdN_none (i := i + 1) ?_ k (by omega)
              simp only [rdN, e1, hp]
            have HW := hid e5
            clear hI e1 e3 e4 e5 hp
            go_wp2_with fail
            refine HO.out.mono ?_
            rintro e w3 ⟨hg3, rfl⟩
            refine ⟨rfl, gb_trans HW.out hg3, ?_⟩
            rw [HE.out]
            rfl
          | some xr =>
            obtain ⟨x, r2⟩ := xr
            rw [hp] at HO
            have HS : Hid (rdN rdO r (i + 1) = some (l ++ [x], r2) ∧ l.length = i) := by
              refine ⟨?_, e2⟩
              simp only [rdN, e1, hp]
            have HW := hid e5
            have HOW := hid e3
            have HR4 := hid e4
            clear hI e1 e3 e4 e5 hp
            go_wp2_with fail
            refine HO.out.mono ?_
            rintro e w3 ⟨hg3, v3, rfl, hs3, h3⟩
            have H3 := hid h3
            have HG3 := hid (gb_trans HW.out hg3)
            have HOX := hid (HOW.out.ko (rd_ko HR4.out hg3))
            obtain ⟨vp, vr, vn, rfl, p1, p2, p3⟩ := hs3
            have HP := hid (And.intro p1 (And.intro p2 p3))
            obtain ⟨ap, cp, ep, _⟩ := p1
            obtain ⟨ar, cr, er, _⟩ := p2.lst
            obtain ⟨an', cn, en, _⟩ := p3.lst
            subst ep er en
            have HLE := hid HS.out.2
            clear h3 hg3 HO p2 p3
            obtain ⟨n1, hn1⟩ : ∃ n1, n1 = x.ps.length := ⟨_, rfl⟩
            obtain ⟨n2, hn2⟩ : ∃ n2, n2 = x.rows.length := ⟨_, rfl⟩
            obtain ⟨n3, hn3⟩ : ∃ n3, n3 = x.nodes.length := ⟨_, rfl⟩
            rw [← hn1, ← hn2, ← hn3] at HP
            rw [← hn1, ← hn2, ← hn3]
            clear hn1 hn2 hn3
            go_wp2_with (at_builtin; refine wpList_onI w3 w.heap.size rfl _ _ rfl _ _ _ _ l x HOX.out HP.out.1 HP.out.2.1 HP.out.2.2 rfl rfl (by rw [HLE.out]; omega) HG3.out.size ?_)
            intro v' w5 ho5 hb5 _ _
            have HE : Hid (∃ (l : List OnZ) (r' : List Nat), rdN rdO r (i + 1) = some (l, r') ∧ l.length = i + 1 ∧ OwnK w.heap.size w5 v' l ∧ RdW w5 R r' ∧ w.grownBy w5 (some R)) := ⟨l ++ [x], r2, HS.out.1, by rw [List.length_append, HS.out.2]; rfl, ho5, H3.out.bel hb5 hRl, gb_bel HG3.out hb5⟩
            clear ho5 hb5 HOX HR4 HOW HW HS HP
            go_wp2_with fail
            go_roundw
            case rel => exact ⟨i + 1, _, by omega, by go_num, rfl, HE⟩
            case measure => simp [intOf]; omega
        · obtain rfl : i = k := by omega
          have hlt2 : ¬ (i : Int) < (i : Int) := by omega
          have HE : Hid (∃ l r', T = some (l, r') ∧ ((fun w v l => OwnK 0 w v l)) wr lv l ∧ RdW wr R r' ∧ w.grownBy wr (some R)) := ⟨l, r', by rw [HT.out]; exact e1, e3.mono (Nat.zero_le _), e4, e5⟩
          clear hI e1 e2 e3 e4 e5
          go_wp2_with fail
          go_ret
          obtain ⟨l, r', k1, k2, k3, k4⟩ := HE.out
          refine ⟨k4, ?_⟩
          rw [k1]
          exact ⟨_, rfl, k2, k3⟩
    · rw [if_neg hok]
      have hd : (decide (0 ≤ n) && decide (n ≤ (r.length : Int))) = false := by
        rw [Bool.and_eq_false_iff, decide_eq_false_iff_not, decide_eq_false_iff_not]
        omega
      have HM := hid (fun W => must_no W)
      by_cases h0 : 0 ≤ n
      · have hd2 : decide (n ≤ (r.length : Int)) = false := decide_eq_false (fun e => hok ⟨h0, e⟩)
        clear hok hd
        go_enter Tryd.func35, Tryd.ntmps35
        go_wp2_with fail
        refine HN.out.mono ?_
        rintro e w1 ⟨hg1, rfl, h1⟩
        have HG1 := hid hg1
        obtain ⟨a0, c0, h10, _⟩ := h1
        obtain ⟨nr, hnr⟩ : ∃ nr, nr = r.length := ⟨_, rfl⟩
        rw [← hnr] at hd2 h10
        have x0 : w1.cell? ⟨R, 0, none⟩ = some (.slice a0 nr c0) := by simp [World.cell?, h10]
        clear hg1 HN h10 hnr
        go_wp2_with fail
        refine (HM.out w1).mono ?_
        rintro e w2 ⟨rfl, rfl⟩
        exact ⟨rfl, HG1.out, rfl⟩
      · have hd2 : decide (0 ≤ n) = false := decide_eq_false h0
        clear hok hd
        go_enter Tryd.func35, Tryd.ntmps35
        go_wp2_with fail
        refine HN.out.mono ?_
        rintro e w1 ⟨hg1, rfl, h1⟩
        have HG1 := hid hg1
        clear hg1 HN h1
        go_wp2_with fail
        refine (HM.out w1).mono ?_
        rintro e w2 ⟨rfl, rfl⟩
        exact ⟨rfl, HG1.out, rfl⟩

end Go.Proofs.YtcajofdmadpmoaaDoor
