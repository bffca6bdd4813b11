/- Package whole: Openings written. Package whole: the reference's Openings. Package whole: lists of Openings written. -/
import Derived.Test.YtcajofdmadpmoaaDoorWbAJ
namespace Go.Proofs.YtcajofdmadpmoaaDoor
open Go.RowKit

theorem OwnB.al {base : Nat} {w : World} {v : Value} {bs : List Nat} (h : OwnB base w v bs) (o : Obj) : OwnB base (w.alloc o) v bs := World.ownsRow.alloc h o
set_option maxRecDepth 100000 in
set_option maxHeartbeats 4000000 in
theorem appOpening_any (base : Nat) (bs : List Nat) (v : Value) (ap ar an' : Option Addr) (cp cr cn : Nat) (o : OnZ) (w : World) (hO : OwnB base w v bs) (hb : base ≤ w.heap.size) (hp : Lst base w ap cp o.ps) (hr : LstR base w ar cr o.rows) (hn : LstR base w an' cn o.nodes) (hl0 : (bs ++ vbO o).length ≤ 70368744177664) :
    Calls Tryd.prog 14 #[v, .agg #[.slice ap o.ps.length cp, .slice ar o.rows.length cr, .slice an' o.nodes.length cn]] w (ApE base w (bs ++ vbO o)) := by
  obtain ⟨P1, hP1⟩ : ∃ P, P = bs ++ vbL o.ps := ⟨_, rfl⟩
  obtain ⟨P2, hP2⟩ : ∃ P, P = P1 ++ vbR o.rows := ⟨_, rfl⟩
  have hT : bs ++ vbO o = P2 ++ vbR o.nodes := by rw [hP2, hP1]; unfold vbO; simp only [List.append_assoc]
  rw [hT] at hl0 ⊢
  have hl2 : P2.length ≤ 70368744177664 := by rw [List.length_append] at hl0; omega
  have hl1 : P1.length ≤ 70368744177664 := by rw [hP2, List.length_append] at hl2; omega
  obtain ⟨W0, hW0⟩ : ∃ W0, W0 = w.alloc (.cells #[.slice ap o.ps.length cp, .slice ar o.rows.length cr, .slice an' o.nodes.length cn] 28) := ⟨_, rfl⟩
  obtain ⟨Q, hQ⟩ : ∃ Q, Q = w.heap.size := ⟨_, rfl⟩
  have hb0 : Below base w W0 := by rw [hW0]; exact (Below.refl _ _).alloc hb _
  have hku : KU w W0 := by rw [hW0]; exact KU.below ((Below.refl _ _).alloc (Nat.le_refl _) _)
  have hq0 : W0.heap[Q]? = some (.cells #[.slice ap o.ps.length cp, .slice ar o.rows.length cr, .slice an' o.nodes.length cn] 28 (0, 0)) := by rw [hW0, hQ]; exact heap_alloc_new w _
  have hO0 : OwnB base W0 v bs := by rw [hW0]; exact hO.al _
  have HN := hid (appNums_any base bs v ap cp o.ps W0 hO0 (Nat.le_trans hb hb0.size) (hp.below hb0) (by rw [← hP1]; exact hl1))
  rw [← hP1] at HN
  have HP2 := hid hP2
  have HL2 := hid hl2
  have HL0 := hid hl0
  have HB := hid hb
  have HR := hid (hr.below hb0)
  have HQN := hid (hn.below hb0)
  have HB0 := hid (And.intro hb0 hku)
  have HW0 := hid hW0
  have HQ := hid hQ
  have HQ0 := hid hq0
  obtain ⟨np, hnp⟩ : ∃ n, n = o.ps.length := ⟨_, rfl⟩
  obtain ⟨nr, hnr⟩ : ∃ n, n = o.rows.length := ⟨_, rfl⟩
  obtain ⟨nn, hnn⟩ : ∃ n, n = o.nodes.length := ⟨_, rfl⟩
  have HNR := hid hnr
  have HNN := hid hnn
  rw [← hnp, ← hnr, ← hnn] at HW0 HQ0
  rw [← hnp] at HN
  rw [← hnp, ← hnr, ← hnn]
  have x0 : W0.cell? ⟨Q, 0, none⟩ = some (.slice ap np cp) := by have := HQ0.out; simp [World.cell?, this]
  clear hO hb hp hr hn hl0 hP1 hP2 hT hl2 hl1 hW0 hQ hb0 hku hq0 hO0 hnp hnr hnn
  go_enter Tryd.func14, Tryd.ntmps14
  go_wp2_with fail
  rw [← HW0.out]
  refine HN.out.mono ?_
  rintro e w1 ⟨v1, rfl, k1, k2, k3⟩
  have HB1 := hid (And.intro (HB0.out.1.trans k2) (HB0.out.2.trans k3))
  have HQ1 := hid ((k3 _ _ _ _ HQ0.out (by decide)).trans HQ0.out)
  have HN2 := hid (appRows_any base P1 v1 ar cr o.rows w1 k1 (Nat.le_trans HB.out HB1.out.1.size) (HR.out.below k2) (by rw [← HP2.out]; exact HL2.out))
  rw [← HP2.out, ← HNR.out] at HN2
  have HQN2 := hid (HQN.out.below k2)
  have x1 : w1.cell? ⟨Q, 1, none⟩ = some (.slice ar nr cr) := by have := HQ1.out; simp [World.cell?, this]
  have hQ := HQ.out
  rw [hQ] at x1
  clear k1 k2 k3 x0 HN HQN HR HB0 HQ0 HW0 hQ
  go_wp2_with fail
  refine HN2.out.mono ?_
  rintro e w2 ⟨v2, rfl, k1, k2, k3⟩
  have HB2 := hid (And.intro (HB1.out.1.trans k2) (HB1.out.2.trans k3))
  have HQ2 := hid ((k3 _ _ _ _ HQ1.out (by decide)).trans HQ1.out)
  have HN3 := hid (appRows_any base P2 v2 an' cn o.nodes w2 k1 (Nat.le_trans HB.out HB2.out.1.size) (HQN2.out.below k2) HL0.out)
  rw [← HNN.out] at HN3
  have x2 : w2.cell? ⟨Q, 2, none⟩ = some (.slice an' nn cn) := by have := HQ2.out; simp [World.cell?, this]
  have hQ := HQ.out
  rw [hQ] at x2
  clear k1 k2 k3 x1 HN2 HQN2 HB1 HQ1 hQ
  go_wp2_with fail
  refine HN3.out.mono ?_
  rintro e w3 ⟨v3, rfl, k1, k2, k3⟩
  have HE : Hid (OwnB base w3 v3 (P2 ++ vbR o.nodes) ∧ Below base w w3 ∧ KU w w3) := ⟨k1, HB2.out.1.trans k2, HB2.out.2.trans k3⟩
  clear k1 k2 k3 x2 HN3 HB2
  go_wp2_with fail
  go_ret
  exact ⟨_, rfl, HE.out⟩

end Go.Proofs.YtcajofdmadpmoaaDoor

namespace Go.Proofs.YtcajofdmadpmoaaDoor
open Go.RowKit

theorem RB.lt {base B : Nat} {w : World} {bs : List Nat} (h : RB base w B bs) : B < w.heap.size := by
  obtain ⟨_, v, hc, _⟩ := h
  exact (Array.getElem?_eq_some_iff.1 hc).1
theorem RB.al {base B : Nat} {w : World} {bs : List Nat} (h : RB base w B bs) (o : Obj) : RB base (w.alloc o) B bs := by
  have hlt := h.lt
  obtain ⟨h0, v, hc, hO⟩ := h
  exact ⟨h0, v, (((Below.refl _ w).alloc (Nat.le_refl _) o).block B hlt).trans hc, hO.al o⟩
set_option maxRecDepth 100000 in
set_option maxHeartbeats 4000000 in
theorem refOpening_any (base B : Nat) (bs : List Nat) (ap ar an' : Option Addr) (cp cr cn : Nat) (o : OnZ) (w : World) (hR0 : RB base w B bs) (hb : base ≤ w.heap.size) (hp : Lst base w ap cp o.ps) (hr : LstR base w ar cr o.rows) (hn : LstR base w an' cn o.nodes) (hl0 : (bs ++ vbO o).length ≤ 70368744177664) :
    Calls Tryd.prog 18 #[.pointer (some ⟨B, 0, none⟩), .agg #[.slice ap o.ps.length cp, .slice ar o.rows.length cr, .slice an' o.nodes.length cn]] w (RwE base B w (bs ++ vbO o)) := by
  obtain ⟨P1, hP1⟩ : ∃ P, P = bs ++ vbL o.ps := ⟨_, rfl⟩
  obtain ⟨P2, hP2⟩ : ∃ P, P = P1 ++ vbR o.rows := ⟨_, rfl⟩
  have hT : bs ++ vbO o = P2 ++ vbR o.nodes := by rw [hP2, hP1]; unfold vbO; simp only [List.append_assoc]
  rw [hT] at hl0 ⊢
  have hl2 : P2.length ≤ 70368744177664 := by rw [List.length_append] at hl0; omega
  have hl1 : P1.length ≤ 70368744177664 := by rw [hP2, List.length_append] at hl2; omega
  obtain ⟨W0, hW0⟩ : ∃ W0, W0 = w.alloc (.cells #[.slice ap o.ps.length cp, .slice ar o.rows.length cr, .slice an' o.nodes.length cn] 28) := ⟨_, rfl⟩
  obtain ⟨Q, hQ⟩ : ∃ Q, Q = w.heap.size := ⟨_, rfl⟩
  have hQB : Q ≠ B := by have := hR0.lt; omega
  have hb0 : Below base w W0 := by rw [hW0]; exact (Below.refl _ _).alloc hb _
  have hku : KB B w W0 := by rw [hW0]; exact KB.ku (KU.below ((Below.refl _ _).alloc (Nat.le_refl _) _))
  have hq0 : W0.heap[Q]? = some (.cells #[.slice ap o.ps.length cp, .slice ar o.rows.length cr, .slice an' o.nodes.length cn] 28 (0, 0)) := by rw [hW0, hQ]; exact heap_alloc_new w _
  have hO0 : RB base W0 B bs := by rw [hW0]; exact hR0.al _
  have HN := hid (refNums_any base B bs ap cp o.ps W0 hO0 (Nat.le_trans hb hb0.size) (hp.below hb0) (by rw [← hP1]; exact hl1))
  rw [← hP1] at HN
  have HP2 := hid hP2
  have HL2 := hid hl2
  have HL0 := hid hl0
  have HB := hid hb
  have HR := hid (hr.below hb0)
  have HQN := hid (hn.below hb0)
  have HB0 := hid (And.intro hb0 hku)
  have HW0 := hid hW0
  have HQ := hid hQ
  have HQ0 := hid hq0
  have HQB := hid hQB
  obtain ⟨np, hnp⟩ : ∃ n, n = o.ps.length := ⟨_, rfl⟩
  obtain ⟨nr, hnr⟩ : ∃ n, n = o.rows.length := ⟨_, rfl⟩
  obtain ⟨nn, hnn⟩ : ∃ n, n = o.nodes.length := ⟨_, rfl⟩
  have HNR := hid hnr
  have HNN := hid hnn
  rw [← hnp, ← hnr, ← hnn] at HW0 HQ0
  rw [← hnp] at HN
  rw [← hnp, ← hnr, ← hnn]
  have x0 : W0.cell? ⟨Q, 0, none⟩ = some (.slice ap np cp) := by have := HQ0.out; simp [World.cell?, this]
  clear hR0 hb hp hr hn hl0 hP1 hP2 hT hl2 hl1 hW0 hQ hb0 hku hq0 hO0 hnp hnr hnn hQB
  go_enter Tryd.func18, Tryd.ntmps18
  go_wp2_with fail
  rw [← HW0.out]
  refine HN.out.mono ?_
  rintro e w1 ⟨rfl, k1, k2, k3⟩
  have HB1 := hid (And.intro (HB0.out.1.trans k2) (HB0.out.2.trans k3))
  have HQ1 := hid ((k3 _ _ _ _ HQ0.out (by decide) HQB.out).trans HQ0.out)
  have HN2 := hid (refRows_any base B P1 ar cr o.rows w1 k1 (Nat.le_trans HB.out HB1.out.1.size) (HR.out.below k2) (by rw [← HP2.out]; exact HL2.out))
  rw [← HP2.out, ← HNR.out] at HN2
  have HQN2 := hid (HQN.out.below k2)
  have x1 : w1.cell? ⟨Q, 1, none⟩ = some (.slice ar nr cr) := by have := HQ1.out; simp [World.cell?, this]
  have hQ := HQ.out
  rw [hQ] at x1
  clear k1 k2 k3 x0 HN HQN HR HB0 HQ0 HW0 hQ
  go_wp2_with fail
  refine HN2.out.mono ?_
  rintro e w2 ⟨rfl, k1, k2, k3⟩
  have HB2 := hid (And.intro (HB1.out.1.trans k2) (HB1.out.2.trans k3))
  have HQ2 := hid ((k3 _ _ _ _ HQ1.out (by decide) HQB.out).trans HQ1.out)
  have HN3 := hid (refRows_any base B P2 an' cn o.nodes w2 k1 (Nat.le_trans HB.out HB2.out.1.size) (HQN2.out.below k2) HL0.out)
  rw [← HNN.out] at HN3
  have x2 : w2.cell? ⟨Q, 2, none⟩ = some (.slice an' nn cn) := by have := HQ2.out; simp [World.cell?, this]
  have hQ := HQ.out
  rw [hQ] at x2
  clear k1 k2 k3 x1 HN2 HQN2 HB1 HQ1 hQ
  go_wp2_with fail
  refine HN3.out.mono ?_
  rintro e w3 ⟨rfl, k1, k2, k3⟩
  have HE : Hid (RB base w3 B (P2 ++ vbR o.nodes) ∧ Below base w w3 ∧ KB B w w3) := ⟨k1, HB2.out.1.trans k2, HB2.out.2.trans k3⟩
  clear k1 k2 k3 x2 HN3 HB2
  go_wp2_with fail
  go_end0
  exact ⟨rfl, HE.out⟩

end Go.Proofs.YtcajofdmadpmoaaDoor

namespace Go.Proofs.YtcajofdmadpmoaaDoor
open Go.RowKit

set_option maxRecDepth 100000 in
set_option maxHeartbeats 4000000 in
theorem appOpens_any (base : Nat) (bs : List Nat) (v : Value) (a : Option Addr) (c : Nat) (l : List (OnZ)) (w : World) (hO : OwnB base w v bs) (hb : base ≤ w.heap.size) (hL : LstF base w a c l) (hl0 : (bs ++ vbOs l).length ≤ 70368744177664) :
    Calls Tryd.prog 13 #[v, .slice a l.length c, .func (.func 14) #[] #[]] w (ApE base w (bs ++ vbOs l)) := by
  have hll : l.length ≤ 70368744177664 := by
    have h1 : l.length ≤ (vbOs l).length := by unfold vbOs; exact flat_ge vbO_len l _
    rw [List.length_append] at hl0
    omega
  obtain ⟨P, hP⟩ : ∃ P, P = bs ++ vbI (l.length : Int) := ⟨_, rfl⟩
  have hT : bs ++ vbOs l = P ++ (l.map vbO).flatten := by rw [hP, List.append_assoc]; unfold vbOs vbI; rw [uzz_nat (by omega)]
  rw [hT] at hl0 ⊢
  have HN := hid (appNumber_any base bs v (l.length : Int) w hO hb (by rw [← hP]; rw [List.length_append] at hl0; omega))
  rw [← hP] at HN
  have HLL := hid hL
  have HB := hid hb
  have HPL : Hid (∀ i, i < l.length → ((P ++ ((l.take i).map vbO).flatten) ++ vbO (onat l i)).length ≤ 70368744177664) := fun i hi => by
    have := flat_pre vbO l (i + 1)
    rw [flat_succ_on vbO l i hi] at this
    rw [List.append_assoc, List.length_append]
    rw [List.length_append] at hl0
    omega
  obtain ⟨n, hn⟩ : ∃ n, n = l.length := ⟨_, rfl⟩
  have HNN := hid hn
  rw [← hn] at HN hll ⊢
  have HTK : Hid (∀ i, i < l.length → ((l.take (i + 1)).map vbO).flatten = ((l.take i).map vbO).flatten ++ vbO (onat l i)) := fun i hi => flat_succ_on vbO l i hi
  have HALL : Hid ((l.take n).map vbO = l.map vbO) := by unfold Hid; rw [hn, List.take_length]
  have HRW : Hid (∀ i, i < n → i < l.length) := fun i hi => by rw [← hn]; exact hi
  clear hL hO hb hl0 hP hT hn
  go_enter Tryd.func13, Tryd.ntmps13
  go_wp2_with fail
  refine HN.out.mono ?_
  rintro e w1 ⟨v1, rfl, h1, h2, h3⟩
  have H1 := hid (And.intro h1 (And.intro h2 h3))
  clear h1 h2 h3 HN
  go_wp2_with fail
  go_loopw [0, 15] (fun bv0 iv wr => ∃ (i : Nat) (bv : Value), i ≤ n ∧ iv = .int .i64 (i : Int) ∧ bv = bv0 ∧ Hid (OwnB base wr bv (P ++ ((l.take i).map vbO).flatten) ∧ Below base w wr ∧ KU w wr)) (fun _ iv _ => n - (intOf iv).toNat)
  case atStart => exact ⟨0, _, Nat.zero_le _, rfl, rfl, by rw [List.take_zero, List.map_nil, List.flatten_nil, List.append_nil]; exact H1.out.1, H1.out.2.1, H1.out.2.2⟩
  case round =>
    obtain ⟨i, bv, hi', rfl, rfl, hI⟩ := hrel
    by_cases hlt2 : i < n
    · have hltI : (i : Int) < (n : Int) := by omega
      have hks : IntKind.i64.wrap ((i : Int) + 1) = (i : Int) + 1 := by rw [IntKind.wrap_i64]; omega
      have hlt := HRW.out i hlt2
      obtain ⟨b0, o0, ap, cp, ar, cr, an', cn, rfl, hb0, hc0, hc1, hc2, hL0, hL1, hL2⟩ := HLL.out.row i hlt
      have hx0 := (hI.out.2.1.cell (p := ⟨b0, o0 + i * 3, none⟩) hb0).trans hc0
      have hx1 := (hI.out.2.1.cell (p := ⟨b0, o0 + i * 3 + 1, none⟩) hb0).trans hc1
      have hx2 := (hI.out.2.1.cell (p := ⟨b0, o0 + i * 3 + 2, none⟩) hb0).trans hc2
      obtain ⟨W2, hW2⟩ : ∃ W2, W2 = wr.alloc (.cells #[.slice ap (onat l i).ps.length cp, .slice ar (onat l i).rows.length cr, .slice an' (onat l i).nodes.length cn] 28) := ⟨_, rfl⟩
      have hbw : base ≤ wr.heap.size := Nat.le_trans HB.out hI.out.2.1.size
      have hb2 : Below base wr W2 := by rw [hW2]; exact (Below.refl _ _).alloc hbw _
      have hk2 : KU wr W2 := by rw [hW2]; exact KU.below ((Below.refl _ _).alloc (Nat.le_refl _) _)
      have hI2 : OwnB base W2 bv (P ++ ((l.take i).map vbO).flatten) := by rw [hW2]; exact hI.out.1.al _
      have hbb := hI.out.2.1.trans hb2
      have HC := hid (appOpening_any base _ bv ap ar an' cp cr cn (onat l i) W2 hI2 (Nat.le_trans HB.out hbb.size) (hL0.below hbb) (hL1.below hbb) (hL2.below hbb) (HPL.out i hlt))
      have hI : Hid (OwnB base W2 bv (P ++ ((l.take i).map vbO).flatten) ∧ Below base w W2 ∧ KU w W2) := ⟨hI2, hbb, hI.out.2.2.trans hk2⟩
      have HW2 := hid hW2
      clear hL0 hL1 hL2 hW2 hbw hb2 hk2 hI2 hbb
      obtain ⟨m1, hm1⟩ : ∃ n, n = (onat l i).ps.length := ⟨_, rfl⟩
      obtain ⟨m2, hm2⟩ : ∃ n, n = (onat l i).rows.length := ⟨_, rfl⟩
      obtain ⟨m3, hm3⟩ : ∃ n, n = (onat l i).nodes.length := ⟨_, rfl⟩
      rw [← hm1, ← hm2, ← hm3] at HC HW2
      rw [← hm1] at hx0
      rw [← hm2] at hx1
      rw [← hm3] at hx2
      clear hm1 hm2 hm3 hc1 hc2
      have HTI := hid (HTK.out i hlt)
      have HBI := hid hI.out.2
      clear hlt hI hb0 hc0
      go_wp2_with fail
      rw [← HW2.out]
      refine HC.out.mono ?_
      rintro e w3 ⟨v3, rfl, k1, k2, k3⟩
      have HE : Hid (OwnB base w3 v3 (P ++ ((l.take (i + 1)).map vbO).flatten) ∧ Below base w w3 ∧ KU w w3) := ⟨by rw [HTI.out, ← List.append_assoc]; exact k1, HBI.out.1.trans k2, HBI.out.2.trans k3⟩
      clear k1 k2 k3 HBI HC hx0 hx1 hx2 HW2
      go_wp2_with fail
      go_roundw
      case rel => exact ⟨i + 1, _, by omega, by go_num, rfl, HE⟩
      case measure => simp [intOf]; omega
    · obtain rfl : i = n := by omega
      have hltI : ¬ (i : Int) < (i : Int) := by omega
      have HE : Hid (OwnB base wr bv (P ++ (l.map vbO).flatten) ∧ Below base w wr ∧ KU w wr) := by unfold Hid; rw [← HALL.out]; exact hI.out
      clear hI
      go_wp2_with fail
      go_ret
      exact ⟨_, rfl, HE.out⟩

end Go.Proofs.YtcajofdmadpmoaaDoor
