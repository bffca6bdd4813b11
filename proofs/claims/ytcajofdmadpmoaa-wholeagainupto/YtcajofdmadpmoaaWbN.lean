/- Package whole: lists of Openings written. -/
import Derived.Test.YtcajofdmadpmoaaWgAD
namespace Go.Proofs.Ytcajofdmadpmoaa
open Go.RowKit

set_option maxRecDepth 100000 in
set_option maxHeartbeats 4000000 in
theorem appOpens_any (base : Nat) (bs : List Nat) (v : Value) (a : Option Addr) (c : Nat) (l : List (OnZ)) (w : World) (hO : OwnB base w v bs) (hb : base ≤ w.heap.size) (hL : LstF base w a c l) (hl0 : (bs ++ vbOs l).length ≤ 70368744177664) :
    Calls Try.prog 9 #[v, .slice a l.length c, .func (.func 10) #[] #[]] w (ApE base w (bs ++ vbOs l)) := by
  have hll : l.length ≤ 70368744177664 := by
    have h1 : l.length ≤ (vbOs l).length := by unfold vbOs; exact flat_ge vbO_len l _
    rw [List.length_append] at hl0
    omega
  obtain ⟨P, hP⟩ : ∃ P, P = bs ++ vbI (l.length : Int) := ⟨_, rfl⟩
  have hT : bs ++ vbOs l = P ++ (l.map vbO).flatten := by rw [hP, List.append_assoc]; unfold vbOs vbI; rw [uzz_nat (by omega)]
  rw [hT] at hl0 ⊢
  have HN := hid (appNumber_any base bs v (l.length : Int) w hO hb (by rw [← hP]; rw [List.length_append] at hl0; omega))
  rw [← hP] at HN
  have HLL := hid hL
  have HB := hid hb
  have HPL : Hid (∀ i, i < l.length → ((P ++ ((l.take i).map vbO).flatten) ++ vbO (onat l i)).length ≤ 70368744177664) := fun i hi => by
    have := flat_pre vbO l (i + 1)
    rw [flat_succ_on vbO l i hi] at this
    rw [List.append_assoc, List.length_append]
    rw [List.length_append] at hl0
    omega
  obtain ⟨n, hn⟩ : ∃ n, n = l.length := ⟨_, rfl⟩
  have HNN := hid hn
  rw [← hn] at HN hll ⊢
  have HTK : Hid (∀ i, i < l.length → ((l.take (i + 1)).map vbO).flatten = ((l.take i).map vbO).flatten ++ vbO (onat l i)) := fun i hi => flat_succ_on vbO l i hi
  have HALL : Hid ((l.take n).map vbO = l.map vbO) := by unfold Hid; rw [hn, List.take_length]
  have HRW : Hid (∀ i, i < n → i < l.length) := fun i hi => by rw [← hn]; exact hi
  clear hL hO hb hl0 hP hT hn
  go_enter Try.func9, Try.ntmps9
  go_wp2_with fail
  refine HN.out.mono ?_
  rintro e w1 ⟨v1, rfl, h1, h2, h3⟩
  have H1 := hid (And.intro h1 (And.intro h2 h3))
  clear h1 h2 h3 HN
  go_wp2_with fail
  go_loopw [0, 15] (fun bv0 iv wr => ∃ (i : Nat) (bv : Value), i ≤ n ∧ iv = .int .i64 (i : Int) ∧ bv = bv0 ∧ Hid (OwnB base wr bv (P ++ ((l.take i).map vbO).flatten) ∧ Below base w wr ∧ KU w wr)) (fun _ iv _ => n - (intOf iv).toNat)
  case atStart => exact ⟨0, _, Nat.zero_le _, rfl, rfl, by rw [List.take_zero, List.map_nil, List.flatten_nil, List.append_nil]; exact H1.out.1, H1.out.2.1, H1.out.2.2⟩
  case round =>
    obtain ⟨i, bv, hi', rfl, rfl, hI⟩ := hrel
    by_cases hlt2 : i < n
    · have hltI : (i : Int) < (n : Int) := by omega
      have hks : IntKind.i64.wrap ((i : Int) + 1) = (i : Int) + 1 := by rw [IntKind.wrap_i64]; omega
      have hlt := HRW.out i hlt2
      obtain ⟨b0, o0, ap, cp, ar, cr, an', cn, rfl, hb0, hc0, hc1, hc2, hL0, hL1, hL2⟩ := HLL.out.row i hlt
      have hx0 := (hI.out.2.1.cell (p := ⟨b0, o0 + i * 3, none⟩) hb0).trans hc0
      have hx1 := (hI.out.2.1.cell (p := ⟨b0, o0 + i * 3 + 1, none⟩) hb0).trans hc1
      have hx2 := (hI.out.2.1.cell (p := ⟨b0, o0 + i * 3 + 2, none⟩) hb0).trans hc2
      obtain ⟨W2, hW2⟩ : ∃ W2, W2 = wr.alloc (.cells #[.slice ap (onat l i).ps.length cp, .slice ar (onat l i).rows.length cr, .slice an' (onat l i).nodes.length cn] 30) := ⟨_, rfl⟩
      have hbw : base ≤ wr.heap.size := Nat.le_trans HB.out hI.out.2.1.size
      have hb2 : Below base wr W2 := by rw [hW2]; exact (Below.refl _ _).alloc hbw _
      have hk2 : KU wr W2 := by rw [hW2]; exact KU.below ((Below.refl _ _).alloc (Nat.le_refl _) _)
      have hI2 : OwnB base W2 bv (P ++ ((l.take i).map vbO).flatten) := by rw [hW2]; exact hI.out.1.al _
      have hbb := hI.out.2.1.trans hb2
      have HC := hid (appOpening_any base _ bv ap ar an' cp cr cn (onat l i) W2 hI2 (Nat.le_trans HB.out hbb.size) (hL0.below hbb) (hL1.below hbb) (hL2.below hbb) (HPL.out i hlt))
      have hI : Hid (OwnB base W2 bv (P ++ ((l.take i).map vbO).flatten) ∧ Below base w W2 ∧ KU w W2) := ⟨hI2, hbb, hI.out.2.2.trans hk2⟩
      have HW2 := hid hW2
      clear hL0 hL1 hL2 hW2 hbw hb2 hk2 hI2 hbb
      obtain ⟨m1, hm1⟩ : ∃ n, n = (onat l i).ps.length := ⟨_, rfl⟩
      obtain ⟨m2, hm2⟩ : ∃ n, n = (onat l i).rows.length := ⟨_, rfl⟩
      obtain ⟨m3, hm3⟩ : ∃ n, n = (onat l i).nodes.length := ⟨_, rfl⟩
      rw [← hm1, ← hm2, ← hm3] at HC HW2
      rw [← hm1] at hx0
      rw [← hm2] at hx1
      rw [← hm3] at hx2
      clear hm1 hm2 hm3 hc1 hc2
      have HTI := hid (HTK.out i hlt)
      have HBI := hid hI.out.2
      clear hlt hI hb0 hc0
      go_wp2_with fail
      rw [← HW2.out]
      refine HC.out.mono ?_
      rintro e w3 ⟨v3, rfl, k1, k2, k3⟩
      have HE : Hid (OwnB base w3 v3 (P ++ ((l.take (i + 1)).map vbO).flatten) ∧ Below base w w3 ∧ KU w w3) := ⟨by rw [HTI.out, ← List.append_assoc]; exact k1, HBI.out.1.trans k2, HBI.out.2.trans k3⟩
      clear k1 k2 k3 HBI HC hx0 hx1 hx2 HW2
      go_wp2_with fail
      go_roundw
      case rel => exact ⟨i + 1, _, by omega, by go_num, rfl, HE⟩
      case measure => simp [intOf]; omega
    · obtain rfl : i = n := by omega
      have hltI : ¬ (i : Int) < (i : Int) := by omega
      have HE : Hid (OwnB base wr bv (P ++ (l.map vbO).flatten) ∧ Below base w wr ∧ KU w wr) := by unfold Hid; rw [← HALL.out]; exact hI.out
      clear hI
      go_wp2_with fail
      go_ret
      exact ⟨_, rfl, HE.out⟩

end Go.Proofs.Ytcajofdmadpmoaa
