/- Package whole: lists of numbers, of lists written. Package whole: Openings written. -/
import Derived.Test.YtcajofdmadpmoaaWbK
namespace Go.Proofs.Ytcajofdmadpmoaa
open Go.RowKit

theorem flat_pre {α : Type} (f : α → List Nat) (l : List α) (i : Nat) : ((l.take i).map f).flatten.length ≤ (l.map f).flatten.length := by
  conv => rhs; rw [← List.take_append_drop i l]
  rw [List.map_append, List.flatten_append, List.length_append]
  omega
theorem flat_ge {α : Type} {f : α → List Nat} (hf : ∀ x, 1 ≤ (f x).length) (l : List α) (p : List Nat) : l.length ≤ (p ++ (l.map f).flatten).length := by
  rw [List.length_append]
  have : l.length ≤ (l.map f).flatten.length := by
    induction l with
    | nil => simp
    | cons x l ih =>
      rw [List.map_cons, List.flatten_cons, List.length_append, List.length_cons]
      have := hf x
      omega
  omega
theorem flat_succ {α : Type} (f : α → List Nat) (l : List α) (i : Nat) (x : α) (h : l[i]? = some x) : ((l.take (i + 1)).map f).flatten = ((l.take i).map f).flatten ++ f x := by
  rw [List.take_add_one, h]
  simp
theorem flat_succ_int (f : Int → List Nat) (l : List Int) (i : Nat) (h : i < l.length) : ((l.take (i + 1)).map f).flatten = ((l.take i).map f).flatten ++ f (zat l i) := flat_succ f l i _ (by simp [zat, h])
theorem flat_succ_sl (f : List Int → List Nat) (l : List (List Int)) (i : Nat) (h : i < l.length) : ((l.take (i + 1)).map f).flatten = ((l.take i).map f).flatten ++ f (rat l i) := flat_succ f l i _ (by simp [rat, h])
theorem flat_succ_on (f : OnZ → List Nat) (l : List OnZ) (i : Nat) (h : i < l.length) : ((l.take (i + 1)).map f).flatten = ((l.take i).map f).flatten ++ f (onat l i) := flat_succ f l i _ (by simp [onat, h])
theorem vbI_len (n : Int) : 1 ≤ (vbI n).length := vby_len _
theorem vbL_len (l : List Int) : 1 ≤ (vbL l).length := by
  unfold vbL
  rw [List.length_append]
  have := vby_len l.length
  omega
theorem vbO_len (o : OnZ) : 1 ≤ (vbO o).length := by
  unfold vbO
  rw [List.length_append, List.length_append]
  have := vbL_len o.ps
  omega

set_option maxRecDepth 100000 in
set_option maxHeartbeats 4000000 in
theorem appInts_any (base : Nat) (bs : List Nat) (v : Value) (a : Option Addr) (c : Nat) (l : List (Int)) (w : World) (hO : OwnB base w v bs) (hb : base ≤ w.heap.size) (hL : Lst base w a c l) (hl0 : (bs ++ vbL l).length ≤ 70368744177664) :
    Calls Try.prog 14 #[v, .slice a l.length c, .func (.func 7) #[] #[]] w (ApE base w (bs ++ vbL l)) := by
  have hll : l.length ≤ 70368744177664 := by
    have h1 : l.length ≤ (vbL l).length := by unfold vbL; exact flat_ge vbI_len l _
    rw [List.length_append] at hl0
    omega
  obtain ⟨P, hP⟩ : ∃ P, P = bs ++ vbI (l.length : Int) := ⟨_, rfl⟩
  have hT : bs ++ vbL l = P ++ (l.map vbI).flatten := by rw [hP, List.append_assoc]; unfold vbL vbI; rw [uzz_nat (by omega)]
  rw [hT] at hl0 ⊢
  have HN := hid (appNumber_any base bs v (l.length : Int) w hO hb (by rw [← hP]; rw [List.length_append] at hl0; omega))
  rw [← hP] at HN
  have HLL := hid hL
  have HB := hid hb
  have HPL : Hid (∀ i, i < l.length → ((P ++ ((l.take i).map vbI).flatten) ++ vbI (zat l i)).length ≤ 70368744177664) := fun i hi => by
    have := flat_pre vbI l (i + 1)
    rw [flat_succ_int vbI l i hi] at this
    rw [List.append_assoc, List.length_append]
    rw [List.length_append] at hl0
    omega
  obtain ⟨n, hn⟩ : ∃ n, n = l.length := ⟨_, rfl⟩
  have HNN := hid hn
  rw [← hn] at HN hll ⊢
  have HTK : Hid (∀ i, i < l.length → ((l.take (i + 1)).map vbI).flatten = ((l.take i).map vbI).flatten ++ vbI (zat l i)) := fun i hi => flat_succ_int vbI l i hi
  have HALL : Hid ((l.take n).map vbI = l.map vbI) := by unfold Hid; rw [hn, List.take_length]
  have HRW : Hid (∀ i, i < n → i < l.length) := fun i hi => by rw [← hn]; exact hi
  clear hL hO hb hl0 hP hT hn
  go_enter Try.func14, Try.ntmps14
  go_wp2_with fail
  refine HN.out.mono ?_
  rintro e w1 ⟨v1, rfl, h1, h2, h3⟩
  have H1 := hid (And.intro h1 (And.intro h2 h3))
  clear h1 h2 h3 HN
  go_wp2_with fail
  go_loopw [0, 15] (fun bv0 iv wr => ∃ (i : Nat) (bv : Value), i ≤ n ∧ iv = .int .i64 (i : Int) ∧ bv = bv0 ∧ Hid (OwnB base wr bv (P ++ ((l.take i).map vbI).flatten) ∧ Below base w wr ∧ KU w wr)) (fun _ iv _ => n - (intOf iv).toNat)
  case atStart => exact ⟨0, _, Nat.zero_le _, rfl, rfl, by rw [List.take_zero, List.map_nil, List.flatten_nil, List.append_nil]; exact H1.out.1, H1.out.2.1, H1.out.2.2⟩
  case round =>
    obtain ⟨i, bv, hi', rfl, rfl, hI⟩ := hrel
    by_cases hlt2 : i < n
    · have hltI : (i : Int) < (n : Int) := by omega
      have hks : IntKind.i64.wrap ((i : Int) + 1) = (i : Int) + 1 := by rw [IntKind.wrap_i64]; omega
      have hlt := HRW.out i hlt2
      obtain ⟨b0, o0, rfl, hb0, hc0⟩ := HLL.out.row i hlt
      have hx0 := (hI.out.2.1.cell (p := ⟨b0, o0 + i, none⟩) hb0).trans hc0
      have HC := hid (appNumber_any base _ bv (zat l i) wr hI.out.1 (Nat.le_trans HB.out hI.out.2.1.size) (HPL.out i hlt))
      have HTI := hid (HTK.out i hlt)
      have HBI := hid hI.out.2
      clear hlt hI hb0 hc0
      go_wp2_with fail
      refine HC.out.mono ?_
      rintro e w3 ⟨v3, rfl, k1, k2, k3⟩
      have HE : Hid (OwnB base w3 v3 (P ++ ((l.take (i + 1)).map vbI).flatten) ∧ Below base w w3 ∧ KU w w3) := ⟨by rw [HTI.out, ← List.append_assoc]; exact k1, HBI.out.1.trans k2, HBI.out.2.trans k3⟩
      clear k1 k2 k3 HBI HC hx0
      go_wp2_with fail
      go_roundw
      case rel => exact ⟨i + 1, _, by omega, by go_num, rfl, HE⟩
      case measure => simp [intOf]; omega
    · obtain rfl : i = n := by omega
      have hltI : ¬ (i : Int) < (i : Int) := by omega
      have HE : Hid (OwnB base wr bv (P ++ (l.map vbI).flatten) ∧ Below base w wr ∧ KU w wr) := by unfold Hid; rw [← HALL.out]; exact hI.out
      clear hI
      go_wp2_with fail
      go_ret
      exact ⟨_, rfl, HE.out⟩

set_option maxRecDepth 100000 in
theorem appNums_any (base : Nat) (bs : List Nat) (v : Value) (a : Option Addr) (c : Nat) (l : List Int) (w : World) (hO : OwnB base w v bs) (hb : base ≤ w.heap.size) (hL : Lst base w a c l) (hl0 : (bs ++ vbL l).length ≤ 70368744177664) :
    Calls Try.prog 6 #[v, .slice a l.length c] w (ApE base w (bs ++ vbL l)) := by
  have HN := hid (appInts_any base bs v a c l w hO hb hL hl0)
  clear hO hb hL hl0
  go_enter Try.func6, Try.ntmps6
  go_wp2_with fail
  refine HN.out.mono ?_
  rintro e w1 ⟨v1, rfl, h1⟩
  have H1 := hid h1
  clear h1 HN
  go_wp2_with fail
  go_ret
  exact ⟨_, rfl, H1.out⟩

set_option maxRecDepth 100000 in
set_option maxHeartbeats 4000000 in
theorem appRows_any (base : Nat) (bs : List Nat) (v : Value) (a : Option Addr) (c : Nat) (l : List (List Int)) (w : World) (hO : OwnB base w v bs) (hb : base ≤ w.heap.size) (hL : LstR base w a c l) (hl0 : (bs ++ vbR l).length ≤ 70368744177664) :
    Calls Try.prog 8 #[v, .slice a l.length c, .func (.func 6) #[] #[]] w (ApE base w (bs ++ vbR l)) := by
  have hll : l.length ≤ 70368744177664 := by
    have h1 : l.length ≤ (vbR l).length := by unfold vbR; exact flat_ge vbL_len l _
    rw [List.length_append] at hl0
    omega
  obtain ⟨P, hP⟩ : ∃ P, P = bs ++ vbI (l.length : Int) := ⟨_, rfl⟩
  have hT : bs ++ vbR l = P ++ (l.map vbL).flatten := by rw [hP, List.append_assoc]; unfold vbR vbI; rw [uzz_nat (by omega)]
  rw [hT] at hl0 ⊢
  have HN := hid (appNumber_any base bs v (l.length : Int) w hO hb (by rw [← hP]; rw [List.length_append] at hl0; omega))
  rw [← hP] at HN
  have HLL := hid hL
  have HB := hid hb
  have HPL : Hid (∀ i, i < l.length → ((P ++ ((l.take i).map vbL).flatten) ++ vbL (rat l i)).length ≤ 70368744177664) := fun i hi => by
    have := flat_pre vbL l (i + 1)
    rw [flat_succ_sl vbL l i hi] at this
    rw [List.append_assoc, List.length_append]
    rw [List.length_append] at hl0
    omega
  obtain ⟨n, hn⟩ : ∃ n, n = l.length := ⟨_, rfl⟩
  have HNN := hid hn
  rw [← hn] at HN hll ⊢
  have HTK : Hid (∀ i, i < l.length → ((l.take (i + 1)).map vbL).flatten = ((l.take i).map vbL).flatten ++ vbL (rat l i)) := fun i hi => flat_succ_sl vbL l i hi
  have HALL : Hid ((l.take n).map vbL = l.map vbL) := by unfold Hid; rw [hn, List.take_length]
  have HRW : Hid (∀ i, i < n → i < l.length) := fun i hi => by rw [← hn]; exact hi
  clear hL hO hb hl0 hP hT hn
  go_enter Try.func8, Try.ntmps8
  go_wp2_with fail
  refine HN.out.mono ?_
  rintro e w1 ⟨v1, rfl, h1, h2, h3⟩
  have H1 := hid (And.intro h1 (And.intro h2 h3))
  clear h1 h2 h3 HN
  go_wp2_with fail
  go_loopw [0, 15] (fun bv0 iv wr => ∃ (i : Nat) (bv : Value), i ≤ n ∧ iv = .int .i64 (i : Int) ∧ bv = bv0 ∧ Hid (OwnB base wr bv (P ++ ((l.take i).map vbL).flatten) ∧ Below base w wr ∧ KU w wr)) (fun _ iv _ => n - (intOf iv).toNat)
  case atStart => exact ⟨0, _, Nat.zero_le _, rfl, rfl, by rw [List.take_zero, List.map_nil, List.flatten_nil, List.append_nil]; exact H1.out.1, H1.out.2.1, H1.out.2.2⟩
  case round =>
    obtain ⟨i, bv, hi', rfl, rfl, hI⟩ := hrel
    by_cases hlt2 : i < n
    · have hltI : (i : Int) < (n : Int) := by omega
      have hks : IntKind.i64.wrap ((i : Int) + 1) = (i : Int) + 1 := by rw [IntKind.wrap_i64]; omega
      have hlt := HRW.out i hlt2
      obtain ⟨b0, o0, ak, ck, rfl, hb0, hc0, hL0⟩ := HLL.out.row i hlt
      have hx0 := (hI.out.2.1.cell (p := ⟨b0, o0 + i, none⟩) hb0).trans hc0
      have HC := hid (appNums_any base _ bv ak ck (rat l i) wr hI.out.1 (Nat.le_trans HB.out hI.out.2.1.size) (hL0.below hI.out.2.1) (HPL.out i hlt))
      obtain ⟨nk, hnk⟩ : ∃ nk, nk = (rat l i).length := ⟨_, rfl⟩
      rw [← hnk] at hx0 HC
      clear hL0 hnk
      have HTI := hid (HTK.out i hlt)
      have HBI := hid hI.out.2
      clear hlt hI hb0 hc0
      go_wp2_with fail
      refine HC.out.mono ?_
      rintro e w3 ⟨v3, rfl, k1, k2, k3⟩
      have HE : Hid (OwnB base w3 v3 (P ++ ((l.take (i + 1)).map vbL).flatten) ∧ Below base w w3 ∧ KU w w3) := ⟨by rw [HTI.out, ← List.append_assoc]; exact k1, HBI.out.1.trans k2, HBI.out.2.trans k3⟩
      clear k1 k2 k3 HBI HC hx0
      go_wp2_with fail
      go_roundw
      case rel => exact ⟨i + 1, _, by omega, by go_num, rfl, HE⟩
      case measure => simp [intOf]; omega
    · obtain rfl : i = n := by omega
      have hltI : ¬ (i : Int) < (i : Int) := by omega
      have HE : Hid (OwnB base wr bv (P ++ (l.map vbL).flatten) ∧ Below base w wr ∧ KU w wr) := by unfold Hid; rw [← HALL.out]; exact hI.out
      clear hI
      go_wp2_with fail
      go_ret
      exact ⟨_, rfl, HE.out⟩

end Go.Proofs.Ytcajofdmadpmoaa

namespace Go.Proofs.Ytcajofdmadpmoaa
open Go.RowKit

theorem OwnB.al {base : Nat} {w : World} {v : Value} {bs : List Nat} (h : OwnB base w v bs) (o : Obj) : OwnB base (w.alloc o) v bs := World.ownsRow.alloc h o
set_option maxRecDepth 100000 in
set_option maxHeartbeats 4000000 in
theorem appOpening_any (base : Nat) (bs : List Nat) (v : Value) (ap ar an' : Option Addr) (cp cr cn : Nat) (o : OnZ) (w : World) (hO : OwnB base w v bs) (hb : base ≤ w.heap.size) (hp : Lst base w ap cp o.ps) (hr : LstR base w ar cr o.rows) (hn : LstR base w an' cn o.nodes) (hl0 : (bs ++ vbO o).length ≤ 70368744177664) :
    Calls Try.prog 10 #[v, .agg #[.slice ap o.ps.length cp, .slice ar o.rows.length cr, .slice an' o.nodes.length cn]] w (ApE base w (bs ++ vbO o)) := by
  obtain ⟨P1, hP1⟩ : ∃ P, P = bs ++ vbL o.ps := ⟨_, rfl⟩
  obtain ⟨P2, hP2⟩ : ∃ P, P = P1 ++ vbR o.rows := ⟨_, rfl⟩
  have hT : bs ++ vbO o = P2 ++ vbR o.nodes := by rw [hP2, hP1]; unfold vbO; simp only [List.append_assoc]
  rw [hT] at hl0 ⊢
  have hl2 : P2.length ≤ 70368744177664 := by rw [List.length_append] at hl0; omega
  have hl1 : P1.length ≤ 70368744177664 := by rw [hP2, List.length_append] at hl2; omega
  obtain ⟨W0, hW0⟩ : ∃ W0, W0 = w.alloc (.cells #[.slice ap o.ps.length cp, .slice ar o.rows.length cr, .slice an' o.nodes.length cn] 30) := ⟨_, rfl⟩
  obtain ⟨Q, hQ⟩ : ∃ Q, Q = w.heap.size := ⟨_, rfl⟩
  have hb0 : Below base w W0 := by rw [hW0]; exact (Below.refl _ _).alloc hb _
  have hku : KU w W0 := by rw [hW0]; exact KU.below ((Below.refl _ _).alloc (Nat.le_refl _) _)
  have hq0 : W0.heap[Q]? = some (.cells #[.slice ap o.ps.length cp, .slice ar o.rows.length cr, .slice an' o.nodes.length cn] 30 (0, 0)) := by rw [hW0, hQ]; exact heap_alloc_new w _
  have hO0 : OwnB base W0 v bs := by rw [hW0]; exact hO.al _
  have HN := hid (appNums_any base bs v ap cp o.ps W0 hO0 (Nat.le_trans hb hb0.size) (hp.below hb0) (by rw [← hP1]; exact hl1))
  rw [← hP1] at HN
  have HP2 := hid hP2
  have HL2 := hid hl2
  have HL0 := hid hl0
  have HB := hid hb
  have HR := hid (hr.below hb0)
  have HQN := hid (hn.below hb0)
  have HB0 := hid (And.intro hb0 hku)
  have HW0 := hid hW0
  have HQ := hid hQ
  have HQ0 := hid hq0
  obtain ⟨np, hnp⟩ : ∃ n, n = o.ps.length := ⟨_, rfl⟩
  obtain ⟨nr, hnr⟩ : ∃ n, n = o.rows.length := ⟨_, rfl⟩
  obtain ⟨nn, hnn⟩ : ∃ n, n = o.nodes.length := ⟨_, rfl⟩
  have HNR := hid hnr
  have HNN := hid hnn
  rw [← hnp, ← hnr, ← hnn] at HW0 HQ0
  rw [← hnp] at HN
  rw [← hnp, ← hnr, ← hnn]
  have x0 : W0.cell? ⟨Q, 0, none⟩ = some (.slice ap np cp) := by have := HQ0.out; simp [World.cell?, this]
  clear hO hb hp hr hn hl0 hP1 hP2 hT hl2 hl1 hW0 hQ hb0 hku hq0 hO0 hnp hnr hnn
  go_enter Try.func10, Try.ntmps10
  go_wp2_with fail
  rw [← HW0.out]
  refine HN.out.mono ?_
  rintro e w1 ⟨v1, rfl, k1, k2, k3⟩
  have HB1 := hid (And.intro (HB0.out.1.trans k2) (HB0.out.2.trans k3))
  have HQ1 := hid ((k3 _ _ _ _ HQ0.out (by decide)).trans HQ0.out)
  have HN2 := hid (appRows_any base P1 v1 ar cr o.rows w1 k1 (Nat.le_trans HB.out HB1.out.1.size) (HR.out.below k2) (by rw [← HP2.out]; exact HL2.out))
  rw [← HP2.out, ← HNR.out] at HN2
  have HQN2 := hid (HQN.out.below k2)
  have x1 : w1.cell? ⟨Q, 1, none⟩ = some (.slice ar nr cr) := by have := HQ1.out; simp [World.cell?, this]
  have hQ := HQ.out
  rw [hQ] at x1
  clear k1 k2 k3 x0 HN HQN HR HB0 HQ0 HW0 hQ
  go_wp2_with fail
  refine HN2.out.mono ?_
  rintro e w2 ⟨v2, rfl, k1, k2, k3⟩
  have HB2 := hid (And.intro (HB1.out.1.trans k2) (HB1.out.2.trans k3))
  have HQ2 := hid ((k3 _ _ _ _ HQ1.out (by decide)).trans HQ1.out)
  have HN3 := hid (appRows_any base P2 v2 an' cn o.nodes w2 k1 (Nat.le_trans HB.out HB2.out.1.size) (HQN2.out.below k2) HL0.out)
  rw [← HNN.out] at HN3
  have x2 : w2.cell? ⟨Q, 2, none⟩ = some (.slice an' nn cn) := by have := HQ2.out; simp [World.cell?, this]
  have hQ := HQ.out
  rw [hQ] at x2
  clear k1 k2 k3 x1 HN2 HQN2 HB1 HQ1 hQ
  go_wp2_with fail
  refine HN3.out.mono ?_
  rintro e w3 ⟨v3, rfl, k1, k2, k3⟩
  have HE : Hid (OwnB base w3 v3 (P2 ++ vbR o.nodes) ∧ Below base w w3 ∧ KU w w3) := ⟨k1, HB2.out.1.trans k2, HB2.out.2.trans k3⟩
  clear k1 k2 k3 x2 HN3 HB2
  go_wp2_with fail
  go_ret
  exact ⟨_, rfl, HE.out⟩

end Go.Proofs.Ytcajofdmadpmoaa
