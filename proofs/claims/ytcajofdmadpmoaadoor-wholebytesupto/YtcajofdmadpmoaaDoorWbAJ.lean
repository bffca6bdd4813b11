/- Package whole: the reference's bytes. Package whole: lists of numbers, of lists written. Package whole: the reference's lists. -/
import Derived.Test.YtcajofdmadpmoaaDoorWbAI
namespace Go.Proofs.YtcajofdmadpmoaaDoor
open Go.RowKit

/-- all but bytes and one block is as it was -/
def KB (B : Nat) (w w' : World) : Prop := ∀ (g : Nat) (cs : Array Value) (t : TypeId) (f : Nat × Nat), w.heap[g]? = some (.cells cs t f) → t ≠ 5 → g ≠ B → w'.heap[g]? = w.heap[g]?
theorem KB.refl (B : Nat) (w : World) : KB B w w := fun _ _ _ _ _ _ _ => rfl
theorem KB.trans {B : Nat} {a b c : World} (h : KB B a b) (k : KB B b c) : KB B a c := fun g cs t f e ht hn => (k g cs t f ((h g cs t f e ht hn).trans e) ht hn).trans (h g cs t f e ht hn)
theorem KB.ku {B : Nat} {w w' : World} (h : KU w w') : KB B w w' := fun g cs t f e ht _ => h g cs t f e ht
theorem KB.set {B : Nat} (w : World) (x : Value) : KB B w (w.setCell ⟨B, 0, none⟩ x) := fun _ _ _ _ _ _ hn => Below.heap_setCell _ _ _ _ hn
/-- the reference's writer -/
def RB (base : Nat) (w : World) (B : Nat) (bs : List Nat) : Prop := base ≤ B ∧ ∃ v, w.heap[B]? = some (.cells #[v] 49 (0, 0)) ∧ OwnB base w v bs
theorem OwnB.setB {base : Nat} {w : World} {v : Value} {bs : List Nat} {B : Nat} {c : Array Value} (h : OwnB base w v bs) (hB : w.heap[B]? = some (.cells c 49 (0, 0))) (x : Value) : OwnB base (w.setCell ⟨B, 0, none⟩ x) v bs := by
  have hgb : w.grownBy (w.setCell ⟨B, 0, none⟩ x) (some B) := gb_setCell (gb_refl _ _) 0 x
  refine World.ownsRow.kept h hgb ?_
  rcases h.2 with ⟨rfl, _⟩ | ⟨g, cap, cur, rfl, _, hg, _⟩
  · exact .inl rfl
  · refine .inr (fun e => ?_)
    injection e with e
    subst e
    rw [hB] at hg
    injection hg with hg
    injection hg with _ h3 _
    exact absurd h3 (by decide)

theorem OwnB.sl {base : Nat} {w : World} {v : Value} {bs : List Nat} (h : OwnB base w v bs) : ∃ a n c, v = .slice a n c := by
  rcases h.2 with ⟨rfl, _⟩ | ⟨g, cap, cur, rfl, _⟩
  · exact ⟨none, 0, 0, rfl⟩
  · exact ⟨_, _, _, rfl⟩
set_option maxRecDepth 100000 in
set_option maxHeartbeats 1000000 in
theorem refNumber_any (base B : Nat) (bs : List Nat) (n : Int) (w : World) (hR : RB base w B bs) (hb : base ≤ w.heap.size) (hl0 : (bs ++ vbI n).length ≤ 70368744177664) : Calls Tryd.prog 16 #[.pointer (some ⟨B, 0, none⟩), .int .i64 n] w fun e w' => e = .returned (.tuple #[]) ∧ RB base w' B (bs ++ vbI n) ∧ Below base w w' ∧ KB B w w' := by
  obtain ⟨i0, hi, hz0, hz1, hz2⟩ := info_parts Tryd.infoU8
  have hl : bs.length ≤ 70368744177664 := by rw [List.length_append] at hl0; omega
  clear hl0
  obtain ⟨X, hX⟩ : ∃ X, X = uzz n := ⟨_, rfl⟩
  have hcv : IntKind.u64.wrap n = (X : Int) := by rw [hX]; exact uzz_wrap n
  have hXl : X < 18446744073709551616 := by rw [hX]; exact uzz_lt n
  have hT : vbI n = vby X := by rw [hX]; rfl
  rw [hT]
  obtain ⟨T, hTT⟩ : ∃ T, T = vby X := ⟨_, rfl⟩
  have hTl : T.length ≤ 10 := by rw [hTT]; exact vby_le10 hXl
  rw [← hTT]
  have HT := hid hTT
  have HR := hid hR
  clear hX hT hR hTT
  go_enter Tryd.func16, Tryd.ntmps16
  go_wp2_with fail
  go_loopw [4] (fun rv wr => ∃ (x : Nat) (l : List Nat), x < 18446744073709551616 ∧ rv = .int .u64 (x : Int) ∧ Hid (T = l ++ vby x ∧ RB base wr B (bs ++ l) ∧ Below base w wr ∧ KB B w wr)) (fun rv _ => (intOf rv).toNat)
  case atStart => exact ⟨X, [], hXl, rfl, by rw [HT.out]; rfl, by rw [List.append_nil]; exact HR.out, Below.refl _ _, KB.refl _ _⟩
  case round =>
    obtain ⟨x, l, hx, rfl, hI⟩ := hrel
    have hll : bs.length + l.length ≤ 70368744177674 := by
      have := hI.out.1
      have h2 : T.length = l.length + (vby x).length := by rw [this, List.length_append]
      omega
    obtain ⟨hBb, v, hc, hO⟩ := hI.out.2.1
    by_cases h1 : x < 128
    · have h2 : ¬ ((128 : Int) ≤ (x : Int)) := by omega
      have hm : IntKind.u8.wrap (x : Int) = (x : Int) := by rw [IntKind.wrap_u8]; omega
      have HT2 : Hid (T = l ++ [x]) := by unfold Hid; rw [← vby_small h1]; exact hI.out.1
      have HOX := hid (World.ownsRow.alloc hO (.cells #[.int .u8 ((x : Int))] 5))
      have hbw : base ≤ wr.heap.size := Nat.le_trans hb hI.out.2.2.1.size
      have HBW := hid hbw
      have hal : Below wr.heap.size wr (wr.alloc (.cells #[.int .u8 ((x : Int))] 5)) := (Below.refl _ _).alloc (Nat.le_refl _) _
      have HAL := hid hal
      have HC := hid hc
      have y0 : wr.cell? ⟨B, 0, none⟩ = some v := by simp [World.cell?, hc]
      clear hO hc hal hbw
      go_wp2_with (at_builtin; refine wpList_append_own _ rfl _ _ 31 rfl base 5 i0 (.int .u8 0) 1 1 Tryd.underlying31 hi hz0 hz1 hz2 rfl (by decide) _ _ _ rfl HOX.out ⟨wr.heap.size, 0, none⟩ 1 1 [.int .u8 ((x : Int))] rfl rfl (cell_one_new _ _ _) ?c2 ?c3 ?c4 ?c5 ?_)
      case c2 => first | rfl | (intro u hu; simp at hu; subst hu; rfl)
      case c3 => (try simp only [List.length_append]); unfold maxLen; omega
      case c4 => (try simp only [List.length_append]); omega
      case c5 => have := HBW.out; first | omega | (simp; omega)
      intro v' w5 hown2 hgrow _
      have hgr := OwnB.grown (bs := bs ++ l) HOX.out hgrow (Nat.le_trans HBW.out HAL.out.size)
      have hc5 := ((KU.below HAL.out).trans hgr.2 _ _ _ _ HC.out (by decide)).trans HC.out
      have y1 : w5.cell? ⟨B, 0, none⟩ = some v := by simp [World.cell?, hc5]
      have f1 : w5.frozen? ⟨B, 0, none⟩ = false := by simp [World.frozen?, hc5]
      have hO5 : OwnB base w5 v' (bs ++ T) := by
        unfold OwnB
        rw [HT2.out, ← List.append_assoc, u8s_app, List.length_append, List.length_append]
        exact hown2
      obtain ⟨a5, n5, k5, rfl⟩ := OwnB.sl hO5
      have hKU := (KU.below HAL.out).trans hgr.2
      have HE : Hid (RB base (w5.setCell ⟨B, 0, none⟩ (.slice a5 n5 k5)) B (bs ++ T) ∧ Below base w (w5.setCell ⟨B, 0, none⟩ (.slice a5 n5 k5)) ∧ KB B w (w5.setCell ⟨B, 0, none⟩ (.slice a5 n5 k5))) :=
        ⟨⟨hBb, _, set_atW hc5 0 _, hO5.setB hc5 _⟩, (hI.out.2.2.1.trans ((HAL.out.mono HBW.out).trans hgr.1)).setCell (p := ⟨B, 0, none⟩) hBb _, KB.trans hI.out.2.2.2 (KB.trans (KB.ku hKU) (KB.set _ _))⟩
      clear hown2 hgrow hgr HOX hI hKU hO5 hc5 HC HAL y0
      go_wp2_with fail
      go_end0
      exact ⟨rfl, HE.out⟩
    · have h2 : (128 : Int) ≤ (x : Int) := by omega
      have HT2 : Hid (T = (l ++ [x % 128 + 128]) ++ vby (x / 128)) := by
        unfold Hid
        rw [List.append_assoc]
        refine hI.out.1.trans ?_
        rw [vby_big h1]
        rfl
      have HOX := hid (World.ownsRow.alloc hO (.cells #[.int .u8 ((x : Int) % 128 + 128)] 5))
      have hbw : base ≤ wr.heap.size := Nat.le_trans hb hI.out.2.2.1.size
      have HBW := hid hbw
      have hal : Below wr.heap.size wr (wr.alloc (.cells #[.int .u8 ((x : Int) % 128 + 128)] 5)) := (Below.refl _ _).alloc (Nat.le_refl _) _
      have HAL := hid hal
      have HC := hid hc
      have y0 : wr.cell? ⟨B, 0, none⟩ = some v := by simp [World.cell?, hc]
      clear hO hc hal hbw
      go_wp2_with (at_builtin; refine wpList_append_own _ rfl _ _ 31 rfl base 5 i0 (.int .u8 0) 1 1 Tryd.underlying31 hi hz0 hz1 hz2 rfl (by decide) _ _ _ rfl HOX.out ⟨wr.heap.size, 0, none⟩ 1 1 [.int .u8 ((x : Int) % 128 + 128)] rfl rfl (cell_one_new _ _ _) ?c2 ?c3 ?c4 ?c5 ?_)
      case c2 => first | rfl | (intro u hu; simp at hu; subst hu; rfl)
      case c3 => (try simp only [List.length_append]); unfold maxLen; omega
      case c4 => (try simp only [List.length_append]); omega
      case c5 => have := HBW.out; first | omega | (simp; omega)
      intro v' w5 hown2 hgrow _
      have hgr := OwnB.grown (bs := bs ++ l) HOX.out hgrow (Nat.le_trans HBW.out HAL.out.size)
      have hc5 := ((KU.below HAL.out).trans hgr.2 _ _ _ _ HC.out (by decide)).trans HC.out
      have y1 : w5.cell? ⟨B, 0, none⟩ = some v := by simp [World.cell?, hc5]
      have f1 : w5.frozen? ⟨B, 0, none⟩ = false := by simp [World.frozen?, hc5]
      have hO5 : OwnB base w5 v' (bs ++ (l ++ [x % 128 + 128])) := by
        unfold OwnB
        have e : u8s [x % 128 + 128] = [.int .u8 ((x : Int) % 128 + 128)] := by
          show [Value.int .u8 (((x % 128 + 128 : Nat)) : Int)] = _
          rw [show (((x % 128 + 128 : Nat)) : Int) = (x : Int) % 128 + 128 from by omega]
        rw [← List.append_assoc, u8s_app, e, List.length_append, List.length_append]
        exact hown2
      obtain ⟨a5, n5, k5, rfl⟩ := OwnB.sl hO5
      have hKU := (KU.below HAL.out).trans hgr.2
      have HE : Hid (RB base (w5.setCell ⟨B, 0, none⟩ (.slice a5 n5 k5)) B (bs ++ (l ++ [x % 128 + 128])) ∧ Below base w (w5.setCell ⟨B, 0, none⟩ (.slice a5 n5 k5)) ∧ KB B w (w5.setCell ⟨B, 0, none⟩ (.slice a5 n5 k5))) :=
        ⟨⟨hBb, _, set_atW hc5 0 _, hO5.setB hc5 _⟩, (hI.out.2.2.1.trans ((HAL.out.mono HBW.out).trans hgr.1)).setCell (p := ⟨B, 0, none⟩) hBb _, KB.trans hI.out.2.2.2 (KB.trans (KB.ku hKU) (KB.set _ _))⟩
      clear hown2 hgrow hgr HOX hI hKU hO5 hc5 HC HAL y0
      go_wp2_with fail
      go_roundw
      case rel => exact ⟨x / 128, l ++ [x % 128 + 128], by omega, by go_num, HT2.out, HE.out.1, HE.out.2.1, HE.out.2.2⟩
      case measure => simp [intOf]; omega

end Go.Proofs.YtcajofdmadpmoaaDoor

namespace Go.Proofs.YtcajofdmadpmoaaDoor
open Go.RowKit

theorem flat_pre {α : Type} (f : α → List Nat) (l : List α) (i : Nat) : ((l.take i).map f).flatten.length ≤ (l.map f).flatten.length := by
  conv => rhs; rw [← List.take_append_drop i l]
  rw [List.map_append, List.flatten_append, List.length_append]
  omega
theorem flat_ge {α : Type} {f : α → List Nat} (hf : ∀ x, 1 ≤ (f x).length) (l : List α) (p : List Nat) : l.length ≤ (p ++ (l.map f).flatten).length := by
  rw [List.length_append]
  have : l.length ≤ (l.map f).flatten.length := by
    induction l with
    | nil => simp
    | cons x l ih =>
      rw [List.map_cons, List.flatten_cons, List.length_append, List.length_cons]
      have := hf x
      omega
  omega
theorem flat_succ {α : Type} (f : α → List Nat) (l : List α) (i : Nat) (x : α) (h : l[i]? = some x) : ((l.take (i + 1)).map f).flatten = ((l.take i).map f).flatten ++ f x := by
  rw [List.take_add_one, h]
  simp
theorem flat_succ_int (f : Int → List Nat) (l : List Int) (i : Nat) (h : i < l.length) : ((l.take (i + 1)).map f).flatten = ((l.take i).map f).flatten ++ f (zat l i) := flat_succ f l i _ (by simp [zat, h])
theorem flat_succ_sl (f : List Int → List Nat) (l : List (List Int)) (i : Nat) (h : i < l.length) : ((l.take (i + 1)).map f).flatten = ((l.take i).map f).flatten ++ f (rat l i) := flat_succ f l i _ (by simp [rat, h])
theorem flat_succ_on (f : OnZ → List Nat) (l : List OnZ) (i : Nat) (h : i < l.length) : ((l.take (i + 1)).map f).flatten = ((l.take i).map f).flatten ++ f (onat l i) := flat_succ f l i _ (by simp [onat, h])
theorem vbI_len (n : Int) : 1 ≤ (vbI n).length := vby_len _
theorem vbL_len (l : List Int) : 1 ≤ (vbL l).length := by
  unfold vbL
  rw [List.length_append]
  have := vby_len l.length
  omega
theorem vbO_len (o : OnZ) : 1 ≤ (vbO o).length := by
  unfold vbO
  rw [List.length_append, List.length_append]
  have := vbL_len o.ps
  omega

set_option maxRecDepth 100000 in
set_option maxHeartbeats 4000000 in
theorem appInts_any (base : Nat) (bs : List Nat) (v : Value) (a : Option Addr) (c : Nat) (l : List (Int)) (w : World) (hO : OwnB base w v bs) (hb : base ≤ w.heap.size) (hL : Lst base w a c l) (hl0 : (bs ++ vbL l).length ≤ 70368744177664) :
    Calls Tryd.prog 31 #[v, .slice a l.length c, .func (.func 11) #[] #[]] w (ApE base w (bs ++ vbL l)) := by
  have hll : l.length ≤ 70368744177664 := by
    have h1 : l.length ≤ (vbL l).length := by unfold vbL; exact flat_ge vbI_len l _
    rw [List.length_append] at hl0
    omega
  obtain ⟨P, hP⟩ : ∃ P, P = bs ++ vbI (l.length : Int) := ⟨_, rfl⟩
  have hT : bs ++ vbL l = P ++ (l.map vbI).flatten := by rw [hP, List.append_assoc]; unfold vbL vbI; rw [uzz_nat (by omega)]
  rw [hT] at hl0 ⊢
  have HN := hid (appNumber_any base bs v (l.length : Int) w hO hb (by rw [← hP]; rw [List.length_append] at hl0; omega))
  rw [← hP] at HN
  have HLL := hid hL
  have HB := hid hb
  have HPL : Hid (∀ i, i < l.length → ((P ++ ((l.take i).map vbI).flatten) ++ vbI (zat l i)).length ≤ 70368744177664) := fun i hi => by
    have := flat_pre vbI l (i + 1)
    rw [flat_succ_int vbI l i hi] at this
    rw [List.append_assoc, List.length_append]
    rw [List.length_append] at hl0
    omega
  obtain ⟨n, hn⟩ : ∃ n, n = l.length := ⟨_, rfl⟩
  have HNN := hid hn
  rw [← hn] at HN hll ⊢
  have HTK : Hid (∀ i, i < l.length → ((l.take (i + 1)).map vbI).flatten = ((l.take i).map vbI).flatten ++ vbI (zat l i)) := fun i hi => flat_succ_int vbI l i hi
  have HALL : Hid ((l.take n).map vbI = l.map vbI) := by unfold Hid; rw [hn, List.take_length]
  have HRW : Hid (∀ i, i < n → i < l.length) := fun i hi => by rw [← hn]; exact hi
  clear hL hO hb hl0 hP hT hn
  go_enter Tryd.func31, Tryd.ntmps31
  go_wp2_with fail
  refine HN.out.mono ?_
  rintro e w1 ⟨v1, rfl, h1, h2, h3⟩
  have H1 := hid (And.intro h1 (And.intro h2 h3))
  clear h1 h2 h3 HN
  go_wp2_with fail
  go_loopw [0, 15] (fun bv0 iv wr => ∃ (i : Nat) (bv : Value), i ≤ n ∧ iv = .int .i64 (i : Int) ∧ bv = bv0 ∧ Hid (OwnB base wr bv (P ++ ((l.take i).map vbI).flatten) ∧ Below base w wr ∧ KU w wr)) (fun _ iv _ => n - (intOf iv).toNat)
  case atStart => exact ⟨0, _, Nat.zero_le _, rfl, rfl, by rw [List.take_zero, List.map_nil, List.flatten_nil, List.append_nil]; exact H1.out.1, H1.out.2.1, H1.out.2.2⟩
  case round =>
    obtain ⟨i, bv, hi', rfl, rfl, hI⟩ := hrel
    by_cases hlt2 : i < n
    · have hltI : (i : Int) < (n : Int) := by omega
      have hks : IntKind.i64.wrap ((i : Int) + 1) = (i : Int) + 1 := by rw [IntKind.wrap_i64]; omega
      have hlt := HRW.out i hlt2
      obtain ⟨b0, o0, rfl, hb0, hc0⟩ := HLL.out.row i hlt
      have hx0 := (hI.out.2.1.cell (p := ⟨b0, o0 + i, none⟩) hb0).trans hc0
      have HC := hid (appNumber_any base _ bv (zat l i) wr hI.out.1 (Nat.le_trans HB.out hI.out.2.1.size) (HPL.out i hlt))
      have HTI := hid (HTK.out i hlt)
      have HBI := hid hI.out.2
      clear hlt hI hb0 hc0
      go_wp2_with fail
      refine HC.out.mono ?_
      rintro e w3 ⟨v3, rfl, k1, k2, k3⟩
      have HE : Hid (OwnB base w3 v3 (P ++ ((l.take (i + 1)).map vbI).flatten) ∧ Below base w w3 ∧ KU w w3) := ⟨by rw [HTI.out, ← List.append_assoc]; exact k1, HBI.out.1.trans k2, HBI.out.2.trans k3⟩
      clear k1 k2 k3 HBI HC hx0
      go_wp2_with fail
      go_roundw
      case rel => exact ⟨i + 1, _, by omega, by go_num, rfl, HE⟩
      case measure => simp [intOf]; omega
    · obtain rfl : i = n := by omega
      have hltI : ¬ (i : Int) < (i : Int) := by omega
      have HE : Hid (OwnB base wr bv (P ++ (l.map vbI).flatten) ∧ Below base w wr ∧ KU w wr) := by unfold Hid; rw [← HALL.out]; exact hI.out
      clear hI
      go_wp2_with fail
      go_ret
      exact ⟨_, rfl, HE.out⟩

set_option maxRecDepth 100000 in
theorem appNums_any (base : Nat) (bs : List Nat) (v : Value) (a : Option Addr) (c : Nat) (l : List Int) (w : World) (hO : OwnB base w v bs) (hb : base ≤ w.heap.size) (hL : Lst base w a c l) (hl0 : (bs ++ vbL l).length ≤ 70368744177664) :
    Calls Tryd.prog 10 #[v, .slice a l.length c] w (ApE base w (bs ++ vbL l)) := by
  have HN := hid (appInts_any base bs v a c l w hO hb hL hl0)
  clear hO hb hL hl0
  go_enter Tryd.func10, Tryd.ntmps10
  go_wp2_with fail
  refine HN.out.mono ?_
  rintro e w1 ⟨v1, rfl, h1⟩
  have H1 := hid h1
  clear h1 HN
  go_wp2_with fail
  go_ret
  exact ⟨_, rfl, H1.out⟩

set_option maxRecDepth 100000 in
set_option maxHeartbeats 4000000 in
theorem appRows_any (base : Nat) (bs : List Nat) (v : Value) (a : Option Addr) (c : Nat) (l : List (List Int)) (w : World) (hO : OwnB base w v bs) (hb : base ≤ w.heap.size) (hL : LstR base w a c l) (hl0 : (bs ++ vbR l).length ≤ 70368744177664) :
    Calls Tryd.prog 12 #[v, .slice a l.length c, .func (.func 10) #[] #[]] w (ApE base w (bs ++ vbR l)) := by
  have hll : l.length ≤ 70368744177664 := by
    have h1 : l.length ≤ (vbR l).length := by unfold vbR; exact flat_ge vbL_len l _
    rw [List.length_append] at hl0
    omega
  obtain ⟨P, hP⟩ : ∃ P, P = bs ++ vbI (l.length : Int) := ⟨_, rfl⟩
  have hT : bs ++ vbR l = P ++ (l.map vbL).flatten := by rw [hP, List.append_assoc]; unfold vbR vbI; rw [uzz_nat (by omega)]
  rw [hT] at hl0 ⊢
  have HN := hid (appNumber_any base bs v (l.length : Int) w hO hb (by rw [← hP]; rw [List.length_append] at hl0; omega))
  rw [← hP] at HN
  have HLL := hid hL
  have HB := hid hb
  have HPL : Hid (∀ i, i < l.length → ((P ++ ((l.take i).map vbL).flatten) ++ vbL (rat l i)).length ≤ 70368744177664) := fun i hi => by
    have := flat_pre vbL l (i + 1)
    rw [flat_succ_sl vbL l i hi] at this
    rw [List.append_assoc, List.length_append]
    rw [List.length_append] at hl0
    omega
  obtain ⟨n, hn⟩ : ∃ n, n = l.length := ⟨_, rfl⟩
  have HNN := hid hn
  rw [← hn] at HN hll ⊢
  have HTK : Hid (∀ i, i < l.length → ((l.take (i + 1)).map vbL).flatten = ((l.take i).map vbL).flatten ++ vbL (rat l i)) := fun i hi => flat_succ_sl vbL l i hi
  have HALL : Hid ((l.take n).map vbL = l.map vbL) := by unfold Hid; rw [hn, List.take_length]
  have HRW : Hid (∀ i, i < n → i < l.length) := fun i hi => by rw [← hn]; exact hi
  clear hL hO hb hl0 hP hT hn
  go_enter Tryd.func12, Tryd.ntmps12
  go_wp2_with fail
  refine HN.out.mono ?_
  rintro e w1 ⟨v1, rfl, h1, h2, h3⟩
  have H1 := hid (And.intro h1 (And.intro h2 h3))
  clear h1 h2 h3 HN
  go_wp2_with fail
  go_loopw [0, 15] (fun bv0 iv wr => ∃ (i : Nat) (bv : Value), i ≤ n ∧ iv = .int .i64 (i : Int) ∧ bv = bv0 ∧ Hid (OwnB base wr bv (P ++ ((l.take i).map vbL).flatten) ∧ Below base w wr ∧ KU w wr)) (fun _ iv _ => n - (intOf iv).toNat)
  case atStart => exact ⟨0, _, Nat.zero_le _, rfl, rfl, by rw [List.take_zero, List.map_nil, List.flatten_nil, List.append_nil]; exact H1.out.1, H1.out.2.1, H1.out.2.2⟩
  case round =>
    obtain ⟨i, bv, hi', rfl, rfl, hI⟩ := hrel
    by_cases hlt2 : i < n
    · have hltI : (i : Int) < (n : Int) := by omega
      have hks : IntKind.i64.wrap ((i : Int) + 1) = (i : Int) + 1 := by rw [IntKind.wrap_i64]; omega
      have hlt := HRW.out i hlt2
      obtain ⟨b0, o0, ak, ck, rfl, hb0, hc0, hL0⟩ := HLL.out.row i hlt
      have hx0 := (hI.out.2.1.cell (p := ⟨b0, o0 + i, none⟩) hb0).trans hc0
      have HC := hid (appNums_any base _ bv ak ck (rat l i) wr hI.out.1 (Nat.le_trans HB.out hI.out.2.1.size) (hL0.below hI.out.2.1) (HPL.out i hlt))
      obtain ⟨nk, hnk⟩ : ∃ nk, nk = (rat l i).length := ⟨_, rfl⟩
      rw [← hnk] at hx0 HC
      clear hL0 hnk
      have HTI := hid (HTK.out i hlt)
      have HBI := hid hI.out.2
      clear hlt hI hb0 hc0
      go_wp2_with fail
      refine HC.out.mono ?_
      rintro e w3 ⟨v3, rfl, k1, k2, k3⟩
      have HE : Hid (OwnB base w3 v3 (P ++ ((l.take (i + 1)).map vbL).flatten) ∧ Below base w w3 ∧ KU w w3) := ⟨by rw [HTI.out, ← List.append_assoc]; exact k1, HBI.out.1.trans k2, HBI.out.2.trans k3⟩
      clear k1 k2 k3 HBI HC hx0
      go_wp2_with fail
      go_roundw
      case rel => exact ⟨i + 1, _, by omega, by go_num, rfl, HE⟩
      case measure => simp [intOf]; omega
    · obtain rfl : i = n := by omega
      have hltI : ¬ (i : Int) < (i : Int) := by omega
      have HE : Hid (OwnB base wr bv (P ++ (l.map vbL).flatten) ∧ Below base w wr ∧ KU w wr) := by unfold Hid; rw [← HALL.out]; exact hI.out
      clear hI
      go_wp2_with fail
      go_ret
      exact ⟨_, rfl, HE.out⟩

end Go.Proofs.YtcajofdmadpmoaaDoor

namespace Go.Proofs.YtcajofdmadpmoaaDoor
open Go.RowKit

/-- how a writing of the reference ends -/
def RwE (base B : Nat) (w : World) (bs : List Nat) (e : Ending) (w' : World) : Prop := e = .returned (.tuple #[]) ∧ RB base w' B bs ∧ Below base w w' ∧ KB B w w'

set_option maxRecDepth 100000 in
set_option maxHeartbeats 2000000 in
theorem refNums_any (base B : Nat) (bs : List Nat) (a : Option Addr) (c : Nat) (l : List (Int)) (w : World) (hR : RB base w B bs) (hb : base ≤ w.heap.size) (hL : Lst base w a c l) (hl0 : (bs ++ vbL l).length ≤ 70368744177664) :
    Calls Tryd.prog 15 #[.pointer (some ⟨B, 0, none⟩), .slice a l.length c] w (RwE base B w (bs ++ vbL l)) := by
  have hll : l.length ≤ 70368744177664 := by
    have h1 : l.length ≤ (vbL l).length := by unfold vbL; exact flat_ge vbI_len l _
    rw [List.length_append] at hl0
    omega
  obtain ⟨P, hP⟩ : ∃ P, P = bs ++ vbI (l.length : Int) := ⟨_, rfl⟩
  have hT : bs ++ vbL l = P ++ (l.map vbI).flatten := by rw [hP, List.append_assoc]; unfold vbL vbI; rw [uzz_nat (by omega)]
  rw [hT] at hl0 ⊢
  have HN := hid (refNumber_any base B bs (l.length : Int) w hR hb (by rw [← hP]; rw [List.length_append] at hl0; omega))
  rw [← hP] at HN
  have HLL := hid hL
  have HB := hid hb
  have HPL : Hid (∀ i, i < l.length → ((P ++ ((l.take i).map vbI).flatten) ++ vbI (zat l i)).length ≤ 70368744177664) := fun i hi => by
    have := flat_pre vbI l (i + 1)
    rw [flat_succ_int vbI l i hi] at this
    rw [List.append_assoc, List.length_append]
    rw [List.length_append] at hl0
    omega
  obtain ⟨n, hn⟩ : ∃ n, n = l.length := ⟨_, rfl⟩
  rw [← hn] at HN hll ⊢
  have HTK : Hid (∀ i, i < l.length → ((l.take (i + 1)).map vbI).flatten = ((l.take i).map vbI).flatten ++ vbI (zat l i)) := fun i hi => flat_succ_int vbI l i hi
  have HALL : Hid ((l.take n).map vbI = l.map vbI) := by unfold Hid; rw [hn, List.take_length]
  have HRW : Hid (∀ i, i < n → i < l.length) := fun i hi => by rw [← hn]; exact hi
  clear hL hR hb hl0 hP hT hn
  go_enter Tryd.func15, Tryd.ntmps15
  go_wp2_with fail
  refine HN.out.mono ?_
  rintro e w1 ⟨rfl, h1, h2, h3⟩
  have H1 := hid (And.intro h1 (And.intro h2 h3))
  clear h1 h2 h3 HN
  go_wp2_with fail
  go_loopw [4] (fun iv wr => ∃ (i : Nat), i ≤ n ∧ iv = .int .i64 (i : Int) ∧ Hid (RB base wr B (P ++ ((l.take i).map vbI).flatten) ∧ Below base w wr ∧ KB B w wr)) (fun iv _ => n - (intOf iv).toNat)
  case atStart => exact ⟨0, Nat.zero_le _, rfl, by rw [List.take_zero, List.map_nil, List.flatten_nil, List.append_nil]; exact H1.out.1, H1.out.2.1, H1.out.2.2⟩
  case round =>
    obtain ⟨i, hi', rfl, hI⟩ := hrel
    by_cases hlt2 : i < n
    · have hltI : (i : Int) < (n : Int) := by omega
      have hks : IntKind.i64.wrap ((i : Int) + 1) = (i : Int) + 1 := by rw [IntKind.wrap_i64]; omega
      have hlt := HRW.out i hlt2
      obtain ⟨b0, o0, rfl, hb0, hc0⟩ := HLL.out.row i hlt
      have hx0 := (hI.out.2.1.cell (p := ⟨b0, o0 + i, none⟩) hb0).trans hc0
      have HC := hid (refNumber_any base B _ (zat l i) wr hI.out.1 (Nat.le_trans HB.out hI.out.2.1.size) (HPL.out i hlt))
      have HTI := hid (HTK.out i hlt)
      have HBI := hid hI.out.2
      clear hlt hI hb0 hc0
      go_wp2_with fail
      refine HC.out.mono ?_
      rintro e w3 ⟨rfl, k1, k2, k3⟩
      have HE : Hid (RB base w3 B (P ++ ((l.take (i + 1)).map vbI).flatten) ∧ Below base w w3 ∧ KB B w w3) := ⟨by rw [HTI.out, ← List.append_assoc]; exact k1, HBI.out.1.trans k2, HBI.out.2.trans k3⟩
      clear k1 k2 k3 HBI HC hx0
      go_wp2_with fail
      go_roundw
      case rel => exact ⟨i + 1, by omega, by go_num, HE⟩
      case measure => simp [intOf]; omega
    · obtain rfl : i = n := by omega
      have hltI : ¬ (i : Int) < (i : Int) := by omega
      have HE : Hid (RB base wr B (P ++ (l.map vbI).flatten) ∧ Below base w wr ∧ KB B w wr) := by unfold Hid; rw [← HALL.out]; exact hI.out
      clear hI
      go_wp2_with fail
      go_end0
      exact ⟨rfl, HE.out⟩

set_option maxRecDepth 100000 in
set_option maxHeartbeats 2000000 in
theorem refRows_any (base B : Nat) (bs : List Nat) (a : Option Addr) (c : Nat) (l : List (List Int)) (w : World) (hR : RB base w B bs) (hb : base ≤ w.heap.size) (hL : LstR base w a c l) (hl0 : (bs ++ vbR l).length ≤ 70368744177664) :
    Calls Tryd.prog 17 #[.pointer (some ⟨B, 0, none⟩), .slice a l.length c] w (RwE base B w (bs ++ vbR l)) := by
  have hll : l.length ≤ 70368744177664 := by
    have h1 : l.length ≤ (vbR l).length := by unfold vbR; exact flat_ge vbL_len l _
    rw [List.length_append] at hl0
    omega
  obtain ⟨P, hP⟩ : ∃ P, P = bs ++ vbI (l.length : Int) := ⟨_, rfl⟩
  have hT : bs ++ vbR l = P ++ (l.map vbL).flatten := by rw [hP, List.append_assoc]; unfold vbR vbI; rw [uzz_nat (by omega)]
  rw [hT] at hl0 ⊢
  have HN := hid (refNumber_any base B bs (l.length : Int) w hR hb (by rw [← hP]; rw [List.length_append] at hl0; omega))
  rw [← hP] at HN
  have HLL := hid hL
  have HB := hid hb
  have HPL : Hid (∀ i, i < l.length → ((P ++ ((l.take i).map vbL).flatten) ++ vbL (rat l i)).length ≤ 70368744177664) := fun i hi => by
    have := flat_pre vbL l (i + 1)
    rw [flat_succ_sl vbL l i hi] at this
    rw [List.append_assoc, List.length_append]
    rw [List.length_append] at hl0
    omega
  obtain ⟨n, hn⟩ : ∃ n, n = l.length := ⟨_, rfl⟩
  rw [← hn] at HN hll ⊢
  have HTK : Hid (∀ i, i < l.length → ((l.take (i + 1)).map vbL).flatten = ((l.take i).map vbL).flatten ++ vbL (rat l i)) := fun i hi => flat_succ_sl vbL l i hi
  have HALL : Hid ((l.take n).map vbL = l.map vbL) := by unfold Hid; rw [hn, List.take_length]
  have HRW : Hid (∀ i, i < n → i < l.length) := fun i hi => by rw [← hn]; exact hi
  clear hL hR hb hl0 hP hT hn
  go_enter Tryd.func17, Tryd.ntmps17
  go_wp2_with fail
  refine HN.out.mono ?_
  rintro e w1 ⟨rfl, h1, h2, h3⟩
  have H1 := hid (And.intro h1 (And.intro h2 h3))
  clear h1 h2 h3 HN
  go_wp2_with fail
  go_loopw [4] (fun iv wr => ∃ (i : Nat), i ≤ n ∧ iv = .int .i64 (i : Int) ∧ Hid (RB base wr B (P ++ ((l.take i).map vbL).flatten) ∧ Below base w wr ∧ KB B w wr)) (fun iv _ => n - (intOf iv).toNat)
  case atStart => exact ⟨0, Nat.zero_le _, rfl, by rw [List.take_zero, List.map_nil, List.flatten_nil, List.append_nil]; exact H1.out.1, H1.out.2.1, H1.out.2.2⟩
  case round =>
    obtain ⟨i, hi', rfl, hI⟩ := hrel
    by_cases hlt2 : i < n
    · have hltI : (i : Int) < (n : Int) := by omega
      have hks : IntKind.i64.wrap ((i : Int) + 1) = (i : Int) + 1 := by rw [IntKind.wrap_i64]; omega
      have hlt := HRW.out i hlt2
      obtain ⟨b0, o0, ak, ck, rfl, hb0, hc0, hL0⟩ := HLL.out.row i hlt
      have hx0 := (hI.out.2.1.cell (p := ⟨b0, o0 + i, none⟩) hb0).trans hc0
      have HC := hid (refNums_any base B _ ak ck (rat l i) wr hI.out.1 (Nat.le_trans HB.out hI.out.2.1.size) (hL0.below hI.out.2.1) (HPL.out i hlt))
      obtain ⟨nk, hnk⟩ : ∃ nk, nk = (rat l i).length := ⟨_, rfl⟩
      rw [← hnk] at hx0 HC
      clear hL0 hnk
      have HTI := hid (HTK.out i hlt)
      have HBI := hid hI.out.2
      clear hlt hI hb0 hc0
      go_wp2_with fail
      refine HC.out.mono ?_
      rintro e w3 ⟨rfl, k1, k2, k3⟩
      have HE : Hid (RB base w3 B (P ++ ((l.take (i + 1)).map vbL).flatten) ∧ Below base w w3 ∧ KB B w w3) := ⟨by rw [HTI.out, ← List.append_assoc]; exact k1, HBI.out.1.trans k2, HBI.out.2.trans k3⟩
      clear k1 k2 k3 HBI HC hx0
      go_wp2_with fail
      go_roundw
      case rel => exact ⟨i + 1, by omega, by go_num, HE⟩
      case measure => simp [intOf]; omega
    · obtain rfl : i = n := by omega
      have hltI : ¬ (i : Int) < (i : Int) := by omega
      have HE : Hid (RB base wr B (P ++ (l.map vbL).flatten) ∧ Below base w wr ∧ KB B w wr) := by unfold Hid; rw [← HALL.out]; exact hI.out
      clear hI
      go_wp2_with fail
      go_end0
      exact ⟨rfl, HE.out⟩

end Go.Proofs.YtcajofdmadpmoaaDoor
