/- Package chain: New, Take, Draw, Draws, Place, Digest, Fork. Chapter 18, plainly: the label of a circuit, what is drawn, what Check takes. -/
import Derived.Test.YtpgnabmkfkcogaaGreatDoorGmAO
import Derived.Test.YtpgnabmkfkcogaaGreatDoorGmAM
import Derived.Test.YtpgnabmkfkcogaaGreatDoorGmAN
namespace Go.Proofs.YtpgnabmkfkcogaaGreatDoor
open Go.RowKit

theorem cell_alloc_at (w : World) (cs : Array Value) (t : TypeId) (i : Nat) (v : Value) (h : cs[i]? = some v) : (w.alloc (.cells cs t)).cell? ⟨w.heap.size, i, none⟩ = some v := by
  unfold World.cell?
  rw [show (w.alloc (.cells cs t)).heap[(⟨w.heap.size, i, none⟩ : Addr).block]? = some (.cells cs t (0, 0)) from heap_alloc_new w _]
  exact h
theorem lstR_2 {n0 : Nat} {w : World} {a b : Option Addr} {ca cb : Nat} {x y : List Int} (ha : Lst n0 w a ca x) (hb : Lst n0 w b cb y) (hn : n0 ≤ w.heap.size) : LstR (w.heap.size + 1) (w.alloc (.cells #[.slice a x.length ca, .slice b y.length cb] 23)) (some ⟨w.heap.size, 0, none⟩) 2 [x, y] := by
  have hbl : Below w.heap.size w (w.alloc (.cells #[.slice a x.length ca, .slice b y.length cb] 23)) := (Below.refl _ _).alloc (Nat.le_refl _) _
  refine ⟨fun k hk => ?_, Nat.le_refl _, fun h => by cases h⟩
  match k, (show k < 2 by simpa using hk) with
  | 0, _ => exact ⟨w.heap.size, 0, a, ca, rfl, by omega, cell_alloc_at w _ _ _ _ rfl, (ha.below (hbl.mono hn)).mono (by omega)⟩
  | 1, _ => exact ⟨w.heap.size, 0, b, cb, rfl, by omega, cell_alloc_at w _ _ _ _ rfl, (hb.below (hbl.mono hn)).mono (by omega)⟩
theorem lstR_3 {n0 : Nat} {w : World} {a b c : Option Addr} {ca cb cc : Nat} {x y z : List Int} (ha : Lst n0 w a ca x) (hb : Lst n0 w b cb y) (hc : Lst n0 w c cc z) (hn : n0 ≤ w.heap.size) : LstR (w.heap.size + 1) (w.alloc (.cells #[.slice a x.length ca, .slice b y.length cb, .slice c z.length cc] 23)) (some ⟨w.heap.size, 0, none⟩) 3 [x, y, z] := by
  have hbl : Below w.heap.size w (w.alloc (.cells #[.slice a x.length ca, .slice b y.length cb, .slice c z.length cc] 23)) := (Below.refl _ _).alloc (Nat.le_refl _) _
  refine ⟨fun k hk => ?_, Nat.le_refl _, fun h => by cases h⟩
  match k, (show k < 3 by simpa using hk) with
  | 0, _ => exact ⟨w.heap.size, 0, a, ca, rfl, by omega, cell_alloc_at w _ _ _ _ rfl, (ha.below (hbl.mono hn)).mono (by omega)⟩
  | 1, _ => exact ⟨w.heap.size, 0, b, cb, rfl, by omega, cell_alloc_at w _ _ _ _ rfl, (hb.below (hbl.mono hn)).mono (by omega)⟩
  | 2, _ => exact ⟨w.heap.size, 0, c, cc, rfl, by omega, cell_alloc_at w _ _ _ _ rfl, (hc.below (hbl.mono hn)).mono (by omega)⟩
/-- a list of one number, new -/
theorem lst_one (w : World) (x : Int) : Lst (w.alloc (.cells #[.int .i64 x] 3)).heap.size (w.alloc (.cells #[.int .i64 x] 3)) (some ⟨w.heap.size, 0, none⟩) 1 [x] := by
  refine ⟨fun k hk => ⟨w.heap.size, 0, rfl, by simp, ?_⟩, Nat.le_refl _, fun h => by cases h⟩
  obtain rfl : k = 0 := by simp at hk; omega
  exact cell_alloc_at w _ _ _ _ rfl
theorem fits_one {x : Int} (h : -9223372036854775808 ≤ x ∧ x ≤ 9223372036854775807) : Fits [x] := fits_cons h (fun j hj => by simp at hj)

set_option maxRecDepth 100000 in
set_option maxHeartbeats 1000000 in
theorem cnew_any (N0 q n d s b cap : Nat) (a : Option Addr) (l : List Int) (w : World) (ok : SpgOk q n d) (hs : SpgAt w s b q n d) (hN : N0 ≤ w.heap.size) (hsN : s < N0) (hbN : b < N0) (hlen : l.length ≤ 17592186043904) (hfl : Fits l) (hl : Lst w.heap.size w a cap l) :
    Calls Tryz.prog 20 #[.pointer (some ⟨s, 0, none⟩), .slice a l.length cap] w fun e w' => ∃ c, e = .returned (.pointer (some ⟨c, 0, none⟩)) ∧ w.heap.size ≤ c ∧ PCh N0 q n w' c (digl q n (2 :: l)) ∧ Below w.heap.size w w' := by
  obtain ⟨W0, hW0⟩ : ∃ W0, W0 = w.alloc (.cells #[.pointer (some ⟨s, 0, none⟩), .int .i64 0, .int .i64 0, .int .i64 0, .int .i64 0] 118) := ⟨_, rfl⟩
  obtain ⟨W1, hW1⟩ : ∃ W1, W1 = W0.alloc (.cells #[.int .i64 2] 3) := ⟨_, rfl⟩
  obtain ⟨W2, hW2⟩ : ∃ W2, W2 = W1.alloc (.cells #[.slice (some ⟨W0.heap.size, 0, none⟩) 1 1, .slice a l.length cap] 23) := ⟨_, rfl⟩
  have hb0 : Below w.heap.size w W0 := by rw [hW0]; exact (Below.refl _ _).alloc (Nat.le_refl _) _
  have hb1 : Below w.heap.size w W1 := by rw [hW1]; exact hb0.alloc hb0.size _
  have hb2 : Below w.heap.size w W2 := by rw [hW2]; exact hb1.alloc hb1.size _
  have e0 : W0.heap.size = w.heap.size + 1 := by rw [hW0]; simp
  have e1 : W1.heap.size = w.heap.size + 2 := by rw [hW1]; simp [e0]
  have e2 : W2.heap.size = w.heap.size + 3 := by rw [hW2]; simp [e1]
  have hP0 : PCh N0 q n W0 w.heap.size [0, 0, 0, 0] := ⟨s, b, d, ok, hs.below hb0 hs.lt hs.ltb, hsN, hbN, hN, by rw [hW0]; exact heap_alloc_new w _⟩
  have hP2 : PCh N0 q n W2 w.heap.size [0, 0, 0, 0] := by
    refine (hP0.below (w' := W1) ?_).below ?_
    · rw [hW1]; exact (Below.refl _ _).alloc (Nat.le_refl _) _
    · rw [hW2]; exact (Below.refl _ _).alloc (Nat.le_refl _) _
  have hl1 : Lst W1.heap.size W1 (some ⟨W0.heap.size, 0, none⟩) 1 [2] := by rw [hW1]; exact lst_one W0 2
  have hR : LstR W2.heap.size W2 (some ⟨W1.heap.size, 0, none⟩) 2 [[2], l] := by
    have := lstR_2 hl1 ((hl.below hb1).mono hb1.size) (Nat.le_refl _)
    rw [e2, show w.heap.size + 3 = W1.heap.size + 1 by omega, hW2]
    exact this
  have HBC := hid (become_any N0 q n w.heap.size 2 (some ⟨W1.heap.size, 0, none⟩) [[2], l] [0, 0, 0, 0] W2 hP2 (by simp) (by simp; omega) (by simp) (by simpa using fits_cons (x := 2) (by omega) hfl) hR)
  rw [show ([[2], l] : List (List Int)).flatten = 2 :: l from by simp] at HBC
  have HB2 := hid hb2
  clear hP0 hP2 hl1 hR hs hl hfl ok hb0 hb1 hb2
  rw [e1] at HBC
  rw [hW2, hW1, e0, hW0] at HBC
  go_enter Tryz.func20, Tryz.ntmps20
  go_wp2_with fail
  refine HBC.out.mono ?_
  rintro e w1 ⟨rfl, hP, hg⟩
  have HE : Hid (PCh N0 q n w1 w.heap.size (digl q n (2 :: l)) ∧ Below w.heap.size w w1) := ⟨hP, HB2.out.trans (by rw [hW2, hW1, e0, hW0]; exact gb_to hg (Nat.le_refl _) (by simp; omega))⟩
  clear hP hg HBC
  go_wp2_with fail
  go_ret
  exact ⟨w.heap.size, rfl, Nat.le_refl _, HE.out.1, HE.out.2⟩

set_option maxRecDepth 100000 in
set_option maxHeartbeats 1000000 in
theorem ctake_any (N0 q n c cap : Nat) (a : Option Addr) (l D : List Int) (w : World) (hP : PCh N0 q n w c D) (hD : Dig D) (hlen : l.length ≤ 17592186043904) (hfl : Fits l) (hl : Lst w.heap.size w a cap l) :
    Calls Tryz.prog 130 #[.pointer (some ⟨c, 0, none⟩), .slice a l.length cap] w fun e w' => e = .returned (.tuple #[]) ∧ PCh N0 q n w' c (digl q n (3 :: (D ++ l))) ∧ w.grownBy w' (some c) := by
  have hD4 := hD.1
  obtain ⟨W1, hW1⟩ : ∃ W1, W1 = w.alloc (.cells #[.int .i64 3] 3) := ⟨_, rfl⟩
  obtain ⟨W2, hW2⟩ : ∃ W2, W2 = W1.alloc (.cells #[.slice (some ⟨w.heap.size, 0, none⟩) 1 1, .slice (some ⟨c, 1, none⟩) 4 4, .slice a l.length cap] 23) := ⟨_, rfl⟩
  have hb1 : Below w.heap.size w W1 := by rw [hW1]; exact (Below.refl _ _).alloc (Nat.le_refl _) _
  have hb2 : Below w.heap.size w W2 := by rw [hW2]; exact hb1.alloc hb1.size _
  have e1 : W1.heap.size = w.heap.size + 1 := by rw [hW1]; simp
  have e2 : W2.heap.size = w.heap.size + 2 := by rw [hW2]; simp [e1]
  have hl1 : Lst W1.heap.size W1 (some ⟨w.heap.size, 0, none⟩) 1 [3] := by rw [hW1]; exact lst_one w 3
  have hld : Lst w.heap.size w (some ⟨c, 1, none⟩) 4 D := by
    obtain ⟨s, b, d, _, _, _, _, _, hblk⟩ := hP
    exact five_lst hD4 hblk
  have hR : LstR W2.heap.size W2 (some ⟨W1.heap.size, 0, none⟩) 3 [[3], D, l] := by
    have := lstR_3 hl1 ((hld.below hb1).mono hb1.size) ((hl.below hb1).mono hb1.size) (Nat.le_refl _)
    rw [hD4] at this
    rw [e2, show w.heap.size + 2 = W1.heap.size + 1 by omega, hW2]
    exact this
  have HBC := hid (become_any N0 q n c 3 (some ⟨W1.heap.size, 0, none⟩) [[3], D, l] D W2 (hP.below hb2) (by simp) (by simp; omega) (by simp) (by simpa using fits_cons (x := 3) (by omega) (fits_append hD.2 hfl)) hR)
  rw [show ([[3], D, l] : List (List Int)).flatten = 3 :: (D ++ l) from by simp] at HBC
  have HB2 := hid hb2
  clear hl1 hR hl hfl hb1 hb2 hld hP hD hD4
  rw [e1, hW2, hW1] at HBC
  go_enter Tryz.func130, Tryz.ntmps130
  go_wp2_with fail
  refine HBC.out.mono ?_
  rintro e w1 ⟨rfl, hP, hg⟩
  have HE : Hid (PCh N0 q n w1 c (digl q n (3 :: (D ++ l))) ∧ w.grownBy w1 (some c)) := ⟨hP, gb_trans (gb_below HB2.out) (by rw [hW2, hW1]; exact hg)⟩
  clear hP hg HBC
  go_wp2_with fail
  go_end0
  exact ⟨rfl, HE.out⟩

set_option maxRecDepth 100000 in
set_option maxHeartbeats 1000000 in
theorem cdraw_any (N0 q n c : Nat) (D : List Int) (w : World) (hP : PCh N0 q n w c D) (hD : Dig D) :
    Calls Tryz.prog 131 #[.pointer (some ⟨c, 0, none⟩)] w fun e w' => e = .returned (.int .i64 (zat (digl q n (4 :: D)) 0)) ∧ PCh N0 q n w' c (digl q n (4 :: D)) ∧ w.grownBy w' (some c) := by
  have hD4 := hD.1
  obtain ⟨W1, hW1⟩ : ∃ W1, W1 = w.alloc (.cells #[.int .i64 4] 3) := ⟨_, rfl⟩
  obtain ⟨W2, hW2⟩ : ∃ W2, W2 = W1.alloc (.cells #[.slice (some ⟨w.heap.size, 0, none⟩) 1 1, .slice (some ⟨c, 1, none⟩) 4 4] 23) := ⟨_, rfl⟩
  have hb1 : Below w.heap.size w W1 := by rw [hW1]; exact (Below.refl _ _).alloc (Nat.le_refl _) _
  have hb2 : Below w.heap.size w W2 := by rw [hW2]; exact hb1.alloc hb1.size _
  have e1 : W1.heap.size = w.heap.size + 1 := by rw [hW1]; simp
  have e2 : W2.heap.size = w.heap.size + 2 := by rw [hW2]; simp [e1]
  have hl1 : Lst W1.heap.size W1 (some ⟨w.heap.size, 0, none⟩) 1 [4] := by rw [hW1]; exact lst_one w 4
  have hld : Lst w.heap.size w (some ⟨c, 1, none⟩) 4 D := by
    obtain ⟨s, b, d, _, _, _, _, _, hblk⟩ := hP
    exact five_lst hD4 hblk
  have hR : LstR W2.heap.size W2 (some ⟨W1.heap.size, 0, none⟩) 2 [[4], D] := by
    have := lstR_2 hl1 ((hld.below hb1).mono hb1.size) (Nat.le_refl _)
    rw [hD4] at this
    rw [e2, show w.heap.size + 2 = W1.heap.size + 1 by omega, hW2]
    exact this
  have HBC := hid (become_any N0 q n c 2 (some ⟨W1.heap.size, 0, none⟩) [[4], D] D W2 (hP.below hb2) (by simp) (by simp; omega) (by simp) (by simpa using fits_cons (x := 4) (by omega) hD.2) hR)
  rw [show ([[4], D] : List (List Int)).flatten = 4 :: D from by simp] at HBC
  have HB2 := hid hb2
  clear hl1 hR hb1 hb2 hld hP hD hD4
  rw [e1, hW2, hW1] at HBC
  go_enter Tryz.func131, Tryz.ntmps131
  go_wp2_with fail
  refine HBC.out.mono ?_
  rintro e w1 ⟨rfl, hP, hg⟩
  have HE : Hid (PCh N0 q n w1 c (digl q n (4 :: D)) ∧ w.grownBy w1 (some c)) := ⟨hP, gb_trans (gb_below HB2.out) (by rw [hW2, hW1]; exact hg)⟩
  obtain ⟨s, b, d, _, _, _, _, _, hblk⟩ := hP
  have c1 := five1 hblk
  clear hblk hg HBC
  obtain ⟨z, hz⟩ : ∃ z, z = zat (digl q n (4 :: D)) 0 := ⟨_, rfl⟩
  rw [← hz] at c1
  have HZ := hid hz
  clear hz
  go_wp2_with fail
  go_ret
  exact ⟨by rw [← HZ.out]; rfl, HE.out⟩

set_option maxRecDepth 100000 in
theorem csize_any (N : Int) (w : World) : Calls Tryz.prog 199 #[.int .i64 N] w fun e w' => e = .returned (.bool (decide (1 ≤ N ∧ N ≤ 65536))) ∧ w' = w := by
  by_cases t1 : 1 ≤ N
  · by_cases t2 : N ≤ 65536
    · have t : decide (1 ≤ N ∧ N ≤ 65536) = true := by simp [t1, t2]
      have t1' : N ≥ 1 := t1
      rw [t]
      go_enter Tryz.func199, Tryz.ntmps199
      go_wp2_with fail
      go_ret
      exact ⟨rfl, rfl⟩
    · have t : decide (1 ≤ N ∧ N ≤ 65536) = false := by simp [t2]
      have t1' : N ≥ 1 := t1
      rw [t]
      go_enter Tryz.func199, Tryz.ntmps199
      go_wp2_with fail
      go_ret
      exact ⟨rfl, rfl⟩
  · have t : decide (1 ≤ N ∧ N ≤ 65536) = false := by simp [t1]
    have t1' : ¬ N ≥ 1 := t1
    rw [t]
    go_enter Tryz.func199, Tryz.ntmps199
    go_wp2_with fail
    go_ret
    exact ⟨rfl, rfl⟩

set_option maxRecDepth 100000 in
set_option maxHeartbeats 1000000 in
theorem cdraws_any (N0 q n c N : Nat) (D : List Int) (w : World) (hP : PCh N0 q n w c D) (hD : Dig D) (hN1 : 1 ≤ N) (hN2 : N ≤ 65536) :
    Calls Tryz.prog 149 #[.pointer (some ⟨c, 0, none⟩), .int .i64 (N : Int)] w fun e w' => ∃ a cp, e = .returned (.slice a N cp) ∧ NumL w' a cp (drs q n N D) ∧ PCh N0 q n w' c (drw q n N D) ∧ w.grownBy w' (some c) := by
  have HSZ := hid (csize_any (N : Int) w)
  rw [show decide (1 ≤ (N : Int) ∧ (N : Int) ≤ 65536) = true from by simp; omega] at HSZ
  have h4 : q ≤ 2147483647 := by obtain ⟨_, _, _, ok, _⟩ := hP; exact ok.hm
  have h3 : 23 ≤ q := by obtain ⟨_, _, _, ok, _⟩ := hP; exact ok.h23
  have hcl := hP.lt
  have HP := hid hP
  have HD := hid hD
  clear hP hD
  have hmk2 := fun w => run_make_row' (P := Tryz.prog) 23 3 (.int .i64 0) 8 Tryz.underlying23 Tryz.infoInt rfl .i64 .i64 N (by omega) (by omega) w
  have HR0 : Hid (ArrI (w.alloc (.cells (madeCells #[.int .i64 0] N) 3)) w.heap.size 3 N (fll (fun j => zat (drw q n (j + 1) D) 0) (fun _ => 0) 0)) := by
    unfold Hid
    rw [fll_zero]
    exact World.rowIs_made w _ N _
  have HB0 : Hid (Below w.heap.size w (w.alloc (.cells (madeCells #[.int .i64 0] N) 3))) := (Below.refl _ _).alloc (Nat.le_refl _) _
  go_enter Tryz.func149, Tryz.ntmps149
  go_wp2_with fail
  refine HSZ.out.mono ?_
  rintro e w0 ⟨rfl, rfl⟩
  clear HSZ
  go_wp2_with fail
  go_loopw [14] (fun iv wr => ∃ k : Nat, k ≤ N ∧ iv = .int .i64 k ∧ Hid (ArrI wr w0.heap.size 3 N (fll (fun j => zat (drw q n (j + 1) D) 0) (fun _ => 0) k) ∧ PCh N0 q n wr c (drw q n k D) ∧ w0.grownBy wr (some c)))
    (fun iv _ => N - (intOf iv).toNat)
  case atStart => exact ⟨0, by omega, rfl, HR0.out, HP.out.below HB0.out, gb_below HB0.out⟩
  case round =>
    obtain ⟨k, hk, rfl, hC⟩ := hrel
    by_cases hlt : k < N
    · have hlt2 : (k : Int) < (N : Int) := by omega
      have hks : IntKind.i64.wrap ((k : Int) + 1) = (k : Int) + 1 := by rw [IntKind.wrap_i64]; omega
      have HDR := hid (cdraw_any N0 q n c (drw q n k D) wr hC.out.2.1 (dig_drw (by omega) h4 n HD.out k))
      obtain ⟨x, hx⟩ : ∃ x, x = zat (digl q n (4 :: drw q n k D)) 0 := ⟨_, rfl⟩
      rw [← hx] at HDR
      have HX : Hid (x = (fun j => zat (drw q n (j + 1) D) 0) k) := hx
      clear hx
      go_wp2_with fail
      refine HDR.out.mono ?_
      rintro e w2 ⟨rfl, hP2, hg2⟩
      have HA2 := hid (hC.out.1.block (gb_blk hg2 hC.out.1.lt (by omega)))
      have HG2 := hid (gb_trans hC.out.2.2 hg2)
      have HP2 := hid hP2
      have hc2 := HA2.out.cell hlt
      have hf2 := HA2.out.frozen k
      rw [fll_at] at hc2
      clear HDR hP2 hg2 hC
      have HE : Hid (ArrI (w2.setCell ⟨w0.heap.size, k, none⟩ (.int .i64 x)) w0.heap.size 3 N (fll (fun j => zat (drw q n (j + 1) D) 0) (fun _ => 0) (k + 1)) ∧ PCh N0 q n (w2.setCell ⟨w0.heap.size, k, none⟩ (.int .i64 x)) c (drw q n (k + 1) D) ∧ w0.grownBy (w2.setCell ⟨w0.heap.size, k, none⟩ (.int .i64 x)) (some c)) := by
        have hbs : Below w0.heap.size w2 (w2.setCell ⟨w0.heap.size, k, none⟩ (.int .i64 x)) := (Below.refl _ _).setCell (p := ⟨w0.heap.size, k, none⟩) (Nat.le_refl _) _
        refine ⟨?_, HP2.out.blocks (hbs.block c hcl) (fun b hb => hbs.block b (by have := HP2.out.ge; omega)), ?_⟩
        · rw [HX.out]; exact HA2.out.next
        · refine ⟨HG2.out.os, HG2.out.tape, HG2.out.output, by have := HG2.out.size; simpa [World.setCell] using this, fun i hi hg => (hbs.block i hi).trans (HG2.out.block i hi hg)⟩
      clear HA2 HP2 HG2
      go_wp2_with fail
      go_roundw
      case rel => exact ⟨k + 1, by omega, by go_num, HE⟩
      case measure => simp [intOf]; omega
    · obtain rfl : k = N := by omega
      have hlt2 : ¬ (k : Int) < (k : Int) := by omega
      go_wp2_with fail
      go_ret
      refine ⟨_, _, rfl, ⟨⟨fun j hj => ?_, by rw [drs, ls_len]; exact Nat.le_refl _, fun e => by cases e⟩, fun _ => ⟨w0.heap.size, 0, _, _, rfl, hC.out.1.heap⟩⟩, hC.out.2.1, hC.out.2.2⟩
      rw [drs, ls_len] at hj
      refine ⟨w0.heap.size, 0, rfl, hC.out.1.lt, ?_⟩
      rw [Nat.zero_add, hC.out.1.cell hj, fll_all hj, drs, ls_at _ _ _ hj]

end Go.Proofs.YtpgnabmkfkcogaaGreatDoor

namespace Go.Proofs.YtpgnabmkfkcogaaGreatDoor
open Go.RowKit

/-- a circuit's label -/
def gtz (g : GatZ) : List Int := [g.kind, g.a, g.b]
def gtl (gs : List GatZ) (k : Nat) : List Int := ((gs.take k).map gtz).flatten
def lyz (gs : List GatZ) : List Int := (gs.length : Int) :: gtl gs gs.length
def lyl (lys : List (List GatZ)) (k : Nat) : List Int := ((lys.take k).map lyz).flatten
def lbz (p : Nat) (wide : Int) (lys : List (List GatZ)) (k : Nat) : List Int := [(p : Int), wide, (lys.length : Int)] ++ lyl lys k
theorem take_snoc {α : Type} (l : List α) (d : α) {k : Nat} (h : k < l.length) : l.take (k + 1) = l.take k ++ [l.getD k d] := by
  rw [List.take_add_one, List.getElem?_eq_getElem h, List.getD_eq_getElem?_getD, List.getElem?_eq_getElem h]
  rfl
theorem gtl_succ {gs : List GatZ} {k : Nat} (h : k < gs.length) : gtl gs (k + 1) = gtl gs k ++ [(gat gs k).kind, (gat gs k).a, (gat gs k).b] := by
  unfold gtl
  rw [take_snoc gs ⟨0, 0, 0⟩ h, List.map_append, List.flatten_append]
  simp [gtz, gat]
theorem lyl_succ {lys : List (List GatZ)} {k : Nat} (h : k < lys.length) : lyl lys (k + 1) = lyl lys k ++ ((lyt lys k).length : Int) :: gtl (lyt lys k) (lyt lys k).length := by
  unfold lyl
  rw [take_snoc lys [] h, List.map_append, List.flatten_append]
  simp [lyz, lyt]
theorem gtl_len {gs : List GatZ} : ∀ k, k ≤ gs.length → (gtl gs k).length = 3 * k
  | 0, _ => by simp [gtl]
  | k + 1, h => by rw [gtl_succ (by omega), List.length_append, gtl_len k (by omega)]; simp; omega
theorem lyl_len {wide : Int} {lys : List (List GatZ)} (hS : SzC wide lys) : ∀ k, k ≤ lys.length → (lyl lys k).length ≤ 193 * k
  | 0, _ => by simp [lyl]
  | k + 1, h => by
    have h1 := lyl_len hS k (by omega)
    have h2 := pow_6 (hS.bn (show k + 1 ≤ lys.length by omega)).2
    rw [lyl_succ (by omega), List.length_append, List.length_cons, gtl_len _ (Nat.le_refl _), (hS.own (show k < lys.length by omega)).1]
    omega
theorem gtl_fits {gs : List GatZ} (hB : GatB gs) : ∀ k, k ≤ gs.length → Fits (gtl gs k)
  | 0, _ => fun j hj => by simp [gtl] at hj
  | k + 1, h => by
    rw [gtl_succ (by omega)]
    obtain ⟨h1, h2, h3⟩ := hB k (by omega)
    exact fits_append (gtl_fits hB k (by omega)) (fits_cons h1 (fits_cons h2 (fits_cons h3 (fun j hj => by simp at hj))))
theorem lyl_fits {lys : List (List GatZ)} (hB : CirB lys) : ∀ k, k ≤ lys.length → Fits (lyl lys k)
  | 0, _ => fun j hj => by simp [lyl] at hj
  | k + 1, h => by
    rw [lyl_succ (by omega)]
    have := hB.lens k (by omega)
    exact fits_append (lyl_fits hB k (by omega)) (fits_cons ⟨by omega, by omega⟩ (gtl_fits (hB.fit k (by omega)) _ (Nat.le_refl _)))
theorem lbz_len {p : Nat} {wide : Int} {lys : List (List GatZ)} (hS : SzC wide lys) {k : Nat} (hk : k ≤ lys.length) : (lbz p wide lys k).length ≤ 1547 := by
  have := lyl_len hS k hk
  have := hS.2.1.2
  unfold lbz
  rw [List.length_append]
  simp
  omega
theorem lbz_fits {p : Nat} {wide : Int} {lys : List (List GatZ)} (hm : p ≤ 2147483647) (hS : SzC wide lys) (hB : CirB lys) {k : Nat} (hk : k ≤ lys.length) : Fits (lbz p wide lys k) := by
  have h1 := hS.1
  have h2 := hB.len
  exact fits_append (fits_cons ⟨by omega, by omega⟩ (fits_cons ⟨by omega, by omega⟩ (fits_cons ⟨by omega, by omega⟩ (fun j hj => by simp at hj)))) (lyl_fits hB k hk)

/-- where a chain is when a list is told, and a number drawn -/
def gan (q n : Nat) (D l : List Int) : List Int := digl q n (4 :: digl q n (3 :: (D ++ l)))
theorem dig_gan {q : Nat} (h3 : 3 ≤ q) (h4 : q ≤ 2147483647) (n : Nat) (D l : List Int) : Dig (gan q n D l) := dig_digl h3 h4 _ _
/-- .. when so many rounds are told -/
def gds (q n : Nat) (rs : List (List Int)) (D : List Int) : Nat → List Int
  | 0 => D
  | k + 1 => gan q n (gds q n rs D k) (rat rs k)
/-- what is drawn in them -/
def gxs (q n : Nat) (rs : List (List Int)) (D : List Int) (k : Nat) : List Int := ls (fun i => zat (gds q n rs D (i + 1)) 0) k
/-- where one is who goes down a circuit -/
structure GSt where
  D : List Int
  z : List Int
  c : Int
def gnx (q n m : Nat) (rs : List (List Int)) (line : List Int) (s : GSt) : GSt :=
  ⟨gan q n (gds q n rs s.D (2 * m)) line, onl q ((gxs q n rs s.D (2 * m)).take m) ((gxs q n rs s.D (2 * m)).drop m) (zat (gan q n (gds q n rs s.D (2 * m)) line) 0), atz q line (zat (gan q n (gds q n rs s.D (2 * m)) line) 0)⟩
/-- three deep -/
def rrt (rs : List (List (List Int))) (k : Nat) : List (List Int) := rs.getD k []
/-- where one is below so many layers -/
def gst (q n : Nat) (wide : Int) (lys : List (List GatZ)) (Rs : List (List (List Int))) (Ls : List (List Int)) (s0 : GSt) : Nat → GSt
  | 0 => s0
  | i + 1 => gnx q n (bnn wide lys (lys.length - 1 - i)) (rrt Rs i) (rat Ls i) (gst q n wide lys Rs Ls s0 i)
/-- where one begins -/
def gs0 (q n : Nat) (wide : Int) (lys : List (List GatZ)) (outs : List Int) : GSt :=
  ⟨drw q n (bnn wide lys lys.length) (digl q n (2 :: (lbz q wide lys lys.length ++ outs))), drs q n (bnn wide lys lys.length) (digl q n (2 :: (lbz q wide lys lys.length ++ outs))), Sum.ext (zat outs) (zat (drs q n (bnn wide lys lys.length) (digl q n (2 :: (lbz q wide lys lys.length ++ outs))))) (bnn wide lys lys.length) % (q : Int)⟩
theorem gxs_len (q n : Nat) (rs : List (List Int)) (D : List Int) (k : Nat) : (gxs q n rs D k).length = k := ls_len _ _
theorem onl_len (p : Nat) (x y : List Int) (t : Int) : (onl p x y t).length = x.length := ls_len _ _
theorem onl_fits {p : Nat} (h3 : 3 ≤ p) (hm : p ≤ 2147483647) (x y : List Int) (t : Int) : Fits (onl p x y t) := by
  intro j hj
  unfold onl at hj ⊢
  rw [ls_len] at hj
  rw [ls_at _ _ _ hj]
  have := emod_bounds (zat x j + t * (zat y j - zat x j)) p h3
  exact ⟨by omega, by omega⟩

end Go.Proofs.YtpgnabmkfkcogaaGreatDoor
