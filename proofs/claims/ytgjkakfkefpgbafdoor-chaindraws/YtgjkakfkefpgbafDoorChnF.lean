/- Package chain: New, Take, Draw, Draws, Place, Digest, Fork. -/
import Derived.Test.YtgjkakfkefpgbafDoorChnE
namespace Go.Proofs.YtgjkakfkefpgbafDoor
open Go.RowKit

theorem cell_alloc_at (w : World) (cs : Array Value) (t : TypeId) (i : Nat) (v : Value) (h : cs[i]? = some v) : (w.alloc (.cells cs t)).cell? ⟨w.heap.size, i, none⟩ = some v := by
  unfold World.cell?
  rw [show (w.alloc (.cells cs t)).heap[(⟨w.heap.size, i, none⟩ : Addr).block]? = some (.cells cs t (0, 0)) from heap_alloc_new w _]
  exact h
theorem lstR_2 {n0 : Nat} {w : World} {a b : Option Addr} {ca cb : Nat} {x y : List Int} (ha : Lst n0 w a ca x) (hb : Lst n0 w b cb y) (hn : n0 ≤ w.heap.size) : LstR (w.heap.size + 1) (w.alloc (.cells #[.slice a x.length ca, .slice b y.length cb] 22)) (some ⟨w.heap.size, 0, none⟩) 2 [x, y] := by
  have hbl : Below w.heap.size w (w.alloc (.cells #[.slice a x.length ca, .slice b y.length cb] 22)) := (Below.refl _ _).alloc (Nat.le_refl _) _
  refine ⟨fun k hk => ?_, Nat.le_refl _, fun h => by cases h⟩
  match k, (show k < 2 by simpa using hk) with
  | 0, _ => exact ⟨w.heap.size, 0, a, ca, rfl, by omega, cell_alloc_at w _ _ _ _ rfl, (ha.below (hbl.mono hn)).mono (by omega)⟩
  | 1, _ => exact ⟨w.heap.size, 0, b, cb, rfl, by omega, cell_alloc_at w _ _ _ _ rfl, (hb.below (hbl.mono hn)).mono (by omega)⟩
theorem lstR_3 {n0 : Nat} {w : World} {a b c : Option Addr} {ca cb cc : Nat} {x y z : List Int} (ha : Lst n0 w a ca x) (hb : Lst n0 w b cb y) (hc : Lst n0 w c cc z) (hn : n0 ≤ w.heap.size) : LstR (w.heap.size + 1) (w.alloc (.cells #[.slice a x.length ca, .slice b y.length cb, .slice c z.length cc] 22)) (some ⟨w.heap.size, 0, none⟩) 3 [x, y, z] := by
  have hbl : Below w.heap.size w (w.alloc (.cells #[.slice a x.length ca, .slice b y.length cb, .slice c z.length cc] 22)) := (Below.refl _ _).alloc (Nat.le_refl _) _
  refine ⟨fun k hk => ?_, Nat.le_refl _, fun h => by cases h⟩
  match k, (show k < 3 by simpa using hk) with
  | 0, _ => exact ⟨w.heap.size, 0, a, ca, rfl, by omega, cell_alloc_at w _ _ _ _ rfl, (ha.below (hbl.mono hn)).mono (by omega)⟩
  | 1, _ => exact ⟨w.heap.size, 0, b, cb, rfl, by omega, cell_alloc_at w _ _ _ _ rfl, (hb.below (hbl.mono hn)).mono (by omega)⟩
  | 2, _ => exact ⟨w.heap.size, 0, c, cc, rfl, by omega, cell_alloc_at w _ _ _ _ rfl, (hc.below (hbl.mono hn)).mono (by omega)⟩
/-- a list of one number, new -/
theorem lst_one (w : World) (x : Int) : Lst (w.alloc (.cells #[.int .i64 x] 3)).heap.size (w.alloc (.cells #[.int .i64 x] 3)) (some ⟨w.heap.size, 0, none⟩) 1 [x] := by
  refine ⟨fun k hk => ⟨w.heap.size, 0, rfl, by simp, ?_⟩, Nat.le_refl _, fun h => by cases h⟩
  obtain rfl : k = 0 := by simp at hk; omega
  exact cell_alloc_at w _ _ _ _ rfl
theorem fits_one {x : Int} (h : -9223372036854775808 ≤ x ∧ x ≤ 9223372036854775807) : Fits [x] := fits_cons h (fun j hj => by simp at hj)

set_option maxRecDepth 100000 in
set_option maxHeartbeats 1000000 in
theorem cnew_any (N0 q n d s b cap : Nat) (a : Option Addr) (l : List Int) (w : World) (ok : SpgOk q n d) (hs : SpgAt w s b q n d) (hN : N0 ≤ w.heap.size) (hsN : s < N0) (hbN : b < N0) (hlen : l.length ≤ 17592186043904) (hfl : Fits l) (hl : Lst w.heap.size w a cap l) :
    Calls Tryd.prog 5 #[.pointer (some ⟨s, 0, none⟩), .slice a l.length cap] w fun e w' => ∃ c, e = .returned (.pointer (some ⟨c, 0, none⟩)) ∧ w.heap.size ≤ c ∧ PCh N0 q n w' c (digl q n (2 :: l)) ∧ Below w.heap.size w w' := by
  obtain ⟨W0, hW0⟩ : ∃ W0, W0 = w.alloc (.cells #[.pointer (some ⟨s, 0, none⟩), .int .i64 0, .int .i64 0, .int .i64 0, .int .i64 0] 53) := ⟨_, rfl⟩
  obtain ⟨W1, hW1⟩ : ∃ W1, W1 = W0.alloc (.cells #[.int .i64 2] 3) := ⟨_, rfl⟩
  obtain ⟨W2, hW2⟩ : ∃ W2, W2 = W1.alloc (.cells #[.slice (some ⟨W0.heap.size, 0, none⟩) 1 1, .slice a l.length cap] 22) := ⟨_, rfl⟩
  have hb0 : Below w.heap.size w W0 := by rw [hW0]; exact (Below.refl _ _).alloc (Nat.le_refl _) _
  have hb1 : Below w.heap.size w W1 := by rw [hW1]; exact hb0.alloc hb0.size _
  have hb2 : Below w.heap.size w W2 := by rw [hW2]; exact hb1.alloc hb1.size _
  have e0 : W0.heap.size = w.heap.size + 1 := by rw [hW0]; simp
  have e1 : W1.heap.size = w.heap.size + 2 := by rw [hW1]; simp [e0]
  have e2 : W2.heap.size = w.heap.size + 3 := by rw [hW2]; simp [e1]
  have hP0 : PCh N0 q n W0 w.heap.size [0, 0, 0, 0] := ⟨s, b, d, ok, hs.below hb0 hs.lt hs.ltb, hsN, hbN, hN, by rw [hW0]; exact heap_alloc_new w _⟩
  have hP2 : PCh N0 q n W2 w.heap.size [0, 0, 0, 0] := by
    refine (hP0.below (w' := W1) ?_).below ?_
    · rw [hW1]; exact (Below.refl _ _).alloc (Nat.le_refl _) _
    · rw [hW2]; exact (Below.refl _ _).alloc (Nat.le_refl _) _
  have hl1 : Lst W1.heap.size W1 (some ⟨W0.heap.size, 0, none⟩) 1 [2] := by rw [hW1]; exact lst_one W0 2
  have hR : LstR W2.heap.size W2 (some ⟨W1.heap.size, 0, none⟩) 2 [[2], l] := by
    have := lstR_2 hl1 ((hl.below hb1).mono hb1.size) (Nat.le_refl _)
    rw [e2, show w.heap.size + 3 = W1.heap.size + 1 by omega, hW2]
    exact this
  have HBC := hid (become_any N0 q n w.heap.size 2 (some ⟨W1.heap.size, 0, none⟩) [[2], l] [0, 0, 0, 0] W2 hP2 (by simp) (by simp; omega) (by simp) (by simpa using fits_cons (x := 2) (by omega) hfl) hR)
  rw [show ([[2], l] : List (List Int)).flatten = 2 :: l from by simp] at HBC
  have HB2 := hid hb2
  clear hP0 hP2 hl1 hR hs hl hfl ok hb0 hb1 hb2
  rw [e1] at HBC
  rw [hW2, hW1, e0, hW0] at HBC
  go_enter Tryd.func5, Tryd.ntmps5
  go_wp2_with fail
  refine HBC.out.mono ?_
  rintro e w1 ⟨rfl, hP, hg⟩
  have HE : Hid (PCh N0 q n w1 w.heap.size (digl q n (2 :: l)) ∧ Below w.heap.size w w1) := ⟨hP, HB2.out.trans (by rw [hW2, hW1, e0, hW0]; exact gb_to hg (Nat.le_refl _) (by simp; omega))⟩
  clear hP hg HBC
  go_wp2_with fail
  go_ret
  exact ⟨w.heap.size, rfl, Nat.le_refl _, HE.out.1, HE.out.2⟩

set_option maxRecDepth 100000 in
set_option maxHeartbeats 1000000 in
theorem ctake_any (N0 q n c cap : Nat) (a : Option Addr) (l D : List Int) (w : World) (hP : PCh N0 q n w c D) (hD : Dig D) (hlen : l.length ≤ 17592186043904) (hfl : Fits l) (hl : Lst w.heap.size w a cap l) :
    Calls Tryd.prog 17 #[.pointer (some ⟨c, 0, none⟩), .slice a l.length cap] w fun e w' => e = .returned (.tuple #[]) ∧ PCh N0 q n w' c (digl q n (3 :: (D ++ l))) ∧ w.grownBy w' (some c) := by
  have hD4 := hD.1
  obtain ⟨W1, hW1⟩ : ∃ W1, W1 = w.alloc (.cells #[.int .i64 3] 3) := ⟨_, rfl⟩
  obtain ⟨W2, hW2⟩ : ∃ W2, W2 = W1.alloc (.cells #[.slice (some ⟨w.heap.size, 0, none⟩) 1 1, .slice (some ⟨c, 1, none⟩) 4 4, .slice a l.length cap] 22) := ⟨_, rfl⟩
  have hb1 : Below w.heap.size w W1 := by rw [hW1]; exact (Below.refl _ _).alloc (Nat.le_refl _) _
  have hb2 : Below w.heap.size w W2 := by rw [hW2]; exact hb1.alloc hb1.size _
  have e1 : W1.heap.size = w.heap.size + 1 := by rw [hW1]; simp
  have e2 : W2.heap.size = w.heap.size + 2 := by rw [hW2]; simp [e1]
  have hl1 : Lst W1.heap.size W1 (some ⟨w.heap.size, 0, none⟩) 1 [3] := by rw [hW1]; exact lst_one w 3
  have hld : Lst w.heap.size w (some ⟨c, 1, none⟩) 4 D := by
    obtain ⟨s, b, d, _, _, _, _, _, hblk⟩ := hP
    exact five_lst hD4 hblk
  have hR : LstR W2.heap.size W2 (some ⟨W1.heap.size, 0, none⟩) 3 [[3], D, l] := by
    have := lstR_3 hl1 ((hld.below hb1).mono hb1.size) ((hl.below hb1).mono hb1.size) (Nat.le_refl _)
    rw [hD4] at this
    rw [e2, show w.heap.size + 2 = W1.heap.size + 1 by omega, hW2]
    exact this
  have HBC := hid (become_any N0 q n c 3 (some ⟨W1.heap.size, 0, none⟩) [[3], D, l] D W2 (hP.below hb2) (by simp) (by simp; omega) (by simp) (by simpa using fits_cons (x := 3) (by omega) (fits_append hD.2 hfl)) hR)
  rw [show ([[3], D, l] : List (List Int)).flatten = 3 :: (D ++ l) from by simp] at HBC
  have HB2 := hid hb2
  clear hl1 hR hl hfl hb1 hb2 hld hP hD hD4
  rw [e1, hW2, hW1] at HBC
  go_enter Tryd.func17, Tryd.ntmps17
  go_wp2_with fail
  refine HBC.out.mono ?_
  rintro e w1 ⟨rfl, hP, hg⟩
  have HE : Hid (PCh N0 q n w1 c (digl q n (3 :: (D ++ l))) ∧ w.grownBy w1 (some c)) := ⟨hP, gb_trans (gb_below HB2.out) (by rw [hW2, hW1]; exact hg)⟩
  clear hP hg HBC
  go_wp2_with fail
  go_end0
  exact ⟨rfl, HE.out⟩

set_option maxRecDepth 100000 in
set_option maxHeartbeats 1000000 in
theorem cdraw_any (N0 q n c : Nat) (D : List Int) (w : World) (hP : PCh N0 q n w c D) (hD : Dig D) :
    Calls Tryd.prog 18 #[.pointer (some ⟨c, 0, none⟩)] w fun e w' => e = .returned (.int .i64 (zat (digl q n (4 :: D)) 0)) ∧ PCh N0 q n w' c (digl q n (4 :: D)) ∧ w.grownBy w' (some c) := by
  have hD4 := hD.1
  obtain ⟨W1, hW1⟩ : ∃ W1, W1 = w.alloc (.cells #[.int .i64 4] 3) := ⟨_, rfl⟩
  obtain ⟨W2, hW2⟩ : ∃ W2, W2 = W1.alloc (.cells #[.slice (some ⟨w.heap.size, 0, none⟩) 1 1, .slice (some ⟨c, 1, none⟩) 4 4] 22) := ⟨_, rfl⟩
  have hb1 : Below w.heap.size w W1 := by rw [hW1]; exact (Below.refl _ _).alloc (Nat.le_refl _) _
  have hb2 : Below w.heap.size w W2 := by rw [hW2]; exact hb1.alloc hb1.size _
  have e1 : W1.heap.size = w.heap.size + 1 := by rw [hW1]; simp
  have e2 : W2.heap.size = w.heap.size + 2 := by rw [hW2]; simp [e1]
  have hl1 : Lst W1.heap.size W1 (some ⟨w.heap.size, 0, none⟩) 1 [4] := by rw [hW1]; exact lst_one w 4
  have hld : Lst w.heap.size w (some ⟨c, 1, none⟩) 4 D := by
    obtain ⟨s, b, d, _, _, _, _, _, hblk⟩ := hP
    exact five_lst hD4 hblk
  have hR : LstR W2.heap.size W2 (some ⟨W1.heap.size, 0, none⟩) 2 [[4], D] := by
    have := lstR_2 hl1 ((hld.below hb1).mono hb1.size) (Nat.le_refl _)
    rw [hD4] at this
    rw [e2, show w.heap.size + 2 = W1.heap.size + 1 by omega, hW2]
    exact this
  have HBC := hid (become_any N0 q n c 2 (some ⟨W1.heap.size, 0, none⟩) [[4], D] D W2 (hP.below hb2) (by simp) (by simp; omega) (by simp) (by simpa using fits_cons (x := 4) (by omega) hD.2) hR)
  rw [show ([[4], D] : List (List Int)).flatten = 4 :: D from by simp] at HBC
  have HB2 := hid hb2
  clear hl1 hR hb1 hb2 hld hP hD hD4
  rw [e1, hW2, hW1] at HBC
  go_enter Tryd.func18, Tryd.ntmps18
  go_wp2_with fail
  refine HBC.out.mono ?_
  rintro e w1 ⟨rfl, hP, hg⟩
  have HE : Hid (PCh N0 q n w1 c (digl q n (4 :: D)) ∧ w.grownBy w1 (some c)) := ⟨hP, gb_trans (gb_below HB2.out) (by rw [hW2, hW1]; exact hg)⟩
  obtain ⟨s, b, d, _, _, _, _, _, hblk⟩ := hP
  have c1 := five1 hblk
  clear hblk hg HBC
  obtain ⟨z, hz⟩ : ∃ z, z = zat (digl q n (4 :: D)) 0 := ⟨_, rfl⟩
  rw [← hz] at c1
  have HZ := hid hz
  clear hz
  go_wp2_with fail
  go_ret
  exact ⟨by rw [← HZ.out]; rfl, HE.out⟩

set_option maxRecDepth 100000 in
theorem csize_any (N : Int) (w : World) : Calls Tryd.prog 36 #[.int .i64 N] w fun e w' => e = .returned (.bool (decide (1 ≤ N ∧ N ≤ 65536))) ∧ w' = w := by
  by_cases t1 : 1 ≤ N
  · by_cases t2 : N ≤ 65536
    · have t : decide (1 ≤ N ∧ N ≤ 65536) = true := by simp [t1, t2]
      have t1' : N ≥ 1 := t1
      rw [t]
      go_enter Tryd.func36, Tryd.ntmps36
      go_wp2_with fail
      go_ret
      exact ⟨rfl, rfl⟩
    · have t : decide (1 ≤ N ∧ N ≤ 65536) = false := by simp [t2]
      have t1' : N ≥ 1 := t1
      rw [t]
      go_enter Tryd.func36, Tryd.ntmps36
      go_wp2_with fail
      go_ret
      exact ⟨rfl, rfl⟩
  · have t : decide (1 ≤ N ∧ N ≤ 65536) = false := by simp [t1]
    have t1' : ¬ N ≥ 1 := t1
    rw [t]
    go_enter Tryd.func36, Tryd.ntmps36
    go_wp2_with fail
    go_ret
    exact ⟨rfl, rfl⟩

set_option maxRecDepth 100000 in
set_option maxHeartbeats 1000000 in
theorem cplace_any (N0 q n c : Nat) (N : Int) (D : List Int) (w : World) (hP : PCh N0 q n w c D) (hD : Dig D) (hN1 : 1 ≤ N) (hN2 : N ≤ 65536) :
    Calls Tryd.prog 21 #[.pointer (some ⟨c, 0, none⟩), .int .i64 N] w fun e w' => e = .returned (.int .i64 ((zat (digl q n (4 :: D)) 0 * q + zat (digl q n (4 :: D)) 1) % N)) ∧ PCh N0 q n w' c (digl q n (4 :: D)) ∧ w.grownBy w' (some c) := by
  have HDR := hid (cdraw_any N0 q n c D w hP hD)
  have HSZ := hid (csize_any N w)
  rw [show decide (1 ≤ N ∧ N ≤ 65536) = true from by simp [hN1, hN2]] at HSZ
  have h4 : q ≤ 2147483647 := by obtain ⟨_, _, _, ok, _⟩ := hP; exact ok.hm
  have h3 : 23 ≤ q := by obtain ⟨_, _, _, ok, _⟩ := hP; exact ok.h23
  have hbd : ∀ j, j < 4 → 0 ≤ zat (digl q n (4 :: D)) j ∧ zat (digl q n (4 :: D)) j < (q : Int) := fun j hj => by
    unfold digl
    rw [ls_at _ _ _ hj]
    have := hst_bounds q n (pdf q (zat (4 :: D)) (4 :: D).length) ((4 :: D).length / 4 + 1) j (by omega)
    omega
  have hz0 := hbd 0 (by omega)
  have hz1 := hbd 1 (by omega)
  clear hP hD hbd
  obtain ⟨x, hx⟩ : ∃ x, x = zat (digl q n (4 :: D)) 0 := ⟨_, rfl⟩
  obtain ⟨y, hy⟩ : ∃ y, y = zat (digl q n (4 :: D)) 1 := ⟨_, rfl⟩
  rw [← hx] at hz0 HDR ⊢
  rw [← hy] at hz1 ⊢
  have HY := hid hy
  clear hx hy
  go_enter Tryd.func21, Tryd.ntmps21
  go_wp2_with fail
  refine HSZ.out.mono ?_
  rintro e w0 ⟨rfl, rfl⟩
  go_wp2_with fail
  refine HDR.out.mono ?_
  rintro e w1 ⟨rfl, hP, hg⟩
  have HE : Hid (PCh N0 q n w1 c (digl q n (4 :: D)) ∧ w0.grownBy w1 (some c)) := ⟨hP, hg⟩
  obtain ⟨s, b, d, _, hs, _, _, _, hblk⟩ := hP
  have c0 := five0 hblk
  have c2 := five2 hblk
  have HFI : Hid (∀ m, Calls Tryd.prog 37 #[.pointer (some ⟨s, 0, none⟩)] (w1.drewN m) fun e w' => e = .returned (.pointer (some ⟨b, 0, none⟩)) ∧ w' = w1.drewN m) := fun m => sfield_any q n d b s _ (hs.below (below_drewN (Below.refl _ _) m) hs.lt hs.ltb)
  have HPI : Hid (∀ m, Calls Tryd.prog 26 #[.pointer (some ⟨b, 0, none⟩)] (w1.drewN m) fun e w' => e = .returned (.int .i64 q) ∧ w' = w1.drewN m) := fun m => p_any q b _ (hs.below (below_drewN (Below.refl _ _) m) hs.lt hs.ltb).p
  clear hg HDR HSZ hblk hs
  rw [← HY.out] at c2
  have hx2 : x * (q : Int) ≤ 2147483647 * 2147483647 := Int.mul_le_mul (by omega) (by omega) (by omega) (by omega)
  have hx0 : 0 ≤ x * (q : Int) := Int.mul_nonneg hz0.1 (by omega)
  obtain ⟨m, hm⟩ : ∃ m, m = x * (q : Int) := ⟨_, rfl⟩
  have HM := hid hm
  have hm2 := hm.symm
  rw [← hm] at hx2 hx0
  clear hm
  have hw1 : IntKind.i64.wrap m = m := by rw [IntKind.wrap_i64]; omega
  have hw2 : IntKind.i64.wrap (m + y) = m + y := by rw [IntKind.wrap_i64]; omega
  have hN0 : ¬ N = 0 := by omega
  have hte : (m + y).tmod N = (m + y) % N := Int.tmod_eq_emod_of_nonneg (by omega)
  have hw3 : IntKind.i64.wrap ((m + y) % N) = (m + y) % N := by
    rw [IntKind.wrap_i64]
    have := Int.emod_nonneg (m + y) hN0
    have := Int.emod_lt_of_pos (m + y) (show 0 < N by omega)
    omega
  go_wp2_with fail
  go_quiet (first
    | (go_at_call 37; exact Calls.quiet_of_same (HFI.out _))
    | (go_at_call 26; exact Calls.quiet_of_same (HPI.out _)))
  go_wp2_with fail
  go_ret
  exact ⟨by rw [← HM.out]; rfl, HE.out.1.below (below_drewN (Below.refl _ _) _), gb_trans HE.out.2 (gb_below (below_drewN (Below.refl _ _) _))⟩

set_option maxRecDepth 100000 in
theorem cplace_no (c : Nat) (N : Int) (w : World) (hN : N < 1 ∨ 65536 < N) :
    Calls Tryd.prog 21 #[.pointer (some ⟨c, 0, none⟩), .int .i64 N] w fun e w' => e = .returned (.int .i64 0) ∧ Below w.heap.size w w' := by
  have HSZ := hid (csize_any N w)
  rw [show decide (1 ≤ N ∧ N ≤ 65536) = false from by simp; omega] at HSZ
  clear hN
  go_enter Tryd.func21, Tryd.ntmps21
  go_wp2_with fail
  refine HSZ.out.mono ?_
  rintro e w0 ⟨rfl, rfl⟩
  go_wp2_with fail
  go_ret
  exact ⟨rfl, Below.refl _ _⟩

set_option maxRecDepth 100000 in
theorem cdraws_no (c : Nat) (N : Int) (w : World) (hN : N < 1 ∨ 65536 < N) :
    Calls Tryd.prog 20 #[.pointer (some ⟨c, 0, none⟩), .int .i64 N] w fun e w' => ∃ a cp, e = .returned (.slice a 0 cp) ∧ Below w.heap.size w w' := by
  have HSZ := hid (csize_any N w)
  rw [show decide (1 ≤ N ∧ N ≤ 65536) = false from by simp; omega] at HSZ
  clear hN
  go_enter Tryd.func20, Tryd.ntmps20
  go_wp2_with fail
  refine HSZ.out.mono ?_
  rintro e w0 ⟨rfl, rfl⟩
  go_wp2_with fail
  go_ret
  exact ⟨none, 0, rfl, Below.refl _ _⟩

set_option maxRecDepth 100000 in
set_option maxHeartbeats 1000000 in
theorem cdraws_any (N0 q n c N : Nat) (D : List Int) (w : World) (hP : PCh N0 q n w c D) (hD : Dig D) (hN1 : 1 ≤ N) (hN2 : N ≤ 65536) :
    Calls Tryd.prog 20 #[.pointer (some ⟨c, 0, none⟩), .int .i64 (N : Int)] w fun e w' => ∃ a cp, e = .returned (.slice a N cp) ∧ NumL w' a cp (drs q n N D) ∧ PCh N0 q n w' c (drw q n N D) ∧ w.grownBy w' (some c) := by
  have HSZ := hid (csize_any (N : Int) w)
  rw [show decide (1 ≤ (N : Int) ∧ (N : Int) ≤ 65536) = true from by simp; omega] at HSZ
  have h4 : q ≤ 2147483647 := by obtain ⟨_, _, _, ok, _⟩ := hP; exact ok.hm
  have h3 : 23 ≤ q := by obtain ⟨_, _, _, ok, _⟩ := hP; exact ok.h23
  have hcl := hP.lt
  have HP := hid hP
  have HD := hid hD
  clear hP hD
  have hmk2 := fun w => run_make_row' (P := Tryd.prog) 22 3 (.int .i64 0) 8 Tryd.underlying22 Tryd.infoInt rfl .i64 .i64 N (by omega) (by omega) w
  have HR0 : Hid (ArrI (w.alloc (.cells (madeCells #[.int .i64 0] N) 3)) w.heap.size 3 N (fll (fun j => zat (drw q n (j + 1) D) 0) (fun _ => 0) 0)) := by
    unfold Hid
    rw [fll_zero]
    exact World.rowIs_made w _ N _
  have HB0 : Hid (Below w.heap.size w (w.alloc (.cells (madeCells #[.int .i64 0] N) 3))) := (Below.refl _ _).alloc (Nat.le_refl _) _
  go_enter Tryd.func20, Tryd.ntmps20
  go_wp2_with fail
  refine HSZ.out.mono ?_
  rintro e w0 ⟨rfl, rfl⟩
  clear HSZ
  go_wp2_with fail
  go_loopw [14] (fun iv wr => ∃ k : Nat, k ≤ N ∧ iv = .int .i64 k ∧ Hid (ArrI wr w0.heap.size 3 N (fll (fun j => zat (drw q n (j + 1) D) 0) (fun _ => 0) k) ∧ PCh N0 q n wr c (drw q n k D) ∧ w0.grownBy wr (some c)))
    (fun iv _ => N - (intOf iv).toNat)
  case atStart => exact ⟨0, by omega, rfl, HR0.out, HP.out.below HB0.out, gb_below HB0.out⟩
  case round =>
    obtain ⟨k, hk, rfl, hC⟩ := hrel
    by_cases hlt : k < N
    · have hlt2 : (k : Int) < (N : Int) := by omega
      have hks : IntKind.i64.wrap ((k : Int) + 1) = (k : Int) + 1 := by rw [IntKind.wrap_i64]; omega
      have HDR := hid (cdraw_any N0 q n c (drw q n k D) wr hC.out.2.1 (dig_drw (by omega) h4 n HD.out k))
      obtain ⟨x, hx⟩ : ∃ x, x = zat (digl q n (4 :: drw q n k D)) 0 := ⟨_, rfl⟩
      rw [← hx] at HDR
      have HX : Hid (x = (fun j => zat (drw q n (j + 1) D) 0) k) := hx
      clear hx
      go_wp2_with fail
      refine HDR.out.mono ?_
      rintro e w2 ⟨rfl, hP2, hg2⟩
      have HA2 := hid (hC.out.1.block (gb_blk hg2 hC.out.1.lt (by omega)))
      have HG2 := hid (gb_trans hC.out.2.2 hg2)
      have HP2 := hid hP2
      have hc2 := HA2.out.cell hlt
      have hf2 := HA2.out.frozen k
      rw [fll_at] at hc2
      clear HDR hP2 hg2 hC
      have HE : Hid (ArrI (w2.setCell ⟨w0.heap.size, k, none⟩ (.int .i64 x)) w0.heap.size 3 N (fll (fun j => zat (drw q n (j + 1) D) 0) (fun _ => 0) (k + 1)) ∧ PCh N0 q n (w2.setCell ⟨w0.heap.size, k, none⟩ (.int .i64 x)) c (drw q n (k + 1) D) ∧ w0.grownBy (w2.setCell ⟨w0.heap.size, k, none⟩ (.int .i64 x)) (some c)) := by
        have hbs : Below w0.heap.size w2 (w2.setCell ⟨w0.heap.size, k, none⟩ (.int .i64 x)) := (Below.refl _ _).setCell (p := ⟨w0.heap.size, k, none⟩) (Nat.le_refl _) _
        refine ⟨?_, HP2.out.blocks (hbs.block c hcl) (fun b hb => hbs.block b (by have := HP2.out.ge; omega)), ?_⟩
        · rw [HX.out]; exact HA2.out.next
        · refine ⟨HG2.out.os, HG2.out.tape, HG2.out.output, by have := HG2.out.size; simpa [World.setCell] using this, fun i hi hg => (hbs.block i hi).trans (HG2.out.block i hi hg)⟩
      clear HA2 HP2 HG2
      go_wp2_with fail
      go_roundw
      case rel => exact ⟨k + 1, by omega, by go_num, HE⟩
      case measure => simp [intOf]; omega
    · obtain rfl : k = N := by omega
      have hlt2 : ¬ (k : Int) < (k : Int) := by omega
      go_wp2_with fail
      go_ret
      refine ⟨_, _, rfl, ⟨⟨fun j hj => ?_, by rw [drs, ls_len]; exact Nat.le_refl _, fun e => by cases e⟩, fun _ => ⟨w0.heap.size, 0, _, _, rfl, hC.out.1.heap⟩⟩, hC.out.2.1, hC.out.2.2⟩
      rw [drs, ls_len] at hj
      refine ⟨w0.heap.size, 0, rfl, hC.out.1.lt, ?_⟩
      rw [Nat.zero_add, hC.out.1.cell hj, fll_all hj, drs, ls_at _ _ _ hj]

set_option maxRecDepth 100000 in
set_option maxHeartbeats 1000000 in
theorem clone_own (a : Option Addr) (cap : Nat) (zs : List Int) (w : World) (h0 : 0 < zs.length) (hlen : zs.length ≤ 17592186044416) (hl : Lst w.heap.size w a cap zs) :
    Calls Tryd.prog 23 #[.slice a zs.length cap] w fun e w' => ∃ v, e = .returned v ∧ w'.ownsRow w.heap.size 3 1 v zs.length (zs.map (Value.int .i64)) ∧ Below w.heap.size w w' := by
  obtain ⟨b, off, rfl, _, _⟩ := hl.row 0 h0
  have hown : (w.alloc (.cells #[] 3)).ownsRow w.heap.size 3 1 (.slice (some ⟨w.heap.size, 0, none⟩) 0 0) ([] : List Int).length (([] : List Int).map (Value.int .i64)) := World.ownsRow_made (size := 1) w #[] 0 (Nat.le_refl _) (by unfold maxLen; omega) (by simp)
  have hb0 : Below w.heap.size w (w.alloc (.cells #[] 3)) := (Below.refl _ _).alloc (Nat.le_refl _) _
  have HL := hid (hl.below hb0)
  have HO := hid hown
  have HB := hid hb0
  have q22 : ∀ (w : World) (a : Option Addr) (n c n' c' : Nat), (binOp .eql 22 (.slice a n c) (.slice none n' c')).run Tryd.prog w = .ok (.bool a.isNone) w := fun w a n c n' c' => Lib.run_eql_slice_nil w _ _ a n c n' c' Tryd.underlying22
  clear hl hown hb0
  go_enter Tryd.func23, Tryd.ntmps23
  go_wp2_with (at_builtin; refine wpList_appendL (w.alloc (.cells #[] 3)) w.heap.size w.heap.size rfl _ _ rfl _ rfl [] zs HO.out (some ⟨b, off, none⟩) cap rfl (by simpa using hlen) HB.out.size HL.out ?_)
  intro v' w2 hown2 hb2
  have HE : Hid (w2.ownsRow w.heap.size 3 1 v' zs.length (zs.map (Value.int .i64)) ∧ Below w.heap.size w w2) := ⟨hown2, HB.out.trans hb2⟩
  clear hown2 hb2 HO HB HL
  go_wp2_with fail
  go_ret
  exact ⟨_, rfl, HE.out⟩

set_option maxRecDepth 100000 in
set_option maxHeartbeats 1000000 in
theorem spoil_four (g cap : Nat) (cur : Array Value) (w : World) (hb : w.heap[g]? = some (.cells cur 3 (0, 0))) (hc : 4 ≤ cap) (hm : cap ≤ maxLen) (hs : cur.size = cap) :
    Calls Tryd.prog 11 #[.slice (some ⟨g, 0, none⟩) 4 cap] w fun e w' => e = .returned (.tuple #[]) ∧ w.grownBy w' (some g) := by
  obtain ⟨i0, hi, hz0, hz1, hz2⟩ := info_parts Tryd.infoInt
  have hgl : g < w.heap.size := (Array.getElem?_eq_some_iff.1 hb).1
  have HI : Hid (w.heap[g]? = some (.cells cur 3 (0, 0)) ∧ cur.size = cap) := ⟨hb, hs⟩
  have HM := hid hm
  clear hb hs hm
  go_enter Tryd.func11, Tryd.ntmps11
  go_wp2_with fail
  go_loopw [2] (fun iv wr => ∃ (k : Nat) (o : Array Value), k ≤ 4 ∧ iv = .int .i64 k ∧ Hid (wr.heap[g]? = some (.cells o 3 (0, 0)) ∧ o.size = cap) ∧ Hid (w.grownBy wr (some g))) (fun iv _ => 4 - (intOf iv).toNat)
  case atStart => exact ⟨0, cur, by omega, rfl, HI, gb_refl _ _⟩
  case round =>
    obtain ⟨k, o, hk, rfl, hro, hbel⟩ := hrel
    by_cases hlt : k < 4
    · have hlt2 : (k : Int) < 4 := by omega
      have hks : IntKind.i64.wrap ((k : Int) + 1) = (k : Int) + 1 := by rw [IntKind.wrap_i64]; omega
      have hko : k < o.size := by rw [hro.out.2]; omega
      have hcx : wr.cell? ⟨g, k, none⟩ = some o[k] := by simp [World.cell?, hro.out.1, hko]
      have hf : wr.frozen? ⟨g, k, none⟩ = false := by simp [World.frozen?, hro.out.1]
      have HR : Hid ((wr.setCell ⟨g, k, none⟩ (.int .i64 (-77))).heap[g]? = some (.cells (o.setIfInBounds k (.int .i64 (-77))) 3 (0, 0)) ∧ (o.setIfInBounds k (.int .i64 (-77))).size = cap) := by
        refine ⟨?_, by rw [Array.size_setIfInBounds]; exact hro.out.2⟩
        rw [setCell_eq_setRow wr g k o _ (0, 0) _ hro.out.1, setRow_heap wr g o _ _ _ hro.out.1]
      have HB := hid (gb_setCell hbel.out k (.int .i64 (-77)))
      clear hro hbel
      go_wp2_with fail
      go_roundw
      case rel => exact ⟨k + 1, _, by omega, by go_num, HR, HB⟩
      case measure => simp [intOf]; omega
    · have hlt2 : ¬ (k : Int) < 4 := by omega
      have hown : wr.ownsRow g 3 1 (.slice (some ⟨g, 0, none⟩) 4 cap) 4 (o.toList.take 4) := by
        refine ⟨?_, .inr ⟨g, cap, o, rfl, Nat.le_refl _, hro.out.1, hc, HM.out, by rw [hro.out.2]; omega, by simp⟩⟩
        rw [List.length_take, Array.length_toList, hro.out.2]
        omega
      have hsz := hbel.out.size
      go_wp2_with (at_builtin; refine wpList_append_own _ rfl _ _ 22 rfl g 3 i0 (.int .i64 0) 1 8 Tryd.underlying22 hi hz0 hz1 hz2 rfl (by decide) _ _ _ rfl (hown.alloc _) ⟨wr.heap.size, 0, none⟩ 2 2 [.int .i64 (-78), .int .i64 (-79)] rfl rfl ?c1 ?c2 ?c3 ?c4 ?c5 ?_)
      case c2 => first | (exact ⟨rfl, rfl⟩) | (intro u hu; simp at hu; rcases hu with rfl | rfl <;> rfl)
      case c3 => unfold maxLen; omega
      case c5 => first | omega | (simp; omega)
      intro v' w2 hown2 hgrow _
      have HB : Hid (w.grownBy w2 (some g)) := gb_trans hbel.out (gb_trans (gb_below ((Below.refl _ _).alloc (Nat.le_refl _) _)) hgrow)
      clear hown2 hgrow hown
      go_wp2_with fail
      go_end0
      exact ⟨rfl, HB.out⟩

set_option maxRecDepth 100000 in
set_option maxHeartbeats 1000000 in
theorem cdigest_any (N0 q n c : Nat) (D : List Int) (w : World) (hP : PCh N0 q n w c D) (hD : Dig D) :
    Calls Tryd.prog 9 #[.pointer (some ⟨c, 0, none⟩)] w fun e w' => ∃ g N, e = .returned (.slice (some ⟨g, 0, none⟩) 4 N) ∧ w.heap.size ≤ g ∧ RowB w'.heap.size w' (some ⟨g, 0, none⟩) D ∧ Below w.heap.size w w' ∧
      ∀ W' : World, W'.heap[g]? = w'.heap[g]? → Calls Tryd.prog 11 #[.slice (some ⟨g, 0, none⟩) 4 N] W' fun e w'' => e = .returned (.tuple #[]) ∧ W'.grownBy w'' (some g) := by
  have hD4 := hD.1
  obtain ⟨s, b, d, _, _, _, _, _, hblk⟩ := hP
  have HCL := hid (clone_own (some ⟨c, 1, none⟩) 4 D w (by omega) (by omega) (five_lst hD4 hblk))
  rw [hD4] at HCL
  clear hblk hD
  go_enter Tryd.func9, Tryd.ntmps9
  go_wp2_with fail
  refine HCL.out.mono ?_
  rintro e w1 ⟨v, rfl, hown, hb⟩
  have hown4 : w1.ownsRow w.heap.size 3 1 v D.length (D.map (Value.int .i64)) := by rw [hD4]; exact hown
  obtain ⟨a2, c2, hv2, hl2⟩ := lst_of_owns hown4
  rw [hD4] at hv2
  rcases hown.2 with ⟨_, h0⟩ | ⟨g, cap, cur, rfl, hbg, hgc, hn, hm, hs, _⟩
  · omega
  · injection hv2 with e1 _ e3
    subst e1
    subst e3
    have HE : Hid (w.heap.size ≤ g ∧ RowB w1.heap.size w1 (some ⟨g, 0, none⟩) D ∧ Below w.heap.size w w1 ∧ ∀ W' : World, W'.heap[g]? = w1.heap[g]? → Calls Tryd.prog 11 #[.slice (some ⟨g, 0, none⟩) 4 cap] W' fun e w'' => e = .returned (.tuple #[]) ∧ W'.grownBy w'' (some g)) := ⟨hbg, hl2.row, hb, fun W' h => spoil_four g cap cur W' (h.trans hgc) hn hm (by omega)⟩
    clear hown hown4 hl2 hb hbg hgc hn hm hs HCL
    go_wp2_with fail
    go_ret
    exact ⟨g, cap, rfl, HE.out⟩

set_option maxRecDepth 100000 in
set_option maxHeartbeats 1000000 in
theorem cfork_any (N0 q n c : Nat) (D : List Int) (w : World) (hP : PCh N0 q n w c D) :
    Calls Tryd.prog 7 #[.pointer (some ⟨c, 0, none⟩)] w fun e w' => ∃ c', e = .returned (.pointer (some ⟨c', 0, none⟩)) ∧ w.heap.size ≤ c' ∧ PCh N0 q n w' c' D ∧ Below w.heap.size w w' := by
  have hcl := hP.lt
  have HP := hid hP
  obtain ⟨s, b, d, ok, hs, hsN, hbN, hcN, hblk⟩ := hP
  have c0 := five0 hblk
  have c1 := five1 hblk
  have c2 := five2 hblk
  have c3 := five3 hblk
  have c4 := five4 hblk
  have HX : Hid (SpgOk q n d ∧ SpgAt w s b q n d ∧ s < N0 ∧ b < N0 ∧ N0 ≤ c) := ⟨ok, hs, hsN, hbN, hcN⟩
  clear ok hs hsN hbN hcN hblk
  obtain ⟨x, hx⟩ : ∃ x : Nat → Int, x = zat D := ⟨_, rfl⟩
  rw [← hx] at c1 c2 c3 c4
  have HZ := hid hx
  clear hx
  generalize hx0 : x 0 = x0 at *
  generalize hx1 : x 1 = x1 at *
  generalize hx2 : x 2 = x2 at *
  generalize hx3 : x 3 = x3 at *
  have HZ4 : Hid (zat D 0 = x0 ∧ zat D 1 = x1 ∧ zat D 2 = x2 ∧ zat D 3 = x3) := by unfold Hid; rw [← HZ.out]; exact ⟨hx0, hx1, hx2, hx3⟩
  clear hx0 hx1 hx2 hx3 HZ
  go_enter Tryd.func7, Tryd.ntmps7
  go_wp2_with fail
  go_ret
  have hb : Below w.heap.size w (w.alloc (.cells #[.pointer (some ⟨s, 0, none⟩), .int .i64 x0, .int .i64 x1, .int .i64 x2, .int .i64 x3] 53)) := (Below.refl _ _).alloc (Nat.le_refl _) _
  refine ⟨w.heap.size, rfl, Nat.le_refl _, ⟨s, b, d, HX.out.1, HX.out.2.1.below hb HX.out.2.1.lt HX.out.2.1.ltb, HX.out.2.2.1, HX.out.2.2.2.1, by have := HX.out.2.2.2.2; omega, ?_⟩, hb⟩
  rw [HZ4.out.1, HZ4.out.2.1, HZ4.out.2.2.1, HZ4.out.2.2.2]
  exact heap_alloc_new w _

/-- package chain answers as it must -/
theorem chain_as (N0 q n : Nat) : ChainAs N0 q n (PCh N0 q n) where
  typ := fun h => by obtain ⟨s, b, d, _, _, _, _, _, h6⟩ := h; exact ⟨_, _, h6⟩
  ge := fun h => h.ge
  keep := fun h _ hc e => h.blocks hc e
  take := fun c cap a l D W hP hD hlen hfl hl => ctake_any N0 q n c cap a l D W hP hD hlen hfl hl
  draw := fun c D W hP hD => cdraw_any N0 q n c D W hP hD
  draws := fun c N D W hP hD h1 h2 => cdraws_any N0 q n c N D W hP hD h1 h2
  drawsNo := fun c N D W _ hN => cdraws_no c N W hN
  place := fun c N D W hP hD h1 h2 => cplace_any N0 q n c N D W hP hD h1 h2
  placeNo := fun c N D W _ hN => cplace_no c N W hN
  digest := fun c D W hP hD => cdigest_any N0 q n c D W hP hD
  fork := fun c D W hP _ => cfork_any N0 q n c D W hP

end Go.Proofs.YtgjkakfkefpgbafDoor
