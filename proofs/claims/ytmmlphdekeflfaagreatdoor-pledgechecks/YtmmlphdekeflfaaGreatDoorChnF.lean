/- Package chain: New, Take, Draw, Draws, Place, Digest, Fork. -/
import Derived.Test.YtmmlphdekeflfaaGreatDoorChnE
namespace Go.Proofs.YtmmlphdekeflfaaGreatDoor
open Go.RowKit

theorem cell_alloc_at (w : World) (cs : Array Value) (t : TypeId) (i : Nat) (v : Value) (h : cs[i]? = some v) : (w.alloc (.cells cs t)).cell? ⟨w.heap.size, i, none⟩ = some v := by
  unfold World.cell?
  rw [show (w.alloc (.cells cs t)).heap[(⟨w.heap.size, i, none⟩ : Addr).block]? = some (.cells cs t (0, 0)) from heap_alloc_new w _]
  exact h
theorem lstR_2 {n0 : Nat} {w : World} {a b : Option Addr} {ca cb : Nat} {x y : List Int} (ha : Lst n0 w a ca x) (hb : Lst n0 w b cb y) (hn : n0 ≤ w.heap.size) : LstR (w.heap.size + 1) (w.alloc (.cells #[.slice a x.length ca, .slice b y.length cb] 23)) (some ⟨w.heap.size, 0, none⟩) 2 [x, y] := by
  have hbl : Below w.heap.size w (w.alloc (.cells #[.slice a x.length ca, .slice b y.length cb] 23)) := (Below.refl _ _).alloc (Nat.le_refl _) _
  refine ⟨fun k hk => ?_, Nat.le_refl _, fun h => by cases h⟩
  match k, (show k < 2 by simpa using hk) with
  | 0, _ => exact ⟨w.heap.size, 0, a, ca, rfl, by omega, cell_alloc_at w _ _ _ _ rfl, (ha.below (hbl.mono hn)).mono (by omega)⟩
  | 1, _ => exact ⟨w.heap.size, 0, b, cb, rfl, by omega, cell_alloc_at w _ _ _ _ rfl, (hb.below (hbl.mono hn)).mono (by omega)⟩
theorem lstR_3 {n0 : Nat} {w : World} {a b c : Option Addr} {ca cb cc : Nat} {x y z : List Int} (ha : Lst n0 w a ca x) (hb : Lst n0 w b cb y) (hc : Lst n0 w c cc z) (hn : n0 ≤ w.heap.size) : LstR (w.heap.size + 1) (w.alloc (.cells #[.slice a x.length ca, .slice b y.length cb, .slice c z.length cc] 23)) (some ⟨w.heap.size, 0, none⟩) 3 [x, y, z] := by
  have hbl : Below w.heap.size w (w.alloc (.cells #[.slice a x.length ca, .slice b y.length cb, .slice c z.length cc] 23)) := (Below.refl _ _).alloc (Nat.le_refl _) _
  refine ⟨fun k hk => ?_, Nat.le_refl _, fun h => by cases h⟩
  match k, (show k < 3 by simpa using hk) with
  | 0, _ => exact ⟨w.heap.size, 0, a, ca, rfl, by omega, cell_alloc_at w _ _ _ _ rfl, (ha.below (hbl.mono hn)).mono (by omega)⟩
  | 1, _ => exact ⟨w.heap.size, 0, b, cb, rfl, by omega, cell_alloc_at w _ _ _ _ rfl, (hb.below (hbl.mono hn)).mono (by omega)⟩
  | 2, _ => exact ⟨w.heap.size, 0, c, cc, rfl, by omega, cell_alloc_at w _ _ _ _ rfl, (hc.below (hbl.mono hn)).mono (by omega)⟩
/-- a list of one number, new -/
theorem lst_one (w : World) (x : Int) : Lst (w.alloc (.cells #[.int .i64 x] 3)).heap.size (w.alloc (.cells #[.int .i64 x] 3)) (some ⟨w.heap.size, 0, none⟩) 1 [x] := by
  refine ⟨fun k hk => ⟨w.heap.size, 0, rfl, by simp, ?_⟩, Nat.le_refl _, fun h => by cases h⟩
  obtain rfl : k = 0 := by simp at hk; omega
  exact cell_alloc_at w _ _ _ _ rfl
set_option maxRecDepth 100000 in
set_option maxHeartbeats 1000000 in
theorem cnew_any (N0 q n d s b cap : Nat) (a : Option Addr) (l : List Int) (w : World) (ok : SpgOk q n d) (hs : SpgAt w s b q n d) (hN : N0 ≤ w.heap.size) (hsN : s < N0) (hbN : b < N0) (hlen : l.length ≤ 17592186043904) (hfl : Fits l) (hl : Lst w.heap.size w a cap l) :
    Calls Tryz.prog 19 #[.pointer (some ⟨s, 0, none⟩), .slice a l.length cap] w fun e w' => ∃ c, e = .returned (.pointer (some ⟨c, 0, none⟩)) ∧ w.heap.size ≤ c ∧ PCh N0 q n w' c (digl q n (2 :: l)) ∧ Below w.heap.size w w' := by
  obtain ⟨W0, hW0⟩ : ∃ W0, W0 = w.alloc (.cells #[.pointer (some ⟨s, 0, none⟩), .int .i64 0, .int .i64 0, .int .i64 0, .int .i64 0] 103) := ⟨_, rfl⟩
  obtain ⟨W1, hW1⟩ : ∃ W1, W1 = W0.alloc (.cells #[.int .i64 2] 3) := ⟨_, rfl⟩
  obtain ⟨W2, hW2⟩ : ∃ W2, W2 = W1.alloc (.cells #[.slice (some ⟨W0.heap.size, 0, none⟩) 1 1, .slice a l.length cap] 23) := ⟨_, rfl⟩
  have hb0 : Below w.heap.size w W0 := by rw [hW0]; exact (Below.refl _ _).alloc (Nat.le_refl _) _
  have hb1 : Below w.heap.size w W1 := by rw [hW1]; exact hb0.alloc hb0.size _
  have hb2 : Below w.heap.size w W2 := by rw [hW2]; exact hb1.alloc hb1.size _
  have e0 : W0.heap.size = w.heap.size + 1 := by rw [hW0]; simp
  have e1 : W1.heap.size = w.heap.size + 2 := by rw [hW1]; simp [e0]
  have e2 : W2.heap.size = w.heap.size + 3 := by rw [hW2]; simp [e1]
  have hP0 : PCh N0 q n W0 w.heap.size [0, 0, 0, 0] := ⟨s, b, d, ok, hs.below hb0 hs.lt hs.ltb, hsN, hbN, hN, by rw [hW0]; exact heap_alloc_new w _⟩
  have hP2 : PCh N0 q n W2 w.heap.size [0, 0, 0, 0] := by
    refine (hP0.below (w' := W1) ?_).below ?_
    · rw [hW1]; exact (Below.refl _ _).alloc (Nat.le_refl _) _
    · rw [hW2]; exact (Below.refl _ _).alloc (Nat.le_refl _) _
  have hl1 : Lst W1.heap.size W1 (some ⟨W0.heap.size, 0, none⟩) 1 [2] := by rw [hW1]; exact lst_one W0 2
  have hR : LstR W2.heap.size W2 (some ⟨W1.heap.size, 0, none⟩) 2 [[2], l] := by
    have := lstR_2 hl1 ((hl.below hb1).mono hb1.size) (Nat.le_refl _)
    rw [e2, show w.heap.size + 3 = W1.heap.size + 1 by omega, hW2]
    exact this
  have HBC := hid (become_any N0 q n w.heap.size 2 (some ⟨W1.heap.size, 0, none⟩) [[2], l] [0, 0, 0, 0] W2 hP2 (by simp) (by simp; omega) (by simp) (by simpa using fits_cons (x := 2) (by omega) hfl) hR)
  rw [show ([[2], l] : List (List Int)).flatten = 2 :: l from by simp] at HBC
  have HB2 := hid hb2
  clear hP0 hP2 hl1 hR hs hl hfl ok hb0 hb1 hb2
  rw [e1] at HBC
  rw [hW2, hW1, e0, hW0] at HBC
  go_enter Tryz.func19, Tryz.ntmps19
  go_wp2_with fail
  refine HBC.out.mono ?_
  rintro e w1 ⟨rfl, hP, hg⟩
  have HE : Hid (PCh N0 q n w1 w.heap.size (digl q n (2 :: l)) ∧ Below w.heap.size w w1) := ⟨hP, HB2.out.trans (by rw [hW2, hW1, e0, hW0]; exact gb_to hg (Nat.le_refl _) (by simp; omega))⟩
  clear hP hg HBC
  go_wp2_with fail
  go_ret
  exact ⟨w.heap.size, rfl, Nat.le_refl _, HE.out.1, HE.out.2⟩

set_option maxRecDepth 100000 in
set_option maxHeartbeats 1000000 in
theorem ctake_any (N0 q n c cap : Nat) (a : Option Addr) (l D : List Int) (w : World) (hP : PCh N0 q n w c D) (hD : Dig D) (hlen : l.length ≤ 17592186043904) (hfl : Fits l) (hl : Lst w.heap.size w a cap l) :
    Calls Tryz.prog 118 #[.pointer (some ⟨c, 0, none⟩), .slice a l.length cap] w fun e w' => e = .returned (.tuple #[]) ∧ PCh N0 q n w' c (digl q n (3 :: (D ++ l))) ∧ w.grownBy w' (some c) := by
  have hD4 := hD.1
  obtain ⟨W1, hW1⟩ : ∃ W1, W1 = w.alloc (.cells #[.int .i64 3] 3) := ⟨_, rfl⟩
  obtain ⟨W2, hW2⟩ : ∃ W2, W2 = W1.alloc (.cells #[.slice (some ⟨w.heap.size, 0, none⟩) 1 1, .slice (some ⟨c, 1, none⟩) 4 4, .slice a l.length cap] 23) := ⟨_, rfl⟩
  have hb1 : Below w.heap.size w W1 := by rw [hW1]; exact (Below.refl _ _).alloc (Nat.le_refl _) _
  have hb2 : Below w.heap.size w W2 := by rw [hW2]; exact hb1.alloc hb1.size _
  have e1 : W1.heap.size = w.heap.size + 1 := by rw [hW1]; simp
  have e2 : W2.heap.size = w.heap.size + 2 := by rw [hW2]; simp [e1]
  have hl1 : Lst W1.heap.size W1 (some ⟨w.heap.size, 0, none⟩) 1 [3] := by rw [hW1]; exact lst_one w 3
  have hld : Lst w.heap.size w (some ⟨c, 1, none⟩) 4 D := by
    obtain ⟨s, b, d, _, _, _, _, _, hblk⟩ := hP
    exact five_lst hD4 hblk
  have hR : LstR W2.heap.size W2 (some ⟨W1.heap.size, 0, none⟩) 3 [[3], D, l] := by
    have := lstR_3 hl1 ((hld.below hb1).mono hb1.size) ((hl.below hb1).mono hb1.size) (Nat.le_refl _)
    rw [hD4] at this
    rw [e2, show w.heap.size + 2 = W1.heap.size + 1 by omega, hW2]
    exact this
  have HBC := hid (become_any N0 q n c 3 (some ⟨W1.heap.size, 0, none⟩) [[3], D, l] D W2 (hP.below hb2) (by simp) (by simp; omega) (by simp) (by simpa using fits_cons (x := 3) (by omega) (fits_append hD.2 hfl)) hR)
  rw [show ([[3], D, l] : List (List Int)).flatten = 3 :: (D ++ l) from by simp] at HBC
  have HB2 := hid hb2
  clear hl1 hR hl hfl hb1 hb2 hld hP hD hD4
  rw [e1, hW2, hW1] at HBC
  go_enter Tryz.func118, Tryz.ntmps118
  go_wp2_with fail
  refine HBC.out.mono ?_
  rintro e w1 ⟨rfl, hP, hg⟩
  have HE : Hid (PCh N0 q n w1 c (digl q n (3 :: (D ++ l))) ∧ w.grownBy w1 (some c)) := ⟨hP, gb_trans (gb_below HB2.out) (by rw [hW2, hW1]; exact hg)⟩
  clear hP hg HBC
  go_wp2_with fail
  go_end0
  exact ⟨rfl, HE.out⟩

set_option maxRecDepth 100000 in
set_option maxHeartbeats 1000000 in
theorem cdraw_any (N0 q n c : Nat) (D : List Int) (w : World) (hP : PCh N0 q n w c D) (hD : Dig D) :
    Calls Tryz.prog 119 #[.pointer (some ⟨c, 0, none⟩)] w fun e w' => e = .returned (.int .i64 (zat (digl q n (4 :: D)) 0)) ∧ PCh N0 q n w' c (digl q n (4 :: D)) ∧ w.grownBy w' (some c) := by
  have hD4 := hD.1
  obtain ⟨W1, hW1⟩ : ∃ W1, W1 = w.alloc (.cells #[.int .i64 4] 3) := ⟨_, rfl⟩
  obtain ⟨W2, hW2⟩ : ∃ W2, W2 = W1.alloc (.cells #[.slice (some ⟨w.heap.size, 0, none⟩) 1 1, .slice (some ⟨c, 1, none⟩) 4 4] 23) := ⟨_, rfl⟩
  have hb1 : Below w.heap.size w W1 := by rw [hW1]; exact (Below.refl _ _).alloc (Nat.le_refl _) _
  have hb2 : Below w.heap.size w W2 := by rw [hW2]; exact hb1.alloc hb1.size _
  have e1 : W1.heap.size = w.heap.size + 1 := by rw [hW1]; simp
  have e2 : W2.heap.size = w.heap.size + 2 := by rw [hW2]; simp [e1]
  have hl1 : Lst W1.heap.size W1 (some ⟨w.heap.size, 0, none⟩) 1 [4] := by rw [hW1]; exact lst_one w 4
  have hld : Lst w.heap.size w (some ⟨c, 1, none⟩) 4 D := by
    obtain ⟨s, b, d, _, _, _, _, _, hblk⟩ := hP
    exact five_lst hD4 hblk
  have hR : LstR W2.heap.size W2 (some ⟨W1.heap.size, 0, none⟩) 2 [[4], D] := by
    have := lstR_2 hl1 ((hld.below hb1).mono hb1.size) (Nat.le_refl _)
    rw [hD4] at this
    rw [e2, show w.heap.size + 2 = W1.heap.size + 1 by omega, hW2]
    exact this
  have HBC := hid (become_any N0 q n c 2 (some ⟨W1.heap.size, 0, none⟩) [[4], D] D W2 (hP.below hb2) (by simp) (by simp; omega) (by simp) (by simpa using fits_cons (x := 4) (by omega) hD.2) hR)
  rw [show ([[4], D] : List (List Int)).flatten = 4 :: D from by simp] at HBC
  have HB2 := hid hb2
  clear hl1 hR hb1 hb2 hld hP hD hD4
  rw [e1, hW2, hW1] at HBC
  go_enter Tryz.func119, Tryz.ntmps119
  go_wp2_with fail
  refine HBC.out.mono ?_
  rintro e w1 ⟨rfl, hP, hg⟩
  have HE : Hid (PCh N0 q n w1 c (digl q n (4 :: D)) ∧ w.grownBy w1 (some c)) := ⟨hP, gb_trans (gb_below HB2.out) (by rw [hW2, hW1]; exact hg)⟩
  obtain ⟨s, b, d, _, _, _, _, _, hblk⟩ := hP
  have c1 := five1 hblk
  clear hblk hg HBC
  obtain ⟨z, hz⟩ : ∃ z, z = zat (digl q n (4 :: D)) 0 := ⟨_, rfl⟩
  rw [← hz] at c1
  have HZ := hid hz
  clear hz
  go_wp2_with fail
  go_ret
  exact ⟨by rw [← HZ.out]; rfl, HE.out⟩

set_option maxRecDepth 100000 in
theorem csize_any (N : Int) (w : World) : Calls Tryz.prog 179 #[.int .i64 N] w fun e w' => e = .returned (.bool (decide (1 ≤ N ∧ N ≤ 65536))) ∧ w' = w := by
  by_cases t1 : 1 ≤ N
  · by_cases t2 : N ≤ 65536
    · have t : decide (1 ≤ N ∧ N ≤ 65536) = true := by simp [t1, t2]
      have t1' : N ≥ 1 := t1
      rw [t]
      go_enter Tryz.func179, Tryz.ntmps179
      go_wp2_with fail
      go_ret
      exact ⟨rfl, rfl⟩
    · have t : decide (1 ≤ N ∧ N ≤ 65536) = false := by simp [t2]
      have t1' : N ≥ 1 := t1
      rw [t]
      go_enter Tryz.func179, Tryz.ntmps179
      go_wp2_with fail
      go_ret
      exact ⟨rfl, rfl⟩
  · have t : decide (1 ≤ N ∧ N ≤ 65536) = false := by simp [t1]
    have t1' : ¬ N ≥ 1 := t1
    rw [t]
    go_enter Tryz.func179, Tryz.ntmps179
    go_wp2_with fail
    go_ret
    exact ⟨rfl, rfl⟩

set_option maxRecDepth 100000 in
set_option maxHeartbeats 1000000 in
theorem cplace_any (N0 q n c : Nat) (N : Int) (D : List Int) (w : World) (hP : PCh N0 q n w c D) (hD : Dig D) (hN1 : 1 ≤ N) (hN2 : N ≤ 65536) :
    Calls Tryz.prog 122 #[.pointer (some ⟨c, 0, none⟩), .int .i64 N] w fun e w' => e = .returned (.int .i64 ((zat (digl q n (4 :: D)) 0 * q + zat (digl q n (4 :: D)) 1) % N)) ∧ PCh N0 q n w' c (digl q n (4 :: D)) ∧ w.grownBy w' (some c) := by
  have HDR := hid (cdraw_any N0 q n c D w hP hD)
  have HSZ := hid (csize_any N w)
  rw [show decide (1 ≤ N ∧ N ≤ 65536) = true from by simp [hN1, hN2]] at HSZ
  have h4 : q ≤ 2147483647 := by obtain ⟨_, _, _, ok, _⟩ := hP; exact ok.hm
  have h3 : 23 ≤ q := by obtain ⟨_, _, _, ok, _⟩ := hP; exact ok.h23
  have hbd : ∀ j, j < 4 → 0 ≤ zat (digl q n (4 :: D)) j ∧ zat (digl q n (4 :: D)) j < (q : Int) := fun j hj => by
    unfold digl
    rw [ls_at _ _ _ hj]
    have := hst_bounds q n (pdf q (zat (4 :: D)) (4 :: D).length) ((4 :: D).length / 4 + 1) j (by omega)
    omega
  have hz0 := hbd 0 (by omega)
  have hz1 := hbd 1 (by omega)
  clear hP hD hbd
  obtain ⟨x, hx⟩ : ∃ x, x = zat (digl q n (4 :: D)) 0 := ⟨_, rfl⟩
  obtain ⟨y, hy⟩ : ∃ y, y = zat (digl q n (4 :: D)) 1 := ⟨_, rfl⟩
  rw [← hx] at hz0 HDR ⊢
  rw [← hy] at hz1 ⊢
  have HY := hid hy
  clear hx hy
  go_enter Tryz.func122, Tryz.ntmps122
  go_wp2_with fail
  refine HSZ.out.mono ?_
  rintro e w0 ⟨rfl, rfl⟩
  go_wp2_with fail
  refine HDR.out.mono ?_
  rintro e w1 ⟨rfl, hP, hg⟩
  have HE : Hid (PCh N0 q n w1 c (digl q n (4 :: D)) ∧ w0.grownBy w1 (some c)) := ⟨hP, hg⟩
  obtain ⟨s, b, d, _, hs, _, _, _, hblk⟩ := hP
  have c0 := five0 hblk
  have c2 := five2 hblk
  have HFI : Hid (∀ m, Calls Tryz.prog 8 #[.pointer (some ⟨s, 0, none⟩)] (w1.drewN m) fun e w' => e = .returned (.pointer (some ⟨b, 0, none⟩)) ∧ w' = w1.drewN m) := fun m => sfield_any q n d b s _ (hs.below (below_drewN (Below.refl _ _) m) hs.lt hs.ltb)
  have HPI : Hid (∀ m, Calls Tryz.prog 151 #[.pointer (some ⟨b, 0, none⟩)] (w1.drewN m) fun e w' => e = .returned (.int .i64 q) ∧ w' = w1.drewN m) := fun m => p_any q b _ (hs.below (below_drewN (Below.refl _ _) m) hs.lt hs.ltb).p
  clear hg HDR HSZ hblk hs
  rw [← HY.out] at c2
  have hx2 : x * (q : Int) ≤ 2147483647 * 2147483647 := Int.mul_le_mul (by omega) (by omega) (by omega) (by omega)
  have hx0 : 0 ≤ x * (q : Int) := Int.mul_nonneg hz0.1 (by omega)
  obtain ⟨m, hm⟩ : ∃ m, m = x * (q : Int) := ⟨_, rfl⟩
  have HM := hid hm
  have hm2 := hm.symm
  rw [← hm] at hx2 hx0
  clear hm
  have hw1 : IntKind.i64.wrap m = m := by rw [IntKind.wrap_i64]; omega
  have hw2 : IntKind.i64.wrap (m + y) = m + y := by rw [IntKind.wrap_i64]; omega
  have hN0 : ¬ N = 0 := by omega
  have hte : (m + y).tmod N = (m + y) % N := Int.tmod_eq_emod_of_nonneg (by omega)
  have hw3 : IntKind.i64.wrap ((m + y) % N) = (m + y) % N := by
    rw [IntKind.wrap_i64]
    have := Int.emod_nonneg (m + y) hN0
    have := Int.emod_lt_of_pos (m + y) (show 0 < N by omega)
    omega
  go_wp2_with fail
  go_quiet (first
    | (go_at_call 8; exact Calls.quiet_of_same (HFI.out _))
    | (go_at_call 151; exact Calls.quiet_of_same (HPI.out _)))
  go_wp2_with fail
  go_ret
  exact ⟨by rw [← HM.out]; rfl, HE.out.1.below (below_drewN (Below.refl _ _) _), gb_trans HE.out.2 (gb_below (below_drewN (Below.refl _ _) _))⟩

end Go.Proofs.YtmmlphdekeflfaaGreatDoor
