
import Derived.Test.YtlhjifpomchnfaaGreatDoorPoAR
import Derived.Test.YtlhjifpomchnfaaGreatDoorTres
import Derived.Test.YtlhjifpomchnfaaGreatDoorPls
import Derived.Test.YtlhjifpomchnfaaGreatDoorDoms
set_option maxRecDepth 1000000
set_option maxHeartbeats 8000000
namespace Go.Proofs.YtlhjifpomchnfaaGreatDoor
open Go.RowKit
theorem RCn.below {q : Nat} {w w' : World} {r : Nat} {D : List Int} {lo : Nat} (h : RCn q w r D lo) (e : Below w.heap.size w w') : RCn q w' r D lo := by
 obtain ⟨g, c, h1, h2, h3⟩ := h
 exact ⟨g, c, (e.block _ (Array.getElem?_eq_some_iff.1 h1).1).trans h1, h2.below e, h3⟩
theorem rplace_new (q n r : Nat) (N : Int) (D : List Int) (w : World) (h5 : 5 <= q) (h4 : q <= 2147483647) (hpn : Spo.PowIs q n) (hlen : D.length <= 17592186044000) (hfd : Fits D) (hr : RCh q w r D) (hN1 : 1 <= N) (hN2 : N <= 65536) :
  Calls Tryz.prog 100 #[.pointer (some ⟨r, 0, none⟩), .int .i64 N] w fun e w' => e = .returned (.int .i64 ((zat (digl q n (4 :: D)) 0 * q + zat (digl q n (4 :: D)) 1) % N)) /\ RCn q w' r (digl q n (4 :: D)) w.heap.size /\ w.grownBy w' (some r) := by
 have HS := hid (rstep_new q n r 0 4 none [] D w h5 h4 hpn (by omega) (by simpa using hlen) hfd (fun j hj => by simp at hj) hr (numL_nil w).1)
 rw [List.append_nil, List.length_nil] at HS
 have t1 : ¬ N < 1 := by omega
 have t2 : ¬ 65536 < N := by omega
 have hbd : ∀ j, j < 4 -> 0 <= zat (digl q n (4 :: D)) j /\ zat (digl q n (4 :: D)) j < (q : Int) := fun j hj => by
  unfold digl
  rw [ls_at _ _ _ hj]
  have := hst_bounds q n (pdf q (zat (4 :: D)) (4 :: D).length) ((4 :: D).length / 4 + 1) j (by omega)
  omega
 have hz0 := hbd 0 (by omega)
 have hz1 := hbd 1 (by omega)
 clear hpn hfd hr hbd
 go_enter Tryz.func100, Tryz.ntmps100
 go_wp2_with fail
 refine HS.out.mono ?_
 rintro e w1 ⟨rfl, hr, hg⟩
 have HE : Hid (RCn q w1 r (digl q n (4 :: D)) w.heap.size /\ w.grownBy w1 (some r)) := ⟨hr, hg⟩
 obtain ⟨a, c, hb, hn⟩ := hr.rch
 rw [digl_len] at hb
 have c0 := duo0 hb
 have c1 := duo1 hb
 obtain ⟨g, o, rfl, _, hc0⟩ := hn.1.row 0 (by rw [digl_len]; omega)
 obtain ⟨_, _, e1, _, hc1⟩ := hn.1.row 1 (by rw [digl_len]; omega)
 cases e1
 rw [Nat.add_zero] at hc0
 clear hg HS hb hn hr
 obtain ⟨x, hx⟩ := exE (zat (digl q n (4 :: D)) 0)
 obtain ⟨y, hy⟩ := exE (zat (digl q n (4 :: D)) 1)
 rw [<- hx] at hc0 hz0
 rw [<- hy] at hc1 hz1
 have HX := hid hx
 have HY := hid hy
 clear hx hy
 have hx2 : x * (q : Int) <= 2147483647 * 2147483647 := Int.mul_le_mul (by omega) (by omega) (by omega) (by omega)
 have hx0 : 0 <= x * (q : Int) := Int.mul_nonneg hz0.1 (by omega)
 obtain ⟨m, hm⟩ := exE (x * (q : Int))
 have HM := hid hm
 have hm2 := hm.symm
 rw [<- hm] at hx2 hx0
 clear hm
 have hw1 : IntKind.i64.wrap m = m := by rw [IntKind.wrap_i64]; omega
 have hw2 : IntKind.i64.wrap (m + y) = m + y := by rw [IntKind.wrap_i64]; omega
 have hN0 : ¬ N = 0 := by omega
 have hte : (m + y).tmod N = (m + y) % N := Int.tmod_eq_emod_of_nonneg (by omega)
 have hw3 : IntKind.i64.wrap ((m + y) % N) = (m + y) % N := by
  rw [IntKind.wrap_i64]
  have := Int.emod_nonneg (m + y) hN0
  have := Int.emod_lt_of_pos (m + y) (show 0 < N by omega)
  omega
 go_wp2_with fail
 go_quiet (fail)
 go_wp2_with fail
 go_ret
 exact ⟨by rw [<- HX.out, <- HY.out, <- HM.out]; rfl, HE.out.1.below (below_drewN (Below.refl _ _) _), gb_trans HE.out.2 (gb_below (below_drewN (Below.refl _ _) _))⟩
def pld (q n : Nat) : Nat -> List Int -> List Int
 | 0, D => D
 | i + 1, D => digl q n (4 :: pld q n i D)
def plz (q n N : Nat) (D : List Int) (i : Nat) : Int := (zat (pld q n (i + 1) D) 0 * q + zat (pld q n (i + 1) D) 1) % (N : Int)
theorem pld_len {q n : Nat} {D : List Int} (h : D.length <= 17592186044000) : ∀ i, (pld q n i D).length <= 17592186044000
 | 0 => h
 | i + 1 => by rw [pld, digl_len]; omega
theorem pld_fits {q n : Nat} (h3 : 3 <= q) (h4 : q <= 2147483647) {D : List Int} (h : Fits D) : ∀ i, Fits (pld q n i D)
 | 0 => h
 | i + 1 => by rw [pld]; exact digl_fits h3 h4 _ _
theorem plz_bounds {q n N : Nat} (hN : 0 < N) (D : List Int) (i : Nat) : 0 <= plz q n N D i /\ plz q n N D i < (N : Int) := ⟨Int.emod_nonneg _ (by omega), Int.emod_lt_of_pos _ (by omega)⟩
def Dig (D : List Int) : Prop := D.length = 4 /\ Fits D
theorem dig_digl {q : Nat} (h3 : 3 <= q) (h4 : q <= 2147483647) (n : Nat) (l : List Int) : Dig (digl q n l) := ⟨digl_len _ _ _, digl_fits h3 h4 _ _⟩
end Go.Proofs.YtlhjifpomchnfaaGreatDoor
