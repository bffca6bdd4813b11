/- Package sponge: permuted, unmixed, unpermuted. -/
import Derived.Test.YtfijhnojflcajadDoorSpgB
namespace Go.Proofs.YtfijhnojflcajadDoor
open Go.RowKit

/-- what a sponge's numbers are -/
structure SpgOk (q n d : Nat) : Prop where
  pr : Num.Prime q
  h23 : 23 ≤ q
  hm : q ≤ 2147483647
  pw : Spo.PowIs q n
  bk : d * n % (q - 1) = 1
  d1 : 1 ≤ d
  dm : d ≤ 2147483647
  nm : n ≤ 2147483647

theorem powz_int (q n : Nat) (a : Int) (hq : Num.Prime q) (h3 : 3 ≤ q) (hn : 1 ≤ n) : ((powz q a n : Nat) : Int) = a ^ n % (q : Int) := by
  by_cases hz : a % (q : Int) = 0
  · unfold powz
    rw [if_pos ⟨hz, by omega⟩]
    obtain ⟨m, rfl⟩ : ∃ m, n = m + 1 := ⟨n - 1, by omega⟩
    have : (q : Int) ∣ a ^ (m + 1) := by
      rw [Int.pow_succ]
      exact Int.dvd_trans (Int.dvd_of_emod_eq_zero hz) (Int.dvd_mul_left _ _)
    rw [Int.emod_eq_zero_of_dvd this]
    rfl
  · rw [powz_nat q a n hq h3 hz]
    exact pwm_int q a n h3

/-- what a round makes ahead of Mix -/
def pwr (q n : Nat) (f : Nat → Int) (k i : Nat) : Int := (stir q n f k i + cst q k i) ^ n % (q : Int)

set_option maxRecDepth 100000 in
set_option maxHeartbeats 1000000 in
theorem permuted_any (q n d b s : Nat) (f : Nat → Int) (w : World) (ok : SpgOk q n d) (hs : SpgAt w s b q n d) (hf : ∀ j, j < 8 → 0 ≤ f j ∧ f j < q) :
    Calls Tryd.prog 57 #[.pointer (some ⟨s, 0, none⟩), .agg (an 8 f)] w fun e w' => e = .returned (.agg (an 8 (stir q n f 8))) ∧ Below w.heap.size w w' := by
  have hmx : Tryd.prog.follows .mixedOrders = true := by kernel_rfl
  have h3 : 3 ≤ q := by have := ok.h23; omega
  have hm := ok.hm
  have hnm := ok.nm
  have hn1 : 1 ≤ n := by have := ok.pw.1; omega
  have HPR := hid ok.pr
  have HS := hid hs
  have HF := hid hf
  clear hs hf ok
  go_enter Tryd.func57, Tryd.ntmps57
  go_wp2_with fail
  go_loopw [7] (fun iv wr => ∃ k : Nat, k ≤ 8 ∧ iv = .int .i64 k ∧ Hid (ArrI wr w.heap.size 80 8 (stir q n f k)) ∧ Hid (ArrI wr (w.heap.size + 1) 80 8 (fun _ => 0)) ∧ Hid (Below w.heap.size w wr))
    (fun iv _ => 8 - (intOf iv).toNat)
  case atStart =>
    refine ⟨0, by omega, rfl, ?_, ArrI.new2 w (.cells (an 8 f) 80) 8 80 (fun _ => 0), ((Below.refl _ _).alloc (Nat.le_refl _) _).alloc (by simp) _⟩
    exact ((ArrI.new w 8 80 f).alloc _).congr (fun j hj => by
      obtain ⟨h1, h2⟩ := HF.out j hj
      exact (Int.emod_eq_of_lt h1 h2).symm)
  case round =>
    obtain ⟨k, hk, rfl, hA, hB, hbel⟩ := hrel
    by_cases hlt : k < 8
    · have hlt2 : (k : Int) < 8 := by omega
      have HC : Hid (Hid (ArrI wr w.heap.size 80 8 (fll (pwr q n f k) (stir q n f k) 0)) ∧ Hid (ArrI wr (w.heap.size + 1) 80 8 (fun _ => 0)) ∧ Hid (Below w.heap.size w wr)) := by rw [fll_zero]; exact ⟨hA, hB, hbel⟩
      clear hA hB hbel
      go_wp2_with fail
      obtain ⟨wo, rfl⟩ : ∃ wo, wo = wr := ⟨_, rfl⟩
      go_loopw [10] (fun jv wr => ∃ j : Nat, j ≤ 8 ∧ jv = .int .i64 j ∧ Hid (Hid (ArrI wr w.heap.size 80 8 (fll (pwr q n f k) (stir q n f k) j)) ∧ Hid (ArrI wr (w.heap.size + 1) 80 8 (fun _ => 0)) ∧ Hid (Below w.heap.size w wr)))
        (fun jv _ => 8 - (intOf jv).toNat)
      case atStart => exact ⟨0, by omega, rfl, HC⟩
      case round =>
        obtain ⟨j, hj, rfl, hC⟩ := hrel
        obtain ⟨hA, hB, hbel⟩ := hC.out
        by_cases hjl : j < 8
        · have hjl2 : (j : Int) < 8 := by omega
          have c1 := hA.out.cell hjl
          have y1 := hA.out.frozen j
          rw [fll_at] at c1
          have HSW := hid (HS.out.keep hbel.out)
          have s0 := HSW.out.f
          have s2 := HSW.out.pw
          have s1 := HSW.out.cst k j hlt hjl
          have hks : IntKind.i64.wrap ((j : Int) + 1) = (j : Int) + 1 := by rw [IntKind.wrap_i64]; omega
          have HE : Hid (Hid (ArrI (wr.setCell ⟨w.heap.size, j, none⟩ (.int .i64 (pwr q n f k j))).drew w.heap.size 80 8 (fll (pwr q n f k) (stir q n f k) (j + 1))) ∧ Hid (ArrI (wr.setCell ⟨w.heap.size, j, none⟩ (.int .i64 (pwr q n f k j))).drew (w.heap.size + 1) 80 8 (fun _ => 0)) ∧ Hid (Below w.heap.size w (wr.setCell ⟨w.heap.size, j, none⟩ (.int .i64 (pwr q n f k j))).drew)) :=
            ⟨hA.out.next, hB.out.other (a := ⟨w.heap.size, j, none⟩) (by simp) _, (hbel.out.setCell (p := ⟨w.heap.size, j, none⟩) (by simp) _).drew⟩
          have hb1 := stir_bounds q n f k j h3
          have hb2 := cst_bounds q k j h3
          have HPW : Hid (((powz q (stir q n f k j + cst q k j) n : Nat) : Int) = pwr q n f k j) := powz_int q n _ HPR.out h3 hn1
          generalize pwr q n f k j = x at *
          generalize stir q n f k j = y at *
          generalize cst q k j = z at *
          have hw1 : IntKind.i64.wrap (y + z) = y + z := by rw [IntKind.wrap_i64]; omega
          have HMx := hid (pow_any q b (y + z) n wr.drew h3 hm HSW.out.p (by omega) (by omega) (by omega) (by omega))
          rw [HPW.out] at HMx
          clear hA hB hbel hC HC hb1 hb2 HPW
          go_wp2_with fail
          go_still_tail 22, hmx
          still_call HMx.out
          repeat still_step
          refine wpStill_nil ?_
          go_wp2_with fail
          go_roundw
          case rel => exact ⟨j + 1, by omega, by go_num, HE⟩
          case measure => simp [intOf]; omega
        · obtain rfl : j = 8 := by omega
          have hks : IntKind.i64.wrap ((k : Int) + 1) = (k : Int) + 1 := by rw [IntKind.wrap_i64]; omega
          have HA8 : Hid (ArrI wr w.heap.size 80 8 (pwr q n f k)) := hA.out.congr (fun j hj => fll_all hj)
          have HB8 := hid hB.out
          have HBL := hid hbel.out
          have HSW := hid (HS.out.keep hbel.out)
          have hltA := HA8.out.lt
          have hltB := HB8.out.lt
          clear hA hB hbel hC HC
          go_wp2_with (refine wpList_load_an rfl 80 _ rfl _ rfl _ _ _ _ _ HA8.out Tryd.underlying80 (by kernel_rfl) ?_)
          refine (mixed_any q n d b s (pwr q n f k) wr h3 hm HSW.out (fun j _ => emod_bounds _ q h3)).mono ?_
          rintro e w1 ⟨rfl, hb1⟩
          have HA1 := hid (HA8.out.below hb1 hltA)
          have HB1 := hid (HB8.out.below hb1 hltB)
          have HBL1 : Hid (Below w.heap.size w w1) := HBL.out.trans (hb1.mono HBL.out.size)
          clear hb1 HA8 HB8 HBL HSW
          go_wp2_with (refine wpList_store_an rfl 80 _ _ rfl _ _ _ _ rfl rfl _ HA1.out (by kernel_rfl) ?_)
          go_roundw
          case rel => exact ⟨k + 1, by omega, by go_num, HA1.out.setRow _, HB1.out.otherRow (by omega) _, below_setRow HBL1.out (Nat.le_refl _) _⟩
          case measure => simp [intOf]; omega
    · obtain rfl : k = 8 := by omega
      go_wp2_with (first
        | (refine wpList_load_an rfl 80 _ rfl _ rfl _ _ _ _ _ hA.out Tryd.underlying80 (by kernel_rfl) ?_)
        | (refine wpList_store_an rfl 80 _ _ rfl _ _ _ _ rfl rfl _ hB.out (by kernel_rfl) ?_))
      refine bodyPost_ret (results_an rfl _ _ (w.heap.size + 1) 80 8 _ _ (stir q n f 8) rfl (hB.out.setRow _) Tryd.underlying80 (by kernel_rfl)) rfl ?_
      exact ⟨rfl, below_setRow hbel.out (by omega) _⟩

set_option maxRecDepth 100000 in
set_option maxHeartbeats 1000000 in
theorem unmixed_any (q n d b s : Nat) (f : Nat → Int) (w : World) (h3 : 3 ≤ q) (hm : q ≤ 2147483647) (hs : SpgAt w s b q n d) (hf : ∀ j, j < 8 → 0 ≤ f j ∧ f j < q) :
    Calls Tryd.prog 83 #[.pointer (some ⟨s, 0, none⟩), .agg (an 8 f)] w fun e w' => e = .returned (.agg (an 8 (umx q f))) ∧ Below w.heap.size w w' := by
  have HS := hid hs
  have HF := hid hf
  clear hs hf
  have HA : Hid (ArrI ((w.alloc (.cells (an 8 f) 80)).alloc (.cells (an 8 (fun _ => 0)) 80)) w.heap.size 80 8 f) := (ArrI.new w 8 80 f).alloc _
  have HB : Hid (ArrI ((w.alloc (.cells (an 8 f) 80)).alloc (.cells (an 8 (fun _ => 0)) 80)) (w.heap.size + 1) 80 8 (fun _ => 0)) := ArrI.new2 w _ 8 80 (fun _ => 0)
  have HBL : Hid (Below w.heap.size w ((w.alloc (.cells (an 8 f) 80)).alloc (.cells (an 8 (fun _ => 0)) 80))) := ((Below.refl _ _).alloc (Nat.le_refl _) _).alloc (by simp) _
  go_enter Tryd.func83, Tryd.ntmps83
  go_wp2_with (refine wpList_load_an rfl 80 _ rfl _ rfl _ _ _ _ _ HA.out Tryd.underlying80 (by kernel_rfl) ?_)
  rw [show #[Value.int .i64 0, Value.int .i64 0, Value.int .i64 0, Value.int .i64 0, Value.int .i64 0, Value.int .i64 0, Value.int .i64 0, Value.int .i64 0] = an 8 (fun _ => 0) from rfl]
  generalize (w.alloc (.cells (an 8 f) 80)).alloc (.cells (an 8 (fun _ => 0)) 80) = W0 at *
  have HS0 := hid (HS.out.keep HBL.out)
  refine (weighted_any q n d b s f W0 h3 hm HS0.out HF.out).mono ?_
  rintro e w1 ⟨rfl, hb1⟩
  have HB1 := hid (HB.out.below hb1 HB.out.lt)
  have HBL1 : Hid (Below w.heap.size w w1) := HBL.out.trans (hb1.mono HBL.out.size)
  have HS1 := hid (HS0.out.keep hb1)
  clear hb1 HB HA HBL HS0
  go_wp2_with fail
  refine (mixed_any q n d b s _ w1 h3 hm HS1.out (fun j _ => emod_bounds _ q h3)).mono ?_
  rintro e w2 ⟨rfl, hb2⟩
  have HB2 := hid (HB1.out.below hb2 HB1.out.lt)
  have HBL2 : Hid (Below w.heap.size w w2) := HBL1.out.trans (hb2.mono HBL1.out.size)
  have HS2 := hid (HS1.out.keep hb2)
  clear hb2 HB1 HBL1 HS1
  go_wp2_with fail
  refine (weighted_any q n d b s _ w2 h3 hm HS2.out (fun j _ => mx_bounds q _ j h3)).mono ?_
  rintro e w3 ⟨rfl, hb3⟩
  have HB3 := hid (HB2.out.below hb3 HB2.out.lt)
  have HBL3 : Hid (Below w.heap.size w w3) := HBL2.out.trans (hb3.mono HBL2.out.size)
  clear hb3 HB2 HBL2 HS2
  go_wp2_with (refine wpList_store_an rfl 80 _ _ rfl _ _ _ _ rfl rfl _ HB3.out (by kernel_rfl) ?_)
  refine bodyPost_ret (results_an rfl _ _ (w.heap.size + 1) 80 8 _ _ (umx q f) rfl (HB3.out.setRow _) Tryd.underlying80 (by kernel_rfl)) rfl ?_
  exact ⟨rfl, below_setRow HBL3.out (by omega) _⟩

end Go.Proofs.YtfijhnojflcajadDoor
