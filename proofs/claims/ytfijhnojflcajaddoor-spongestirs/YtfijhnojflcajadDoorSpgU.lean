/- Package sponge: unpermuted. -/
import Derived.Test.YtfijhnojflcajadDoorSpgP
namespace Go.Proofs.YtfijhnojflcajadDoor
open Go.RowKit

set_option maxRecDepth 100000 in
set_option maxHeartbeats 1000000 in
theorem unpermuted_any (q n d b s : Nat) (f : Nat → Int) (w : World) (ok : SpgOk q n d) (hs : SpgAt w s b q n d) (hf : ∀ j, j < 8 → 0 ≤ f j ∧ f j < q) :
    Calls Tryd.prog 59 #[.pointer (some ⟨s, 0, none⟩), .agg (an 8 f)] w fun e w' => e = .returned (.agg (an 8 (ust q d f 8))) ∧ Below w.heap.size w w' := by
  have hmx : Tryd.prog.follows .mixedOrders = true := by kernel_rfl
  have h3 : 3 ≤ q := by have := ok.h23; omega
  have hm := ok.hm
  have hdm := ok.dm
  have hd1 := ok.d1
  have HPR := hid ok.pr
  have HS := hid hs
  have HF := hid hf
  clear hs hf ok
  go_enter Tryd.func59, Tryd.ntmps59
  go_wp2_with fail
  go_loopw [8] (fun iv wr => ∃ k : Nat, k ≤ 8 ∧ iv = .int .i64 k ∧ Hid (ArrI wr w.heap.size 80 8 (ust q d f k)) ∧ Hid (ArrI wr (w.heap.size + 1) 80 8 (fun _ => 0)) ∧ Hid (Below w.heap.size w wr))
    (fun iv _ => 8 - (intOf iv).toNat)
  case atStart =>
    refine ⟨0, by omega, rfl, ?_, ArrI.new2 w (.cells (an 8 f) 80) 8 80 (fun _ => 0), ((Below.refl _ _).alloc (Nat.le_refl _) _).alloc (by simp) _⟩
    exact ((ArrI.new w 8 80 f).alloc _).congr (fun j hj => by
      obtain ⟨h1, h2⟩ := HF.out j hj
      exact (Int.emod_eq_of_lt h1 h2).symm)
  case round =>
    obtain ⟨k, hk, rfl, hA, hB, hbel⟩ := hrel
    by_cases hlt : k < 8
    · have hlt2 : (k : Int) < 8 := by omega
      obtain ⟨r, hr⟩ : ∃ r, r = 7 - k := ⟨_, rfl⟩
      have HR := hid hr
      have hr8 : r < 8 := by omega
      have hr9 : (r : Int) < 8 := by omega
      have e1 : (7 : Int) - (k : Int) = (r : Int) := by omega
      have hks : IntKind.i64.wrap ((k : Int) + 1) = (k : Int) + 1 := by rw [IntKind.wrap_i64]; omega
      have HSW := hid (HS.out.keep hbel.out)
      have hltA := hA.out.lt
      have hltB := hB.out.lt
      clear hr
      go_wp2_with (refine wpList_load_an rfl 80 _ rfl _ rfl _ _ _ _ _ hA.out Tryd.underlying80 (by kernel_rfl) ?_)
      refine (unmixed_any q n d b s (ust q d f k) wr h3 hm HSW.out (fun j _ => ust_bounds q d f k j h3)).mono ?_
      rintro e w1 ⟨rfl, hb1⟩
      have HA1 := hid (hA.out.below hb1 hltA)
      have HB1 := hid (hB.out.below hb1 hltB)
      have HBL1 : Hid (Below w.heap.size w w1) := hbel.out.trans (hb1.mono hbel.out.size)
      have HC : Hid (Hid (ArrI (w1.setRow w.heap.size (an 8 (umx q (ust q d f k)))) w.heap.size 80 8 (fll (unr q d r (ust q d f k)) (umx q (ust q d f k)) 0)) ∧ Hid (ArrI (w1.setRow w.heap.size (an 8 (umx q (ust q d f k)))) (w.heap.size + 1) 80 8 (fun _ => 0)) ∧ Hid (Below w.heap.size w (w1.setRow w.heap.size (an 8 (umx q (ust q d f k)))))) := by
        rw [fll_zero]
        exact ⟨HA1.out.setRow _, HB1.out.otherRow (by omega) _, below_setRow HBL1.out (Nat.le_refl _) _⟩
      clear hb1 hA hB hbel HB1 HBL1 HSW hltA hltB
      go_wp2_with (refine wpList_store_an rfl 80 _ _ rfl _ _ _ _ rfl rfl _ HA1.out (by kernel_rfl) ?_)
      clear HA1
      generalize w1.setRow w.heap.size (an 8 (umx q (ust q d f k))) = wo at *
      go_loopw [16] (fun jv wr => ∃ j : Nat, j ≤ 8 ∧ jv = .int .i64 j ∧ Hid (Hid (ArrI wr w.heap.size 80 8 (fll (unr q d r (ust q d f k)) (umx q (ust q d f k)) j)) ∧ Hid (ArrI wr (w.heap.size + 1) 80 8 (fun _ => 0)) ∧ Hid (Below w.heap.size w wr)))
        (fun jv _ => 8 - (intOf jv).toNat)
      case atStart => exact ⟨0, by omega, rfl, HC⟩
      case round =>
        obtain ⟨j, hj, rfl, hC⟩ := hrel
        obtain ⟨hA, hB, hbel⟩ := hC.out
        by_cases hjl : j < 8
        · have hjl2 : (j : Int) < 8 := by omega
          have c1 := hA.out.cell hjl
          have y1 := hA.out.frozen j
          rw [fll_at] at c1
          have HSW := hid (HS.out.keep hbel.out)
          have s0 := HSW.out.f
          have s2 := HSW.out.rt
          have s1 := HSW.out.cst r j hr8 hjl
          have hkj : IntKind.i64.wrap ((j : Int) + 1) = (j : Int) + 1 := by rw [IntKind.wrap_i64]; omega
          have HE : Hid (Hid (ArrI (wr.setCell ⟨w.heap.size, j, none⟩ (.int .i64 (unr q d r (ust q d f k) j))).drew w.heap.size 80 8 (fll (unr q d r (ust q d f k)) (umx q (ust q d f k)) (j + 1))) ∧ Hid (ArrI (wr.setCell ⟨w.heap.size, j, none⟩ (.int .i64 (unr q d r (ust q d f k) j))).drew (w.heap.size + 1) 80 8 (fun _ => 0)) ∧ Hid (Below w.heap.size w (wr.setCell ⟨w.heap.size, j, none⟩ (.int .i64 (unr q d r (ust q d f k) j))).drew)) :=
            ⟨hA.out.next, hB.out.other (a := ⟨w.heap.size, j, none⟩) (by simp) _, (hbel.out.setCell (p := ⟨w.heap.size, j, none⟩) (by simp) _).drew⟩
          have hb1 := umx_bounds q (ust q d f k) j h3
          have hb2 := cst_bounds q r j h3
          have HPW : Hid (((powz q (umx q (ust q d f k) j) d : Nat) : Int) = umx q (ust q d f k) j ^ d % (q : Int)) := powz_int q d _ HPR.out h3 hd1
          have hb4 := emod_bounds (umx q (ust q d f k) j ^ d) q h3
          have HU : Hid ((umx q (ust q d f k) j ^ d % (q : Int) - cst q r j) % (q : Int) = unr q d r (ust q d f k) j) := rfl
          generalize unr q d r (ust q d f k) j = x at *
          generalize umx q (ust q d f k) j ^ d % (q : Int) = t at *
          generalize umx q (ust q d f k) j = y at *
          generalize cst q r j = z at *
          have HMx := hid (pow_any q b y d wr.drew h3 hm HSW.out.p (by omega) (by omega) (by omega) (by omega))
          rw [HPW.out] at HMx
          have HMy := hid (sub_any q b t z wr.drew h3 hm HSW.out.p (by omega) (by omega) (by omega) (by omega))
          rw [HU.out] at HMy
          clear hA hB hbel hC HC hb1 hb2 HPW hb4 HU
          go_wp2_with fail
          go_still_tail 26, hmx
          still_call HMx.out
          repeat still_step
          still_call HMy.out
          repeat still_step
          refine wpStill_nil ?_
          go_wp2_with fail
          go_roundw
          case rel => exact ⟨j + 1, by omega, by go_num, HE⟩
          case measure => simp [intOf]; omega
        · obtain rfl : j = 8 := by omega
          have HA8 : Hid (ArrI wr w.heap.size 80 8 (ust q d f (k + 1))) := hA.out.congr (fun j hj => by rw [fll_all hj, HR.out]; rfl)
          have HB8 := hid hB.out
          have HBL := hid hbel.out
          clear hA hB hbel hC HC
          go_wp2_with fail
          go_roundw
          case rel => exact ⟨k + 1, by omega, by go_num, HA8, HB8, HBL⟩
          case measure => simp [intOf]; omega
    · obtain rfl : k = 8 := by omega
      go_wp2_with (first
        | (refine wpList_load_an rfl 80 _ rfl _ rfl _ _ _ _ _ hA.out Tryd.underlying80 (by kernel_rfl) ?_)
        | (refine wpList_store_an rfl 80 _ _ rfl _ _ _ _ rfl rfl _ hB.out (by kernel_rfl) ?_))
      refine bodyPost_ret (results_an rfl _ _ (w.heap.size + 1) 80 8 _ _ (ust q d f 8) rfl (hB.out.setRow _) Tryd.underlying80 (by kernel_rfl)) rfl ?_
      exact ⟨rfl, below_setRow hbel.out (by omega) _⟩

end Go.Proofs.YtfijhnojflcajadDoor
