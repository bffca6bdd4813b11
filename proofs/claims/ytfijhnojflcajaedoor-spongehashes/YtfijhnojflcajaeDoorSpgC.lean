/- Package sponge: matrixOf, weightsOf, constantsOf. -/
import Derived.Test.YtfijhnojflcajaeDoorSpgV
import Derived.Test.YtfijhnojflcajaeDoorSpgA
import Derived.Test.YtfijhnojflcajaeDoorRefD
namespace Go.Proofs.YtfijhnojflcajaeDoor
open Go.RowKit

/-- the matrix and the constants, as rows of one block -/
def mtr (q : Nat) (t : Nat) : Int := (invn q ((t / 8 + t % 8 + 8 : Nat) : Int) : Int)
def ctr (q : Nat) (t : Nat) : Int := cst q ((t / 8 : Nat) : Int) ((t % 8 : Nat) : Int)
theorem mtr_at (q i j : Nat) (hj : j < 8) : mtr q (i * 8 + j) = (invn q ((i + j + 8 : Nat) : Int) : Int) := by
  unfold mtr
  rw [show (i * 8 + j) / 8 = i from by omega, show (i * 8 + j) % 8 = j from by omega]
theorem ctr_at (q i j : Nat) (hj : j < 8) : ctr q (i * 8 + j) = cst q i j := by
  unfold ctr
  rw [show (i * 8 + j) / 8 = i from by omega, show (i * 8 + j) % 8 = j from by omega]

theorem inv_invn (p b : Nat) (a : Int) (w : World) (hpr : Num.Prime p) (h3 : 3 ≤ p) (hm : p ≤ 2147483647) (hp : w.cell? ⟨b, 0, none⟩ = some (.int .i64 p)) (ha : -9223372036854775808 ≤ a) (ha2 : a ≤ 9223372036854775807) :
    Calls Tryd.prog 54 #[.pointer (some ⟨b, 0, none⟩), .int .i64 a] w fun e w' => e = .returned (.int .i64 (invn p a)) ∧ w' = w := by
  have h := inv_any p b a w h3 hm hp ha ha2
  rwa [inv_ref p a hpr h3] at h

set_option maxRecDepth 100000 in
set_option maxHeartbeats 1000000 in
theorem matrixOf_any (q b : Nat) (w : World) (hpr : Num.Prime q) (h3 : 3 ≤ q) (hm : q ≤ 2147483647) (hp : w.cell? ⟨b, 0, none⟩ = some (.int .i64 q)) :
    Calls Tryd.prog 36 #[.pointer (some ⟨b, 0, none⟩)] w fun e w' => e = .returned (.agg (an 64 (mtr q))) ∧ Below w.heap.size w w' := by
  have hmx : Tryd.prog.follows .mixedOrders = true := by kernel_rfl
  have HPR := hid hpr
  have HP := hid hp
  have hbl := heap_lt hp
  clear hpr hp
  go_enter Tryd.func36, Tryd.ntmps36
  go_wp2_with fail
  go_loopw [5] (fun iv wr => ∃ k : Nat, k ≤ 8 ∧ iv = .int .i64 k ∧ Hid (Hid (ArrI wr w.heap.size 50 64 (fll (mtr q) (fun _ => 0) (k * 8))) ∧ Hid (Below w.heap.size w wr)))
    (fun iv _ => 8 - (intOf iv).toNat)
  case atStart =>
    refine ⟨0, by omega, rfl, ?_, (Below.refl _ _).alloc (Nat.le_refl _) _⟩
    rw [Nat.zero_mul, fll_zero]
    exact ArrI.new w 64 50 (fun _ => 0)
  case round =>
    obtain ⟨k, hk, rfl, HC⟩ := hrel
    by_cases hlt : k < 8
    · have hlt2 : (k : Int) < 8 := by omega
      have hks : IntKind.i64.wrap ((k : Int) + 1) = (k : Int) + 1 := by rw [IntKind.wrap_i64]; omega
      go_wp2_with fail
      obtain ⟨wo, rfl⟩ : ∃ wo, wo = wr := ⟨_, rfl⟩
      go_loopw [8] (fun jv wr => ∃ j : Nat, j ≤ 8 ∧ jv = .int .i64 j ∧ Hid (Hid (ArrI wr w.heap.size 50 64 (fll (mtr q) (fun _ => 0) (k * 8 + j))) ∧ Hid (Below w.heap.size w wr)))
        (fun jv _ => 8 - (intOf jv).toNat)
      case atStart => exact ⟨0, by omega, rfl, HC⟩
      case round =>
        obtain ⟨j, hj, rfl, hC⟩ := hrel
        obtain ⟨hA, hbel⟩ := hC.out
        by_cases hjl : j < 8
        · have hjl2 : (j : Int) < 8 := by omega
          have c1 := hA.out.cell (i := k * 8 + j) (by omega)
          have y1 := hA.out.frozen (k * 8 + j)
          have hkj : IntKind.i64.wrap ((j : Int) + 1) = (j : Int) + 1 := by rw [IntKind.wrap_i64]; omega
          have hw1 : IntKind.i64.wrap ((k : Int) + (j : Int)) = (k : Int) + (j : Int) := by rw [IntKind.wrap_i64]; omega
          have hw2 : IntKind.i64.wrap ((k : Int) + (j : Int) + 8) = (k : Int) + (j : Int) + 8 := by rw [IntKind.wrap_i64]; omega
          have HE : Hid (Hid (ArrI (wr.setCell ⟨w.heap.size, k * 8 + j, none⟩ (.int .i64 (mtr q (k * 8 + j)))).drew w.heap.size 50 64 (fll (mtr q) (fun _ => 0) (k * 8 + (j + 1)))) ∧ Hid (Below w.heap.size w (wr.setCell ⟨w.heap.size, k * 8 + j, none⟩ (.int .i64 (mtr q (k * 8 + j)))).drew)) :=
            ⟨hA.out.next, (hbel.out.setCell (p := ⟨w.heap.size, k * 8 + j, none⟩) (by simp) _).drew⟩
          have HMx := hid (inv_invn q b ((k : Int) + (j : Int) + 8) wr.drew HPR.out h3 hm ((hbel.out.cell (p := ⟨b, 0, none⟩) hbl).trans HP.out) (by omega) (by omega))
          rw [show ((invn q ((k : Int) + (j : Int) + 8) : Nat) : Int) = mtr q (k * 8 + j) from by rw [mtr_at q k j hjl]; push_cast; rfl] at HMx
          clear hA hbel hC HC
          generalize mtr q (k * 8 + j) = x at *
          go_wp2_with fail
          go_still_tail 9, hmx
          still_call HMx.out
          repeat still_step
          refine wpStill_nil ?_
          go_wp2_with fail
          go_roundw
          case rel => exact ⟨j + 1, by omega, by go_num, HE⟩
          case measure => simp [intOf]; omega
        · obtain rfl : j = 8 := by omega
          have HE : Hid (Hid (ArrI wr w.heap.size 50 64 (fll (mtr q) (fun _ => 0) ((k + 1) * 8))) ∧ Hid (Below w.heap.size w wr)) := by rw [Nat.add_mul, Nat.one_mul]; exact ⟨hA, hbel⟩
          clear hA hbel hC HC
          go_wp2_with fail
          go_roundw
          case rel => exact ⟨k + 1, by omega, by go_num, HE⟩
          case measure => simp [intOf]; omega
    · obtain rfl : k = 8 := by omega
      obtain ⟨hA, hbel⟩ := HC.out
      have HA8 : Hid (ArrI wr w.heap.size 50 64 (mtr q)) := hA.out.congr (fun j hj => fll_all hj)
      clear hA HC
      go_wp2_with (first
        | (refine wpList_load_an rfl 50 _ rfl _ rfl _ _ _ _ _ HA8.out Tryd.underlying50 (by kernel_rfl) ?_)
        | (refine wpList_store_an rfl 50 _ _ rfl _ _ _ _ rfl rfl _ HA8.out (by kernel_rfl) ?_))
      refine bodyPost_ret (results_an rfl _ _ w.heap.size 50 64 _ _ (mtr q) rfl (HA8.out.setRow _) Tryd.underlying50 (by kernel_rfl)) rfl ?_
      exact ⟨rfl, below_setRow hbel.out (Nat.le_refl _) _⟩

set_option maxRecDepth 100000 in
set_option maxHeartbeats 1000000 in
theorem constantsOf_any (q b : Nat) (w : World) (hpr : Num.Prime q) (h3 : 3 ≤ q) (hm : q ≤ 2147483647) (hp : w.cell? ⟨b, 0, none⟩ = some (.int .i64 q)) :
    Calls Tryd.prog 38 #[.pointer (some ⟨b, 0, none⟩)] w fun e w' => e = .returned (.agg (an 64 (ctr q))) ∧ Below w.heap.size w w' := by
  have hmx : Tryd.prog.follows .mixedOrders = true := by kernel_rfl
  have HPR := hid hpr
  have HP := hid hp
  have hbl := heap_lt hp
  clear hpr hp
  go_enter Tryd.func38, Tryd.ntmps38
  go_wp2_with fail
  go_loopw [5] (fun iv wr => ∃ k : Nat, k ≤ 8 ∧ iv = .int .i64 k ∧ Hid (Hid (ArrI wr w.heap.size 50 64 (fll (ctr q) (fun _ => 0) (k * 8))) ∧ Hid (Below w.heap.size w wr)))
    (fun iv _ => 8 - (intOf iv).toNat)
  case atStart =>
    refine ⟨0, by omega, rfl, ?_, (Below.refl _ _).alloc (Nat.le_refl _) _⟩
    rw [Nat.zero_mul, fll_zero]
    exact ArrI.new w 64 50 (fun _ => 0)
  case round =>
    obtain ⟨k, hk, rfl, HC⟩ := hrel
    by_cases hlt : k < 8
    · have hlt2 : (k : Int) < 8 := by omega
      have hks : IntKind.i64.wrap ((k : Int) + 1) = (k : Int) + 1 := by rw [IntKind.wrap_i64]; omega
      go_wp2_with fail
      obtain ⟨wo, rfl⟩ : ∃ wo, wo = wr := ⟨_, rfl⟩
      go_loopw [8] (fun jv wr => ∃ j : Nat, j ≤ 8 ∧ jv = .int .i64 j ∧ Hid (Hid (ArrI wr w.heap.size 50 64 (fll (ctr q) (fun _ => 0) (k * 8 + j))) ∧ Hid (Below w.heap.size w wr)))
        (fun jv _ => 8 - (intOf jv).toNat)
      case atStart => exact ⟨0, by omega, rfl, HC⟩
      case round =>
        obtain ⟨j, hj, rfl, hC⟩ := hrel
        obtain ⟨hA, hbel⟩ := hC.out
        by_cases hjl : j < 8
        · have hjl2 : (j : Int) < 8 := by omega
          have c1 := hA.out.cell (i := k * 8 + j) (by omega)
          have y1 := hA.out.frozen (k * 8 + j)
          have hkj : IntKind.i64.wrap ((j : Int) + 1) = (j : Int) + 1 := by rw [IntKind.wrap_i64]; omega
          have hw0 : IntKind.i64.wrap (8 * (k : Int)) = 8 * (k : Int) := by rw [IntKind.wrap_i64]; omega
          have hw1 : IntKind.i64.wrap (8 * (k : Int) + (j : Int)) = 8 * (k : Int) + (j : Int) := by rw [IntKind.wrap_i64]; omega
          have hw2 : IntKind.i64.wrap (8 * (k : Int) + (j : Int) + 1) = 8 * (k : Int) + (j : Int) + 1 := by rw [IntKind.wrap_i64]; omega
          have HE : Hid (Hid (ArrI (wr.setCell ⟨w.heap.size, k * 8 + j, none⟩ (.int .i64 (ctr q (k * 8 + j)))).drew w.heap.size 50 64 (fll (ctr q) (fun _ => 0) (k * 8 + (j + 1)))) ∧ Hid (Below w.heap.size w (wr.setCell ⟨w.heap.size, k * 8 + j, none⟩ (.int .i64 (ctr q (k * 8 + j)))).drew)) :=
            ⟨hA.out.next, (hbel.out.setCell (p := ⟨w.heap.size, k * 8 + j, none⟩) (by simp) _).drew⟩
          have hpw := (hbel.out.cell (p := ⟨b, 0, none⟩) hbl).trans HP.out
          have HMx := hid (pow_any q b (8 * (k : Int) + (j : Int) + 1) 5 wr.drew h3 hm hpw (by omega) (by omega) (by omega) (by omega))
          have HPW : Hid (((powz q (8 * (k : Int) + (j : Int) + 1) 5 : Nat) : Int) = (8 * (k : Int) + (j : Int) + 1) ^ 5 % (q : Int)) := powz_int q 5 _ HPR.out h3 (by omega)
          rw [HPW.out] at HMx
          have hb4 := emod_bounds ((8 * (k : Int) + (j : Int) + 1) ^ 5) q h3
          have HMy := hid (add_any q b ((8 * (k : Int) + (j : Int) + 1) ^ 5 % (q : Int)) 3 wr.drew h3 hm hpw (by omega) (by omega) (by omega) (by omega))
          rw [show ((8 * (k : Int) + (j : Int) + 1) ^ 5 % (q : Int) + 3) % (q : Int) = ctr q (k * 8 + j) from by
            rw [ctr_at q k j hjl, Int.emod_add_emod]; unfold cst; rw [if_neg (by omega)]] at HMy
          clear hA hbel hC HC hpw HPW hb4
          generalize ctr q (k * 8 + j) = x at *
          generalize (8 * (k : Int) + (j : Int) + 1) ^ 5 % (q : Int) = y at *
          go_wp2_with fail
          go_still_tail 12, hmx
          still_call HMx.out
          repeat still_step
          still_call HMy.out
          repeat still_step
          refine wpStill_nil ?_
          go_wp2_with fail
          go_roundw
          case rel => exact ⟨j + 1, by omega, by go_num, HE⟩
          case measure => simp [intOf]; omega
        · obtain rfl : j = 8 := by omega
          have HE : Hid (Hid (ArrI wr w.heap.size 50 64 (fll (ctr q) (fun _ => 0) ((k + 1) * 8))) ∧ Hid (Below w.heap.size w wr)) := by rw [Nat.add_mul, Nat.one_mul]; exact ⟨hA, hbel⟩
          clear hA hbel hC HC
          go_wp2_with fail
          go_roundw
          case rel => exact ⟨k + 1, by omega, by go_num, HE⟩
          case measure => simp [intOf]; omega
    · obtain rfl : k = 8 := by omega
      obtain ⟨hA, hbel⟩ := HC.out
      have HA8 : Hid (ArrI wr w.heap.size 50 64 (ctr q)) := hA.out.congr (fun j hj => fll_all hj)
      clear hA HC
      go_wp2_with (first
        | (refine wpList_load_an rfl 50 _ rfl _ rfl _ _ _ _ _ HA8.out Tryd.underlying50 (by kernel_rfl) ?_)
        | (refine wpList_store_an rfl 50 _ _ rfl _ _ _ _ rfl rfl _ HA8.out (by kernel_rfl) ?_))
      refine bodyPost_ret (results_an rfl _ _ w.heap.size 50 64 _ _ (ctr q) rfl (HA8.out.setRow _) Tryd.underlying50 (by kernel_rfl)) rfl ?_
      exact ⟨rfl, below_setRow hbel.out (Nat.le_refl _) _⟩

set_option maxRecDepth 100000 in
set_option maxHeartbeats 1000000 in
theorem weightsOf_any (q b : Nat) (w : World) (hpr : Num.Prime q) (h3 : 3 ≤ q) (hm : q ≤ 2147483647) (hp : w.cell? ⟨b, 0, none⟩ = some (.int .i64 q)) :
    Calls Tryd.prog 37 #[.pointer (some ⟨b, 0, none⟩)] w fun e w' => e = .returned (.agg (an 8 (wt q))) ∧ Below w.heap.size w w' := by
  have HPR := hid hpr
  have HP := hid hp
  have hbl := heap_lt hp
  clear hpr hp
  go_enter Tryd.func37, Tryd.ntmps37
  go_wp2_with fail
  go_loopw [7] (fun iv wr => ∃ i : Nat, i ≤ 8 ∧ iv = .int .i64 i ∧ Hid (Hid (ArrI wr w.heap.size 49 8 (fll (wt q) (fun _ => 0) i)) ∧ Hid (Below w.heap.size w wr)))
    (fun iv _ => 8 - (intOf iv).toNat)
  case atStart =>
    refine ⟨0, by omega, rfl, ?_, (Below.refl _ _).alloc (Nat.le_refl _) _⟩
    rw [fll_zero]
    exact ArrI.new w 8 49 (fun _ => 0)
  case round =>
    obtain ⟨i, hi, rfl, HC⟩ := hrel
    by_cases hlt : i < 8
    · have hlt2 : (i : Int) < 8 := by omega
      have hks : IntKind.i64.wrap ((i : Int) + 1) = (i : Int) + 1 := by rw [IntKind.wrap_i64]; omega
      go_wp2_with fail
      obtain ⟨wo, rfl⟩ : ∃ wo, wo = wr := ⟨_, rfl⟩
      go_loopw [4, 5, 10] (fun av bv jv wr => ∃ j : Nat, j ≤ 8 ∧ jv = .int .i64 j ∧ av = .int .i64 (Spo.pab i j % (q : Int)) ∧ bv = .int .i64 (Spo.pbe i j % (q : Int)) ∧ wr = wo)
        (fun _ _ jv _ => 8 - (intOf jv).toNat)
      case atStart => exact ⟨0, by omega, rfl, by rw [show Spo.pab i 0 % (q : Int) = 1 from Int.emod_eq_of_lt (by show (0 : Int) ≤ 1; decide) (by show (1 : Int) < _; omega)], by rw [show Spo.pbe i 0 % (q : Int) = 1 from Int.emod_eq_of_lt (by show (0 : Int) ≤ 1; decide) (by show (1 : Int) < _; omega)], rfl⟩
      case round =>
        obtain ⟨j, hj, rfl, rfl, rfl, rfl⟩ := hrel
        obtain ⟨hA, hbel⟩ := HC.out
        have hpw : Hid (wr.cell? ⟨b, 0, none⟩ = some (.int .i64 q)) := (hbel.out.cell (p := ⟨b, 0, none⟩) hbl).trans HP.out
        by_cases hjl : j < 8
        · have hjl2 : (j : Int) < 8 := by omega
          have hkj : IntKind.i64.wrap ((j : Int) + 1) = (j : Int) + 1 := by rw [IntKind.wrap_i64]; omega
          have hw1 : IntKind.i64.wrap ((i : Int) + (j : Int)) = (i : Int) + (j : Int) := by rw [IntKind.wrap_i64]; omega
          have hw2 : IntKind.i64.wrap ((i : Int) + (j : Int) + 8) = (i : Int) + (j : Int) + 8 := by rw [IntKind.wrap_i64]; omega
          have hw3 : IntKind.i64.wrap ((i : Int) - (j : Int)) = (i : Int) - (j : Int) := by rw [IntKind.wrap_i64]; omega
          have hb1 := emod_bounds (Spo.pab i j) q h3
          have hb2 := emod_bounds (Spo.pbe i j) q h3
          have HMx := hid (mul_any q b (Spo.pab i j % (q : Int)) ((i : Int) + (j : Int) + 8) wr h3 hm hpw.out (by omega) (by omega) (by omega) (by omega))
          rw [show Spo.pab i j % (q : Int) * ((i : Int) + (j : Int) + 8) % (q : Int) = Spo.pab i (j + 1) % (q : Int) from by rw [Int.mul_emod, Int.emod_emod_of_dvd _ (Int.dvd_refl _), ← Int.mul_emod]; rfl] at HMx
          by_cases hji : j = i
          · have hne : ((j : Int) != (i : Int)) = false := by rw [hji]; simp
            have HPB : Hid (Spo.pbe i j % (q : Int) = Spo.pbe i (j + 1) % (q : Int)) := by show _ = (if j = i then _ else _) % (q : Int); rw [if_pos hji]
            clear hji hA hbel
            go_wp2_with fail
            refine HMx.out.mono ?_
            rintro e w1 ⟨rfl, rfl⟩
            go_wp2_with fail
            go_roundw
            case rel => exact ⟨j + 1, by omega, by go_num, rfl, by rw [HPB.out], by first | rfl | trivial⟩
            case measure => simp [intOf]; omega
          · have hne : ((j : Int) != (i : Int)) = true := by rw [bne_iff_ne]; omega
            have HMy := hid (mul_any q b (Spo.pbe i j % (q : Int)) ((i : Int) - (j : Int)) wr h3 hm hpw.out (by omega) (by omega) (by omega) (by omega))
            rw [show Spo.pbe i j % (q : Int) * ((i : Int) - (j : Int)) % (q : Int) = Spo.pbe i (j + 1) % (q : Int) from by
              show _ = (if j = i then _ else _) % (q : Int)
              rw [if_neg hji, Int.mul_emod, Int.emod_emod_of_dvd _ (Int.dvd_refl _), ← Int.mul_emod]] at HMy
            clear hji hA hbel
            go_wp2_with fail
            refine HMx.out.mono ?_
            rintro e w1 ⟨rfl, rfl⟩
            go_wp2_with fail
            refine HMy.out.mono ?_
            rintro e w1 ⟨rfl, rfl⟩
            go_wp2_with fail
            go_roundw
            case rel => exact ⟨j + 1, by omega, by go_num, rfl, rfl, by first | rfl | trivial⟩
            case measure => simp [intOf]; omega
        · obtain rfl : j = 8 := by omega
          have c1 := hA.out.cell hlt
          have y1 := hA.out.frozen i
          have hb1 := emod_bounds (Spo.pab i 8) q h3
          have hb2 := emod_bounds (Spo.pbe i 8) q h3
          have HMx := hid (div_any q b (Spo.pab i 8 % (q : Int)) (Spo.pbe i 8 % (q : Int)) wr HPR.out h3 hm hpw.out (by omega) (by omega) (by omega) (by omega))
          rw [show Spo.pab i 8 % (q : Int) * (invn q (Spo.pbe i 8 % (q : Int)) : Int) % (q : Int) = wt q i from rfl] at HMx
          have HE : Hid (Hid (ArrI (wr.setCell ⟨w.heap.size, i, none⟩ (.int .i64 (wt q i))) w.heap.size 49 8 (fll (wt q) (fun _ => 0) (i + 1))) ∧ Hid (Below w.heap.size w (wr.setCell ⟨w.heap.size, i, none⟩ (.int .i64 (wt q i))))) :=
            ⟨hA.out.next, hbel.out.setCell (p := ⟨w.heap.size, i, none⟩) (by simp) _⟩
          clear hA hbel HC hb1 hb2
          generalize wt q i = x at *
          generalize Spo.pab i 8 % (q : Int) = y at *
          generalize Spo.pbe i 8 % (q : Int) = z at *
          go_wp2_with fail
          refine HMx.out.mono ?_
          rintro e w1 ⟨rfl, rfl⟩
          go_wp2_with fail
          go_roundw
          case rel => exact ⟨i + 1, by omega, by go_num, HE⟩
          case measure => simp [intOf]; omega
    · obtain rfl : i = 8 := by omega
      obtain ⟨hA, hbel⟩ := HC.out
      have HA8 : Hid (ArrI wr w.heap.size 49 8 (wt q)) := hA.out.congr (fun j hj => fll_all hj)
      clear hA HC
      go_wp2_with (first
        | (refine wpList_load_an rfl 49 _ rfl _ rfl _ _ _ _ _ HA8.out Tryd.underlying49 (by kernel_rfl) ?_)
        | (refine wpList_store_an rfl 49 _ _ rfl _ _ _ _ rfl rfl _ HA8.out (by kernel_rfl) ?_))
      refine bodyPost_ret (results_an rfl _ _ w.heap.size 49 8 _ _ (wt q) rfl (HA8.out.setRow _) Tryd.underlying49 (by kernel_rfl)) rfl ?_
      exact ⟨rfl, below_setRow hbel.out (Nat.le_refl _) _⟩

end Go.Proofs.YtfijhnojflcajaeDoor
