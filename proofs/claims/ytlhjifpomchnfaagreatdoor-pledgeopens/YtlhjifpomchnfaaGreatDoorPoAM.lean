
import Derived.Shelf.Spec.TrailingZeros
import Derived.Lib.TrailingZeros
import Derived.Test.YtlhjifpomchnfaaGreatDoorProg
import Derived.Test.YtlhjifpomchnfaaGreatDoorPoAL
import Derived.Test.YtlhjifpomchnfaaGreatDoorPoAI
import Derived.Test.YtlhjifpomchnfaaGreatDoorPoAJ
import Derived.RangeFuncNested
import Derived.RangeFuncBound
import Derived.RangeFuncCalls
import Derived.RangeFuncLeaves
import Derived.RangeFuncBox
import Derived.RangeFuncWrites
import Derived.Shelf.Abstract
import Derived.WalkKit
import Derived.OwnWalkIn
import Derived.TacticsInMore
import Derived.LoopNIn
import Derived.LoopIn
import Derived.RegionIn
import Derived.BigRegionIn
import Derived.Test.YtlhjifpomchnfaaGreatDoorChk
import Derived.Test.YtlhjifpomchnfaaGreatDoorPoAA
import Derived.Test.YtlhjifpomchnfaaGreatDoorPoAE
import Derived.Test.YtlhjifpomchnfaaGreatDoorCodA
import Derived.Test.YtlhjifpomchnfaaGreatDoorDoms
import Derived.Test.YtlhjifpomchnfaaGreatDoorTres
set_option maxRecDepth 1000000
set_option maxHeartbeats 8000000
namespace Go.Proofs
open Go.Shelf
def Tryz.laysTz_ren : Go.Shelf.Ren := ⟨fun | 27 => 80 | 28 => 151 | 29 => 152 | n => n, fun | 0 => 0 | 3 => 3 | 4 => 4 | 5 => 5 | 22 => 198 | 25 => 158 | 27 => 196 | 53 => 243 | 54 => 244 | n => n, fun | 0 => 1 | 1 => 2 | n => n⟩
theorem Tryz.laysTz : Go.Proofs.Lays7.n27 Tryz.prog Tryz.laysTz_ren := {
 mixed := by kernel_rfl
 f27 := Tryz.func80.trans (congrArg some (by kernel_rfl))
 f28 := Tryz.func151.trans (congrArg some (by kernel_rfl))
 f29 := Tryz.func152.trans (congrArg some (by kernel_rfl))
 t0 := Tryz.underlying0
 a0 := Tryz.isAgg0
 z0 := Tryz.sizeOf0
 v0 := Tryz.zeroValue0
 i0 := by kernel_rfl
 t3 := Tryz.underlying3
 a3 := Tryz.isAgg3
 z3 := Tryz.sizeOf3
 v3 := Tryz.zeroValue3
 i3 := by kernel_rfl
 t4 := Tryz.underlying4
 a4 := Tryz.isAgg4
 z4 := Tryz.sizeOf4
 v4 := Tryz.zeroValue4
 i4 := by kernel_rfl
 t5 := Tryz.underlying5
 a5 := Tryz.isAgg5
 z5 := Tryz.sizeOf5
 v5 := Tryz.zeroValue5
 i5 := by kernel_rfl
 t22 := Tryz.underlying198
 a22 := Tryz.isAgg198
 z22 := Tryz.sizeOf198
 v22 := Tryz.zeroValue198
 i22 := by kernel_rfl
 t25 := Tryz.underlying158
 a25 := Tryz.isAgg158
 z25 := Tryz.sizeOf158
 v25 := Tryz.zeroValue158
 i25 := by kernel_rfl
 t27 := Tryz.underlying196
 a27 := Tryz.isAgg196
 z27 := Tryz.sizeOf196
 v27 := Tryz.zeroValue196
 i27 := by kernel_rfl
 t53 := Tryz.underlying243
 a53 := Tryz.isAgg243
 z53 := Tryz.sizeOf243
 v53 := Tryz.zeroValue243
 i53 := by kernel_rfl
 t54 := Tryz.underlying244
 a54 := Tryz.isAgg244
 z54 := Tryz.sizeOf244
 g0 := by kernel_rfl
 g1 := by kernel_rfl }
theorem YtlhjifpomchnfaaGreatDoor.tz_any (x : Nat) (hx0 : x ≠ 0) (hx : x <= 2147483647) (w : World) (hT : TabAt 2 Lib.deBruijn64tab w) :
  Calls Tryz.prog 80 #[.int .u64 x] w fun e w' => ∃ S m : Nat, e = .returned (.int .i64 S) /\ S < 64 /\ x = 2 ^ S * (2 * m + 1) /\ w' = w := by
 refine (Any7.bits_TrailingZeros Tryz.laysTz x (by omega) w (fun _ => hT)).mono fun e w' ⟨he, hw⟩ => ?_
 obtain ⟨m, h1, h2⟩ := Lib.ctzFrom_spec 64 x (by omega) (Nat.lt_of_le_of_lt hx (by decide))
 refine ⟨Lib.ctz 64 x, m, he, ?_, ?_, hw⟩
 ·unfold Lib.ctz; rw [if_neg hx0]; exact h2
 ·unfold Lib.ctz; rw [if_neg hx0]; exact h1
end Go.Proofs
namespace Go.Proofs.YtlhjifpomchnfaaGreatDoor
open Go.RowKit
theorem pow_odd {S v m : Nat} (h : 2 ^ v = 2 ^ S * (2 * m + 1)) : S = v := by
 rcases Nat.lt_trichotomy S v with g | g | g
 ·obtain ⟨d, rfl⟩ : ∃ d, v = S + (d + 1) := ⟨v - S - 1, by omega⟩
  rw [Nat.pow_add] at h
  have := Nat.eq_of_mul_eq_mul_left (Nat.pow_pos (by decide)) h
  rw [Nat.pow_succ] at this
  omega
 ·exact g
 ·obtain ⟨d, rfl⟩ : ∃ d, S = v + (d + 1) := ⟨S - v - 1, by omega⟩
  rw [Nat.pow_add, Nat.mul_assoc] at h
  have h2 : 2 ^ v * 1 = 2 ^ v * (2 ^ (d + 1) * (2 * m + 1)) := by rw [Nat.mul_one]; exact h
  have := Nat.eq_of_mul_eq_mul_left (Nat.pow_pos (by decide)) h2
  have h3 : 2 ^ (d + 1) * (2 * m + 1) % 2 = 1 := by rw [<- this]
  rw [Nat.pow_succ, Nat.mul_right_comm, Nat.mul_mod_left] at h3
  omega
theorem vars_any (n v cap : Nat) (a : Option Addr) (w : World) (hv : v <= 12) (hn : n = 2 ^ v) (hT : TabAt 2 Lib.deBruijn64tab w) :
  Calls Tryz.prog 60 #[.slice a n cap] w fun e w' => e = .returned (.int .i64 (v : Int)) /\ w' = w := by
 have h1 := pow_12 hv
 have h0 : 0 < 2 ^ v := Nat.pow_pos (by decide)
 have HZ : Hid (Calls Tryz.prog 80 #[.int .u64 (n : Int)] w fun e w' => e = .returned (.int .i64 (v : Int)) /\ w' = w) := by
  refine (tz_any n (by omega) (by omega) w hT).mono ?_
  rintro e w' ⟨S, m, rfl, _, h, hw⟩
  rw [hn] at h
  rw [pow_odd h]
  exact ⟨rfl, hw⟩
 have hn2 : n <= 4096 := by omega
 clear hn hT h1 h0
 go_enter Tryz.func60, Tryz.ntmps60
 go_wp2_with fail
 refine HZ.out.mono ?_
 rintro e w1 ⟨rfl, rfl⟩
 go_wp2_with fail
 go_ret
 exact ⟨rfl, rfl⟩
open Go.RowKit Go.Shelf
theorem tabZ_below {w w' : World} (h : TabAt 2 Lib.deBruijn64tab w) (hb : Below w.heap.size w w') : TabAt 2 Lib.deBruijn64tab w' :=
 fun j hj => (hb.cell (p := ⟨2, j, none⟩) (cell_lt (h j hj))).trans (h j hj)
theorem tz_all (x : Nat) (hx0 : x ≠ 0) (hx : x < 18446744073709551616) (w : World) (hT : TabAt 2 Lib.deBruijn64tab w) :
  Calls Tryz.prog 80 #[.int .u64 x] w fun e w' => ∃ S m : Nat, e = .returned (.int .i64 S) /\ S < 64 /\ x = 2 ^ S * (2 * m + 1) /\ w' = w := by
 refine (Any7.bits_TrailingZeros Tryz.laysTz x (by omega) w (fun _ => hT)).mono fun e w' ⟨he, hw⟩ => ?_
 obtain ⟨m, h1, h2⟩ := Lib.ctzFrom_spec 64 x (by omega) hx
 refine ⟨Lib.ctz 64 x, m, he, ?_, ?_, hw⟩
 ·unfold Lib.ctz; rw [if_neg hx0]; exact h2
 ·unfold Lib.ctz; rw [if_neg hx0]; exact h1
theorem ones_all (n : Nat) (w : World) (h1 : n < 18446744073709551616) :
  Calls Tryz.prog 79 #[.int .u64 n] w fun e w' => e = .returned (.int .i64 (pnz n)) /\ w' = w := by
 have H := hid (ones64_all n w h1)
 go_enter Tryz.func79, Tryz.ntmps79
 go_wp2_with fail
 refine H.out.mono ?_
 rintro e w1 ⟨rfl, rfl⟩
 go_wp2_with fail
 go_ret
 exact ⟨rfl, rfl⟩
theorem shapeOf_any (d n k cap : Nat) (a : Option Addr) (g : Array Value) (q : Bool) (w : World) (hn : n <= 9223372036854775807) (hk : n = 2 ^ k)
  (hT : TabAt 2 Lib.deBruijn64tab w) (h1 : pnz n = 1) (hg : ∃ (x y : Option Addr) (z t : Int), g = #[.pointer x, .pointer y, .int .i64 z, .int .i64 t])
  (hS : ∀ W, Below w.heap.size w W -> Calls Tryz.prog 52 #[.pointer (some ⟨d, 0, none⟩), .int .i64 (k : Int)] W fun e w' => e = .returned (.tuple #[.agg g, .bool q]) /\ Below W.heap.size W w') :
  Calls Tryz.prog 30 #[.pointer (some ⟨d, 0, none⟩), .slice a n cap] w fun e w' => e = .returned (.tuple #[.agg g, .bool q]) /\ Below w.heap.size w w' := by
 obtain ⟨x, y, z, t, rfl⟩ := hg
 have h0 : 0 < 2 ^ k := Nat.pow_pos (by decide)
 have HZ : Hid (∀ W, Below w.heap.size w W -> Calls Tryz.prog 80 #[.int .u64 (n : Int)] W fun e w' => e = .returned (.int .i64 (k : Int)) /\ w' = W) := fun W hW => by
  refine (tz_all n (by omega) (by omega) W (tabZ_below hT hW)).mono ?_
  rintro e w' ⟨S, m, rfl, _, h, hw⟩
  rw [hk] at h
  rw [pow_odd h]
  exact ⟨rfl, hw⟩
 have HO : Hid (∀ W, Calls Tryz.prog 79 #[.int .u64 (n : Int)] W fun e w' => e = .returned (.int .i64 1) /\ w' = W) := fun W => by
  have h := ones_all n W (by omega)
  rw [h1] at h
  exact h
 have HS := hid hS
 obtain ⟨R, hR⟩ := exE (w.heap.size)
 obtain ⟨W0, hW0⟩ := exE (w.alloc (.cells #[.pointer none, .pointer none, .int .i64 0, .int .i64 0] 87))
 have hB0 := blA hW0
 have hQ0 : W0.rowIs R 87 4 (quad (.pointer none) (.pointer none) (.int .i64 0) (.int .i64 0)) := by rw [hW0, hR]; exact quad_new w _ _ _ _ _
 have HRR : Hid (∀ W, Below W0.heap.size W0 W -> W.rowIs R 87 4 (quad (.pointer none) (.pointer none) (.int .i64 0) (.int .i64 0))) := fun W hW => hQ0.of_block (hW.block R hQ0.lt)
 have HRW : Hid (w.heap.size <= R) := by unfold Hid; omega
 have HB0 := hid hB0
 clear hk hT h1 h0 hS hQ0 hB0
 go_enter Tryz.func30, Tryz.ntmps30
 go_wp2_with fail
 rw [<- hW0, <- hR]
 clear hW0 hR
 refine (HO.out _).mono ?_
 rintro e w1 ⟨rfl, hw1⟩
 have hw1' := hw1.symm
 subst hw1'
 clear hw1
 go_wp2_with fail
 refine (HZ.out _ HB0.out).mono ?_
 rintro e w2 ⟨rfl, hw2⟩
 have hw2' := hw2.symm
 subst hw2'
 clear hw2
 go_wp2_with fail
 refine (HS.out _ HB0.out).mono ?_
 rintro e w3 ⟨rfl, hw3⟩
 have hr := HRR.out w3 hw3
 have r0 : w3.cell? ⟨R, 0, none⟩ = some (.pointer none) := hr.cell (i := 0) (by omega)
 have r1 : w3.cell? ⟨R, 1, none⟩ = some (.pointer none) := hr.cell (i := 1) (by omega)
 have r2 : w3.cell? ⟨R, 2, none⟩ = some (.int .i64 0) := hr.cell (i := 2) (by omega)
 have r3 : w3.cell? ⟨R, 3, none⟩ = some (.int .i64 0) := hr.cell (i := 3) (by omega)
 have u0 : w3.frozen? ⟨R, 0, none⟩ = false := hr.frozen 0
 have u1 : w3.frozen? ⟨R, 1, none⟩ = false := hr.frozen 1
 have u2 : w3.frozen? ⟨R, 2, none⟩ = false := hr.frozen 2
 have u3 : w3.frozen? ⟨R, 3, none⟩ = false := hr.frozen 3
 have HR3 := hid hr
 have HB3 := hid (HB0.out.trans (hw3.mono HB0.out.size))
 clear hr hw3
 go_wp2_with fail
 refine bodyPost_ret (results_ct rfl _ _ R 87 #[.pointer x, .pointer y, .int .i64 z, .int .i64 t] (0, 0) _ rfl (quad_arr (quad_set HR3.out _ _ _ _)) Tryz.underlying87 rfl (by kernel_rfl)) rfl ?_
 exact ⟨rfl, (((HB3.out.setCell (p := ⟨R, 0, none⟩) HRW.out _).setCell (p := ⟨R, 1, none⟩) HRW.out _).setCell (p := ⟨R, 2, none⟩) HRW.out _).setCell (p := ⟨R, 3, none⟩) HRW.out _⟩
theorem shapeOf_yes (d b v N cap : Nat) (r s : Int) (a : Option Addr) (w : World) (hd : DomAt w d b (N : Int) r s) (hv : v <= 12) (hN : N <= 65536) (hT : TabAt 2 Lib.deBruijn64tab w) :
  Calls Tryz.prog 30 #[.pointer (some ⟨d, 0, none⟩), .slice a (2 ^ v) cap] w fun e w' => e = .returned (.tuple #[shV b d v, .bool (decide (2 ^ (v - v / 2) <= N / 2))]) /\ Below w.heap.size w w' := by
 have hp : 2 ^ v <= 2 ^ 12 := Nat.pow_le_pow_right (by decide) hv
 exact shapeOf_any d (2 ^ v) v cap a _ _ w (by omega) rfl hT (pnz_pow ⟨v, by omega⟩) ⟨_, _, _, _, rfl⟩ fun W hW => newShape_yes d b v N r s W (hd.below hW hd.lt) hv hN
theorem shapeOf_odd (d n cap c : Nat) (a : Option Addr) (w : World) (hn : n <= 9223372036854775807) (h1 : pnz n = c) (hc : c ≠ 1) :
  Calls Tryz.prog 30 #[.pointer (some ⟨d, 0, none⟩), .slice a n cap] w fun e w' => e = .returned (.tuple #[.agg #[.pointer none, .pointer none, .int .i64 0, .int .i64 0], .bool false]) /\ Below w.heap.size w w' := by
 have HO : Hid (∀ W, Calls Tryz.prog 79 #[.int .u64 (n : Int)] W fun e w' => e = .returned (.int .i64 (c : Int)) /\ w' = W) := fun W => by
  have h := ones_all n W (by omega)
  rw [h1] at h
  exact h
 have hq : ((c : Int) != 1) = true := by simp; omega
 obtain ⟨R, hR⟩ := exE (w.heap.size)
 obtain ⟨W0, hW0⟩ := exE (w.alloc (.cells #[.pointer none, .pointer none, .int .i64 0, .int .i64 0] 87))
 have hB0 := blA hW0
 have hQ0 : W0.rowIs R 87 4 (quad (.pointer none) (.pointer none) (.int .i64 0) (.int .i64 0)) := by rw [hW0, hR]; exact quad_new w _ _ _ _ _
 have HB0 := hid hB0
 have HQ0 := hid hQ0
 have HRW : Hid (w.heap.size <= R) := by unfold Hid; omega
 have r0 : W0.cell? ⟨R, 0, none⟩ = some (.pointer none) := hQ0.cell (i := 0) (by omega)
 have r1 : W0.cell? ⟨R, 1, none⟩ = some (.pointer none) := hQ0.cell (i := 1) (by omega)
 have r2 : W0.cell? ⟨R, 2, none⟩ = some (.int .i64 0) := hQ0.cell (i := 2) (by omega)
 have r3 : W0.cell? ⟨R, 3, none⟩ = some (.int .i64 0) := hQ0.cell (i := 3) (by omega)
 have u0 : W0.frozen? ⟨R, 0, none⟩ = false := hQ0.frozen 0
 have u1 : W0.frozen? ⟨R, 1, none⟩ = false := hQ0.frozen 1
 have u2 : W0.frozen? ⟨R, 2, none⟩ = false := hQ0.frozen 2
 have u3 : W0.frozen? ⟨R, 3, none⟩ = false := hQ0.frozen 3
 clear h1 hQ0 hB0
 go_enter Tryz.func30, Tryz.ntmps30
 go_wp2_with fail
 rw [<- hW0, <- hR]
 clear hW0 hR
 refine (HO.out _).mono ?_
 rintro e w1 ⟨rfl, hw1⟩
 have hw1' := hw1.symm
 subst hw1'
 clear hw1
 go_wp2_with fail
 refine bodyPost_ret (results_ct rfl _ _ R 87 #[.pointer none, .pointer none, .int .i64 0, .int .i64 0] (0, 0) _ rfl (quad_arr (quad_set HQ0.out _ _ _ _)) Tryz.underlying87 rfl (by kernel_rfl)) rfl ?_
 exact ⟨rfl, (((HB0.out.setCell (p := ⟨R, 0, none⟩) HRW.out _).setCell (p := ⟨R, 1, none⟩) HRW.out _).setCell (p := ⟨R, 2, none⟩) HRW.out _).setCell (p := ⟨R, 3, none⟩) HRW.out _⟩
theorem shapeOf_no (d n cap : Nat) (a : Option Addr) (w : World) (hn : n <= 9223372036854775807) (h : ∀ v, v <= 12 -> n ≠ 2 ^ v) (hT : TabAt 2 Lib.deBruijn64tab w) :
  Calls Tryz.prog 30 #[.pointer (some ⟨d, 0, none⟩), .slice a n cap] w fun e w' => e = .returned (.tuple #[.agg #[.pointer none, .pointer none, .int .i64 0, .int .i64 0], .bool false]) /\ Below w.heap.size w w' := by
 by_cases h1 : pnz n = 1
 ·obtain ⟨k, hk⟩ := pnz_two (by omega) h1
  have h12 : 12 < k := Nat.lt_of_not_le fun hle => h k hle hk
  exact shapeOf_any d n k cap a _ _ w hn hk hT h1 ⟨_, _, _, _, rfl⟩ fun W _ => newShape_no d k W (Or.inr (by omega))
 ·exact shapeOf_odd d n cap _ a w hn rfl h1
attribute [local go_sem] Oper.semAt_some
def chv (ap o st j : Nat) : Value := .slice (some ⟨ap, o + st * j, none⟩) st st
theorem chunkS_in (F : Fence) (n : Nat) (hf : F.fn 199) (hro : F.round = none) (hn : 1 <= n) (l Bs ap o L cp st m : Nat) (hL : L = st * m) (hst : 1 <= st) (hLc : L <= cp) (hlen : L <= 140737488351232) (J Jx : List (Fin m) -> World -> Prop)
  (hAb : ∀ s A B, J s A -> A.grownBy B none -> J s B)
  (hY : ∀ pre x W, J pre W -> pre.length < m -> YieldAt F (n - 1) Tryz.prog l #[.slice (some ⟨ap, o + st * x.val, none⟩) st st] W fun e W' =>
   (e = .returned (.bool true) /\ J (pre ++ [x]) W' /\ KeepsC Bs W W') ∨ (e = .returned (.bool false) /\ Jx (pre ++ [x]) W'))
  (W : World) (hBs : W.cell? ⟨Bs, 0, none⟩ = some (.slice (some ⟨ap, o, none⟩) L cp)) (hBn : W.cell? ⟨Bs + 1, 0, none⟩ = some (.int .i64 (st : Int))) (h0 : J [] W) :
  CallsIn F n Tryz.prog 199 #[.func (.yield l) #[] #[], .pointer (some ⟨Bs, 0, none⟩), .pointer (some ⟨Bs + 1, 0, none⟩)] W fun e W' => (∃ v, e = .returned v) /\
   ((∃ ys, CameC ys m /\ J ys W') ∨ (∃ pre, True /\ Jx pre W')) := by
 have hmx : Tryz.prog.follows .mixedOrders = true := by kernel_rfl
 have HLM := hid hL
 clear hL
 refine callsIn_of_wp Tryz.func199 rfl hf ?_ hro
 simp only [Tryz.ntmps199, List.size_toArray, List.length_cons, List.length_nil, Nat.reduceAdd, Nat.reduceSub, Array.replicate_succ, Array.replicate_zero, List.push_toArray, List.append_toArray, List.nil_append, List.cons_append]
 gi_wp2
 gi_loopw [4] (fun i wr => ∃ (k : Nat) (pre : List (Fin m)) (I : Nat), k <= m /\ i = .int .i64 (I : Int) /\ Hid (I = st * k) /\ Hid (CameC pre k) /\ J pre wr /\ Hid (KeepsC Bs W wr))
  (fun i _ => L - (intOf i).toNat)
 case atStart => exact ⟨0, [], 0, by omega, rfl, rfl, cameC_nil m, h0, KeepsC.refl _ _⟩
 case round =>
  obtain ⟨k, pre, I, hk, rfl, hI, hcame, hJs, hkp⟩ := hrel
  have hBs2 := hkp.out.1.trans hBs
  have hBn2 := hkp.out.2.trans hBn
  by_cases hlt : k < m
  ·have HI2 : Hid (I + st = st * (k + 1)) := by have := hI.out; unfold Hid; rw [Nat.mul_succ]; omega
   have hIL : I + st <= L := by rw [HI2.out, HLM.out]; exact Nat.mul_le_mul_left _ (by omega)
   have hlt2 : (I : Int) < (L : Int) := by omega
   have hle2 : (I : Int) <= (L : Int) := by omega
   have hle3 : (I : Int) <= (cp : Int) := by omega
   obtain ⟨hJd⟩ : Nonempty (Hid (J pre wr.drew)) := ⟨hAb pre wr wr.drew hJs ⟨rfl, rfl, rfl, Nat.le_refl _, fun _ _ _ => rfl⟩⟩
   obtain ⟨fn, tmps, assign, body, hy, hR⟩ := hY pre ⟨k, hlt⟩ wr.drew hJd.out (by rw [cameC_length hcame.out]; omega)
   have HCM := hid (cameC_snoc hcame.out ⟨k, hlt⟩ rfl)
   have hmin : min (st : Int) ((L - I : Nat) : Int) = (st : Int) := by omega
   have hto : ((I : Int) + (st : Int)).toNat - I = st := by omega
   have hs1 : (I : Int) + (st : Int) <= (L : Int) := by omega
   have hs2 : (I : Int) + (st : Int) <= (cp : Int) := by omega
   have hs3 : (I : Int) <= (I : Int) + (st : Int) := by omega
   have hw1 : IntKind.i64.wrap ((I : Int) + (st : Int)) = (I : Int) + (st : Int) := by rw [IntKind.wrap_i64]; omega
   dsimp only at hy
   rw [<- hI.out] at hy
   gi_wp2
   gi_region
   all_goals
    gi_wp2
   all_goals
    refine hR.mono ?_
    rintro e W3 (⟨rfl, hJ3, hk3⟩ | ⟨rfl, hJx3⟩)
    ·have HK3 : Hid (KeepsC Bs W W3) := hkp.out.trans ((show KeepsC Bs wr W3 from hk3))
     have hBn3 := HK3.out.2.trans hBn
     clear hk3 hkp hBs2 hBn2
     gi_wp2
     go_roundw
     case rel => exact ⟨k + 1, _, I + st, by omega, by go_num, HI2, HCM, hJ3, HK3⟩
     case measure => simp [intOf]; omega
    ·gi_wp2
     refine bodyPost_ret (results_none rfl _ _ _) rfl ?_
     exact ⟨⟨_, rfl⟩, .inr ⟨_, trivial, hJx3⟩⟩
  ·obtain rfl : k = m := by omega
   have hge : ¬ (I : Int) < (L : Int) := by have h1 := hI.out; have h2 := HLM.out; omega
   gi_wp2
   go_end0
   exact ⟨⟨_, rfl⟩, .inl ⟨_, hcame.out, hJs⟩⟩
theorem chunkS_stops (F : Fence) (n : Nat) (hf : F.fn 199) (hro : F.round = none) (hn : 1 <= n) (Bs ap o L cp st m : Nat) (hL : L = st * m) (hst : 1 <= st) (hLc : L <= cp) (hlen : L <= 140737488351232) (w : World)
  (hBs : w.cell? ⟨Bs, 0, none⟩ = some (.slice (some ⟨ap, o, none⟩) L cp)) (hBn : w.cell? ⟨Bs + 1, 0, none⟩ = some (.int .i64 (st : Int))) (hbs : Bs + 1 < w.heap.size) :
  SeqStopsK F n Tryz.prog 199 #[.pointer (some ⟨Bs, 0, none⟩), .pointer (some ⟨Bs + 1, 0, none⟩)] (fun x : Fin m => #[chv ap o st x.val]) (KeepsC Bs) (fun ys => CameC ys m)
   (fun _ => True) m w := fun l J Jx W hW hJ _ hY h0 =>
 chunkS_in F n hf hro hn l Bs ap o L cp st m hL hst hLc hlen J Jx (fun s A B h1 h2 => hJ s A B none h1 h2 (fun _ e => by cases e)) hY W ((hW.cell (p := ⟨Bs, 0, none⟩) (by show Bs < _; omega)).trans hBs) ((hW.cell (p := ⟨Bs + 1, 0, none⟩) hbs).trans hBn) h0
theorem appendChunk_any (Bs ap o L cp st m : Nat) (w : World) (hL : L = st * m) (hst : 1 <= st) (hLc : L <= cp) (hlen : L <= 1000000) (hm : m <= 1000000) (hc : w.cell? ⟨Bs, 0, none⟩ = some (.slice (some ⟨ap, o, none⟩) L cp)) (hc2 : w.cell? ⟨Bs + 1, 0, none⟩ = some (.int .i64 (st : Int))) :
  Calls Tryz.prog 201 #[.slice none 0 0, .func (.func 199) #[] #[.pointer (some ⟨Bs, 0, none⟩), .pointer (some ⟨Bs + 1, 0, none⟩)]] w fun e w' => ∃ v, e = .returned v /\ w'.ownsRow w.heap.size 22 1 v m ((List.range m).map (chv ap o st)) /\ Below w.heap.size w w' := by
 have hbs : Bs + 1 < w.heap.size := heap_lt hc2
 obtain ⟨i0, hi, hz0, hz1, hz2⟩ := info_parts Tryz.infoSl
 refine (callsIn_wide (n := 8)).1 ?_
 refine callsIn_of_wp_marks Tryz.func201 rfl trivial ?_ rfl
 simp only [Tryz.ntmps201, List.size_toArray, List.length_cons, List.length_nil, Nat.reduceAdd, Nat.reduceSub, Array.replicate_succ, Array.replicate_zero, List.push_toArray, List.append_toArray, List.nil_append, List.cons_append]
 gi_wp2
 have bO := Boxed.new w 29 (.slice none 0 0)
 have hB0 : Below w.heap.size w (w.alloc (.cells #[.slice none 0 0] 29)) := (Below.refl _ w).alloc (Nat.le_refl _) _
 have hc0 := (hB0.cell (p := ⟨Bs, 0, none⟩) (by show Bs < _; omega)).trans hc
 have hc1 := (hB0.cell (p := ⟨Bs + 1, 0, none⟩) hbs).trans hc2
 refine wpIn_rangeFunc_ownG rfl (by omega) (gf := 199) (lb := #[.pointer (some ⟨Bs, 0, none⟩), .pointer (some ⟨Bs + 1, 0, none⟩)]) rfl trivial (enters_of Tryz.func199 (by kernel_rfl) (by kernel_rfl))
  (chunkS_stops Fence.wide 7 trivial rfl (by omega) Bs ap o L cp st m hL hst hLc (by omega) (w.alloc (.cells #[.slice none 0 0] 29)) hc0 hc1 (by simp; omega))
  (fun h k => h.trans k)
  (fun W l q q' hl h h1 h2 => ⟨World.cell?_of_block (World.putObj_heap_other (by simp at hl; show Bs ≠ l; omega)), World.cell?_of_block (World.putObj_heap_other (by simp at hl; show Bs + 1 ≠ l; omega))⟩)
  (Below.refl _ _) (fun _ => rfl)
  (fun (pre : List (Fin m)) W => (∃ v, Boxed W w.heap.size 29 v /\ W.ownsRow w.heap.size 22 1 v pre.length (pre.map fun x => chv ap o st x.val) /\ (v = .slice none 0 0 ↔ pre = [])) /\ Below w.heap.size w W)
  (fun _ _ _ => False)
  (OwnFrom.and (Own.from (holdsRow_own w.heap.size w.heap.size 29 22 1 (fun pre : List (Fin m) => pre.length) (fun pre => pre.map fun x => chv ap o st x.val) (fun pre v => v = .slice none 0 0 ↔ pre = [])) _) (ownFrom_below (Nat.le_refl _) (by simp)))
  (fun _ _ _ _ _ hs _ _ => hs)
  ⟨⟨_, bO, World.ownsRow_nil _ _ _ _, by simp⟩, hB0⟩
  (fun x => { tmps := #[.slice none 0 0, .func (.func 199) #[] #[.pointer (some ⟨Bs, 0, none⟩), .pointer (some ⟨Bs + 1, 0, none⟩)], .pointer (some ⟨w.heap.size, 0, none⟩), undef, .slice none 0 0, chv ap o st x.val, .func (.func 199) #[] #[.pointer (some ⟨Bs, 0, none⟩), .pointer (some ⟨Bs + 1, 0, none⟩)], chv ap o st x.val, undef, undef, undef, undef, undef], defers := [] }) ?assign ?body ?done ?stop
 case assign =>
  intro l x W K hK
  gi_wp2
  exact hK
 case body =>
  rintro l pre x W ⟨⟨v, hv, hrow, hnil⟩, hB⟩ hlt
  have hcv := hv.cell
  unfold chv at hrow ⊢
  gi_wp2_with (gi_at_builtin; refine wpListIn_append_own _ rfl _ _ 29 rfl w.heap.size 22 i0 (.slice none 0 0) 1 24 Tryz.underlying29 hi hz0 hz1 hz2 rfl (by decide) _ _ _ rfl (hrow.alloc _) ⟨W.heap.size, 0, none⟩ 1 1 [.slice (some ⟨ap, o + st * x.val, none⟩) st st] rfl rfl (cell_one_new _ _ _) (by simp [Value.oneCell']) (by unfold maxLen; omega) (by omega) (by have := hB.size; simp; omega) ?_; intro v' w1 hown' hgrow _; obtain ⟨g', cap', rfl⟩ := ownsRow_succ hown'; obtain ⟨hv1, hv2, hr2, hk2, hb2⟩ := hv.appended (by decide) hrow hB.size (Nat.le_refl _) hown' hgrow; have hc1 := hv1.cell; have hf1 := hv1.frozen)
  exact ⟨hk2.from _, ⟨hb2.cell (p := ⟨Bs, 0, none⟩) (by show Bs < w.heap.size; omega), hb2.cell (p := ⟨Bs + 1, 0, none⟩) hbs⟩, ⟨_, hv2, by simpa using hr2, by simp⟩, hB.trans hb2⟩
 case done =>
  rintro D ys W hD hys ⟨⟨v, hv, hrow, hnil⟩, hB⟩ hK
  have hcv := hv.cell
  have hym : ys.length = m := cameC_length hys
  have hyr : (ys.map fun x => chv ap o st x.val) = (List.range m).map (chv ap o st) := by
   have h : ys.map (fun i => i.val) = List.range m := hys
   rw [<- h, List.map_map]
   rfl
  rw [hym, hyr] at hrow
  gi_wp2
  refine ⟨by simp, .inl ⟨_, _, rfl, run_takeDeferred hK, ?_⟩⟩
  exact ⟨_, results_tmp rfl _ _ _, v, rfl, ownsRow_putObj hrow _ hK rfl, hB.trans (belowK_b (w := w) (Nat.le_refl _) W D _ _ (by simp at hD; omega) hK rfl rfl)⟩
 case stop =>
  rintro D c pre W _ _ h _
  exact h.elim
def rwl (st m : Nat) (t : List Int) : List (List Int) := (List.range m).map fun j => (t.drop (st * j)).take st
theorem rwl_len (st m : Nat) (t : List Int) : (rwl st m t).length = m := by simp [rwl]
theorem rwl_at {st m : Nat} (t : List Int) {j : Nat} (h : j < m) : rat (rwl st m t) j = (t.drop (st * j)).take st := by
 unfold rat rwl
 rw [List.getD_eq_getElem?_getD]
 simp [h]
theorem rwl_wide {st m : Nat} {t : List Int} (ht : t.length = st * m) {j : Nat} (h : j < m) : (rat (rwl st m t) j).length = st := by
 rw [rwl_at t h, List.length_take, List.length_drop, ht]
 have h1 : st * (j + 1) <= st * m := Nat.mul_le_mul_left _ (by omega)
 rw [Nat.mul_succ] at h1
 omega
theorem rwl_zat {st m : Nat} {t : List Int} {j i : Nat} (h : j < m) (hi : i < st) : zat (rat (rwl st m t) j) i = zat t (st * j + i) := by
 rw [rwl_at t h]
 unfold zat
 rw [List.getElem?_take_of_lt hi, List.getElem?_drop]
theorem rwl_fits {st m : Nat} {t : List Int} (ht : t.length = st * m) (hf : Fits t) (hst : st <= 4096) : FitsR (rwl st m t) := fun k hk => by
 rw [rwl_len] at hk
 refine ⟨fun j hj => ?_, by rw [rwl_wide ht hk]; omega⟩
 rw [rwl_wide ht hk] at hj
 rw [rwl_zat hk hj]
 exact hf.all _
theorem rows_of_owns {base ap o st m : Nat} {w : World} {v : Value} {t : List Int} (ht : t.length = st * m) (h : w.ownsRow base 22 1 v m ((List.range m).map (chv ap o st))) (hr : RowB w.heap.size w (some ⟨ap, o, none⟩) t) : ∃ a c, v = .slice a m c /\ LstR w.heap.size w a c (rwl st m t) := by
 rcases h.2 with ⟨rfl, h0⟩ | ⟨g, cap, cur, rfl, hb, hg, hn, hm, hs, hx⟩
 ·subst h0
  exact ⟨none, 0, rfl, fun k hk => by rw [rwl_len] at hk; omega, by rw [rwl_len]; omega, fun _ => rfl⟩
 ·refine ⟨some ⟨g, 0, none⟩, cap, rfl, fun k hk => ?_, by rw [rwl_len]; exact hn, fun e => by cases e⟩
  rw [rwl_len] at hk
  refine ⟨g, 0, some ⟨ap, o + st * k, none⟩, st, rfl, (Array.getElem?_eq_some_iff.1 hg).1, ?_, ⟨fun i hi => ?_, by rw [rwl_wide ht hk]; exact Nat.le_refl _, fun e => by cases e⟩⟩
  ·rw [Nat.zero_add, h.cellAt k (by omega), rwl_wide ht hk]
   simp [chv, hk]
  ·rw [rwl_wide ht hk] at hi
   have h1 : st * (k + 1) <= st * m := Nat.mul_le_mul_left _ (by omega)
   rw [Nat.mul_succ] at h1
   obtain ⟨b, o', e1, e2, e3⟩ := hr (st * k + i) (by omega)
   cases e1
   exact ⟨ap, o + st * k, rfl, e2, by rw [rwl_zat hk hi, Nat.add_assoc]; exact e3⟩
theorem collectChunk_any (Bs ap o L cp st m : Nat) (w : World) (hL : L = st * m) (hst : 1 <= st) (hLc : L <= cp) (hlen : L <= 1000000) (hm : m <= 1000000) (hc : w.cell? ⟨Bs, 0, none⟩ = some (.slice (some ⟨ap, o, none⟩) L cp)) (hc2 : w.cell? ⟨Bs + 1, 0, none⟩ = some (.int .i64 (st : Int))) :
  Calls Tryz.prog 153 #[.func (.func 199) #[] #[.pointer (some ⟨Bs, 0, none⟩), .pointer (some ⟨Bs + 1, 0, none⟩)]] w fun e w' => ∃ v, e = .returned v /\ w'.ownsRow w.heap.size 22 1 v m ((List.range m).map (chv ap o st)) /\ Below w.heap.size w w' := by
 have HA := hid (appendChunk_any Bs ap o L cp st m w hL hst hLc hlen hm hc hc2)
 clear hc hc2 hL
 go_enter Tryz.func153, Tryz.ntmps153
 go_wp2_with fail
 refine HA.out.mono ?_
 rintro e w1 ⟨v, rfl, h⟩
 have H := hid h
 clear h
 go_wp2_with fail
 go_ret
 exact ⟨v, rfl, H.out⟩
theorem chunkS_any (a : Option Addr) (len cap st : Nat) (w : World) (hst : 1 <= st) :
  Calls Tryz.prog 145 #[.slice a len cap, .int .i64 (st : Int)] w fun e w' => e = .returned (.func (.func 199) #[] #[.pointer (some ⟨w.heap.size, 0, none⟩), .pointer (some ⟨w.heap.size + 1, 0, none⟩)]) /\ w' = (w.alloc (.cells #[.slice a len cap] 22)).alloc (.cells #[.int .i64 (st : Int)] 3) := by
 have h1 : ¬ (st : Int) < 1 := by omega
 go_enter Tryz.func145, Tryz.ntmps145
 go_wp2_with fail
 go_ret
 exact ⟨rfl, rfl⟩
theorem two_cells (w : World) (x y : Value) (t u : TypeId) : ((w.alloc (.cells #[x] t)).alloc (.cells #[y] u)).cell? ⟨w.heap.size, 0, none⟩ = some x /\ ((w.alloc (.cells #[x] t)).alloc (.cells #[y] u)).cell? ⟨w.heap.size + 1, 0, none⟩ = some y := by
 have hs : (w.alloc (.cells #[x] t)).heap.size = w.heap.size + 1 := by simp
 have e2 := heap_alloc_new (w.alloc (.cells #[x] t)) (.cells #[y] u)
 rw [hs] at e2
 have e1 := ((Below.refl (w.alloc (.cells #[x] t)).heap.size (w.alloc (.cells #[x] t))).alloc (Nat.le_refl _) (.cells #[y] u)).block w.heap.size (by omega)
 rw [heap_alloc_new w _] at e1
 exact ⟨by unfold World.cell?; rw [e1]; rfl, by unfold World.cell?; rw [e2]; rfl⟩
theorem prows_own (b d v ap o cp m : Nat) (t : List Int) (w : World) (hv : v <= 12) (ht : t.length = 2 ^ v) (hm : 2 ^ v = 2 ^ (v - v / 2) * m) (hl : Lst w.heap.size w (some ⟨ap, o, none⟩) cp t) :
  Calls Tryz.prog 81 #[shV b d v, .slice (some ⟨ap, o, none⟩) (2 ^ v) cp] w fun e w' => ∃ x, e = .returned x /\ w'.ownsRow w.heap.size 22 1 x m ((List.range m).map (chv ap o (2 ^ (v - v / 2)))) /\ Below w.heap.size w w' := by
 have hle : 2 ^ v <= 4096 := by have := Nat.pow_le_pow_right (show 0 < 2 by omega) hv; omega
 have hst1 : 1 <= 2 ^ (v - v / 2) := Nat.one_le_two_pow
 have hmle : m <= 2 ^ v := by rw [hm]; exact Nat.le_mul_of_pos_left _ hst1
 have hWD := wide_any (.pointer (some ⟨b, 0, none⟩)) (.pointer (some ⟨d, 0, none⟩)) ((v / 2 : Nat) : Int) (v - v / 2)
 have HWD := hid (fun W => hWD W (by omega))
 obtain ⟨st, hst⟩ := exE (2 ^ (v - v / 2))
 obtain ⟨L, hL⟩ := exE (2 ^ v)
 rw [<- hst] at HWD hst1 ⊢
 rw [<- hL] at hle hmle ⊢
 have HLC : Hid (L = st * m /\ L <= cp) := ⟨by rw [hL, hst]; exact hm, by have := hl.room; omega⟩
 have HTL : Hid (t.length = st * m) := by unfold Hid; rw [ht, hst]; exact hm
 have HL := hid hl
 obtain ⟨W0, hW0⟩ := exE (w.alloc (.cells #[.pointer (some ⟨b, 0, none⟩), .pointer (some ⟨d, 0, none⟩), .int .i64 ((v / 2 : Nat) : Int), .int .i64 ((v - v / 2 : Nat) : Int)] 87))
 have HB0 : Hid (Below w.heap.size w W0) := by rw [hW0]; exact (Below.refl _ _).alloc (Nat.le_refl _) _
 have HW0 := hid hW0
 unfold shV
 generalize ((v / 2 : Nat) : Int) = hi at *
 generalize ((v - v / 2 : Nat) : Int) = lo at *
 clear hW0 hl ht hm hst hL hv hWD
 go_enter Tryz.func81, Tryz.ntmps81
 go_wp2_with fail
 rw [<- HW0.out]
 refine (HWD.out W0).mono ?_
 rintro e w1 ⟨rfl, hb1⟩
 have HB1 : Hid (Below w.heap.size w w1) := HB0.out.trans (hb1.mono HB0.out.size)
 clear hb1
 go_wp2_with fail
 refine (chunkS_any (some ⟨ap, o, none⟩) L cp st w1 hst1).mono ?_
 rintro e w2 ⟨rfl, hw2⟩
 obtain ⟨Bs, hBs⟩ := exE (w1.heap.size)
 have hb2 : Below w1.heap.size w1 w2 := by rw [hw2]; exact ((Below.refl _ _).alloc (Nat.le_refl _) _).alloc (by simp) _
 obtain ⟨e1, e2⟩ := two_cells w1 (.slice (some ⟨ap, o, none⟩) L cp) (.int .i64 (st : Int)) 22 3
 rw [<- hw2, <- hBs] at e1 e2
 have hc1 : w2.cell? ⟨Bs, 0, none⟩ = some (.slice (some ⟨ap, o, none⟩) L cp) := e1
 have hc2 : w2.cell? ⟨Bs + 1, 0, none⟩ = some (.int .i64 (st : Int)) := e2
 have HCO := hid (collectChunk_any Bs ap o L cp st m w2 HLC.out.1 hst1 HLC.out.2 (by omega) (by omega) hc1 hc2)
 have HB2 : Hid (Below w.heap.size w w2) := HB1.out.trans (hb2.mono HB1.out.size)
 rw [<- hBs]
 clear hw2 hBs hb2 hc1 hc2 HWD
 go_wp2_with fail
 refine HCO.out.mono ?_
 rintro e w3 ⟨vv, rfl, ho3, hb3⟩
 have HB3 : Hid (Below w.heap.size w w3) := HB2.out.trans (hb3.mono HB2.out.size)
 have HRW := hid (World.ownsRow.mono ho3 HB2.out.size)
 clear ho3 hb3
 go_wp2_with fail
 go_ret
 exact ⟨vv, rfl, HRW.out, HB3.out⟩
theorem prows_any (b d v ap o cp m : Nat) (t : List Int) (w : World) (hv : v <= 12) (ht : t.length = 2 ^ v) (hm : 2 ^ v = 2 ^ (v - v / 2) * m) (hl : Lst w.heap.size w (some ⟨ap, o, none⟩) cp t) :
  Calls Tryz.prog 81 #[shV b d v, .slice (some ⟨ap, o, none⟩) (2 ^ v) cp] w fun e w' => ∃ a c, e = .returned (.slice a m c) /\ LstR w'.heap.size w' a c (rwl (2 ^ (v - v / 2)) m t) /\ Below w.heap.size w w' := by
 refine (prows_own b d v ap o cp m t w hv ht hm hl).mono ?_
 rintro e w' ⟨x, rfl, h1, h2⟩
 obtain ⟨a, c, rfl, e2⟩ := rows_of_owns (by rw [ht]; exact hm) h1 ((hl.below h2).row.mono h2.size)
 exact ⟨a, c, rfl, e2, h2⟩
theorem slr_pm {w : World} {g n : Nat} {l : List Int} (h : ArrI w g 3 n (zat l)) (hl : l.length = n) : SlR w l (.slice (some ⟨g, 0, none⟩) n n) := by
 subst hl
 exact ⟨_, _, rfl, ⟨fun k hk => ⟨g, 0, rfl, h.lt, by rw [Nat.zero_add]; exact h.cell hk⟩, Nat.le_refl _, fun e => by cases e⟩, fun _ => ⟨g, 0, rfl, _, 3, (0, 0), h.heap, by decide, by decide, by decide, by decide, by decide, by decide⟩⟩
def vll (p : Nat) (s r : Int) (N : Nat) (row : List Int) : List Int := ls (fun j => evz p row (Dom.pt p s r j)) N
def cll (p : Nat) (s r : Int) (N : Nat) (rows : List (List Int)) : List (List Int) := (List.range N).map (pgc (rows.map (vll p s r N)))
theorem cll_len (p : Nat) (s r : Int) (N : Nat) (rows : List (List Int)) : (cll p s r N rows).length = N := by simp [cll]
theorem cll_at {p : Nat} {s r : Int} {N : Nat} {rows : List (List Int)} {j : Nat} (h : j < N) : rat (cll p s r N rows) j = pgc (rows.map (vll p s r N)) j := by
 unfold rat cll
 rw [List.getD_eq_getElem?_getD]
 simp [h]
theorem vll_len (p : Nat) (s r : Int) (N : Nat) (row : List Int) : (vll p s r N row).length = N := ls_len _ _
theorem vll_fits {p : Nat} (h3 : 3 <= p) (hm : p <= 2147483647) (s r : Int) (N : Nat) (row : List Int) : Fits (vll p s r N row) := fun j hj => by
 unfold vll at hj ⊢
 rw [ls_len] at hj
 rw [ls_at _ _ _ hj]
 have := evz_bounds p row (Dom.pt p s r j) h3
 omega
theorem rat_map {f : List Int -> List Int} {rows : List (List Int)} {k : Nat} (h : k < rows.length) : rat (rows.map f) k = f (rat rows k) := by
 unfold rat
 rw [List.getD_eq_getElem?_getD, List.getD_eq_getElem?_getD, List.getElem?_map, List.getElem?_eq_getElem h]
 rfl
theorem cll_fits {p : Nat} (h3 : 3 <= p) (hm : p <= 2147483647) (s r : Int) (N : Nat) (rows : List (List Int)) (hN : N <= 65536) (hr : rows.length <= 4096) : FitsR (cll p s r N rows) := fun k hk => by
 rw [cll_len] at hk
 rw [cll_at hk]
 refine ⟨pgc_fits (fun i hi => ?_) k, by rw [pgc_len, List.length_map]; omega⟩
 rw [List.length_map] at hi
 rw [rat_map hi]
 exact ⟨vll_fits h3 hm _ _ _ _, by rw [vll_len]; omega⟩
theorem take_map_succ {f : List Int -> List Int} {rows : List (List Int)} {k : Nat} (h : k < rows.length) : (rows.map f).take (k + 1) = (rows.map f).take k ++ [f (rat rows k)] := by
 rw [take_succ_rat (by rw [List.length_map]; exact h), rat_map h]
def ColI (g N m : Nat) (w : World) (L : List (List Int)) (j : Nat) : Prop := ∃ B : Nat -> Nat, w.rowIs g 22 N (fun i => if i < j then .slice (some ⟨B i, 0, none⟩) m m else .slice none 0 0) /\ ∀ i, i < j -> g < B i /\ ArrI w (B i) 3 m (zat (pgc L i))
theorem ColI.below {g N m : Nat} {w w' : World} {L : List (List Int)} {j : Nat} (h : ColI g N m w L j) (e : Below w.heap.size w w') : ColI g N m w' L j := by
 obtain ⟨B, h1, h2⟩ := h
 refine ⟨B, World.rowIs.of_block h1 (e.block g (World.rowIs.lt h1)), fun i hi => ?_⟩
 obtain ⟨e1, e2⟩ := h2 i hi
 exact ⟨e1, e2.below e e2.lt⟩
theorem ColI.put {g N m x : Nat} {w : World} {L : List (List Int)} {j : Nat} (h : ColI g N m w L j) (hx : g < x) (hA : ArrI w x 3 m (zat (pgc L j))) : ColI g N m (w.setCell ⟨g, j, none⟩ (.slice (some ⟨x, 0, none⟩) m m)) L (j + 1) := by
 obtain ⟨B, h1, h2⟩ := h
 refine ⟨fun i => if i = j then x else B i, World.rowIs.congr (World.rowIs.set h1 j _) (fun i _ => ?_), fun i hi => ?_⟩
 ·by_cases e : i = j
  ·rw [if_pos e, if_pos (by omega)]
   simp [e]
  ·rw [if_neg e]
   by_cases hij : i < j
   ·rw [if_pos hij, if_pos (by omega)]
    simp [e]
   ·rw [if_neg hij, if_neg (by omega)]
 ·have hne : ∀ y, g < y -> y ≠ g := fun y hy => by omega
  by_cases e : i = j
  ·subst e
   simp only [if_true]
   exact ⟨hx, hA.block (Below.heap_setCell _ _ _ _ (by show x ≠ g; omega))⟩
  ·simp only [if_neg e]
   obtain ⟨e1, e2⟩ := h2 i (by omega)
   exact ⟨e1, e2.block (Below.heap_setCell _ _ _ _ (by show B i ≠ g; omega))⟩
theorem row_ownsP {w : World} {g n base : Nat} {e : TypeId} {F : Nat -> Value} (h : w.rowIs g e n F) (hb : base <= g) (hn : n <= maxLen) : w.ownsRow base e 1 (.slice (some ⟨g, 0, none⟩) n n) n ((List.range n).map F) := by
 obtain ⟨c, h1, h2, h3⟩ := h
 refine ⟨by simp, .inr ⟨g, n, c, rfl, hb, h1, Nat.le_refl _, hn, by omega, ?_⟩⟩
 refine List.ext_getElem? fun j => ?_
 rcases Nat.lt_or_ge j n with gj | gj
 ·rw [List.getElem?_take_of_lt (by omega), Array.getElem?_toList, h3 j gj]
  simp [gj]
 ·rw [List.getElem?_eq_none (by rw [List.length_take]; omega), List.getElem?_eq_none (by simp; omega)]
theorem ColI.ownR {g N m base : Nat} {w : World} {p : Nat} {s r : Int} {rows : List (List Int)} (hm : m = rows.length) (hb : base <= g) (hN : N <= 65536) (h : ColI g N m w (rows.map (vll p s r N)) N) : OwnR base w (.slice (some ⟨g, 0, none⟩) N N) (cll p s r N rows) := by
 obtain ⟨B, h1, h2⟩ := h
 refine ⟨_, by rw [cll_len]; exact row_ownsP h1 hb (by unfold maxLen; omega), fun j hj => ?_⟩
 rw [cll_len] at hj
 refine ⟨.slice (some ⟨B j, 0, none⟩) m m, by simp [hj], ?_⟩
 rw [cll_at hj]
 exact slr_pm (h2 j hj).2 (by rw [pgc_len, List.length_map, hm])
theorem pcolumns_own (p b d v ap o cp m N : Nat) (r s : Int) (t : List Int) (w : World) (hD : DO w p b d N r s) (hv : v <= 12) (ht : t.length = 2 ^ v) (hm : 2 ^ v = 2 ^ (v - v / 2) * m) (hf : Fits t) (hl : Lst w.heap.size w (some ⟨ap, o, none⟩) cp t) :
  Calls Tryz.prog 75 #[shV b d v, .slice (some ⟨ap, o, none⟩) (2 ^ v) cp] w fun e w' => ∃ x, e = .returned x /\ OwnR w.heap.size w' x (cll p s r N (rwl (2 ^ (v - v / 2)) m t)) /\ Below w.heap.size w w' := by
 have hle : 2 ^ v <= 4096 := by have := Nat.pow_le_pow_right (show 0 < 2 by omega) hv; omega
 have hst1 : 1 <= 2 ^ (v - v / 2) := Nat.one_le_two_pow
 have hst2 : 2 ^ (v - v / 2) <= 4096 := by have := Nat.pow_le_pow_right (show 0 < 2 by omega) (show v - v / 2 <= 12 by omega); omega
 have hmle : m <= 4096 := by have : m <= 2 ^ v := by rw [hm]; exact Nat.le_mul_of_pos_left _ hst1
                             omega
 obtain ⟨kk, hkk, hNN⟩ := hD.hk
 have hN16 : N <= 65536 := by rw [hNN]; have := two_pow_le hkk; exact this
 have h3 := hD.h3
 have hpm := hD.hm
 have HRWS : Hid (∀ W, Below w.heap.size w W -> Calls Tryz.prog 81 #[shV b d v, .slice (some ⟨ap, o, none⟩) (2 ^ v) cp] W fun e w' => ∃ a c, e = .returned (.slice a m c) /\ LstR w'.heap.size w' a c (rwl (2 ^ (v - v / 2)) m t) /\ Below W.heap.size W w') := fun W hW => prows_any b d v ap o cp m t W hv ht hm ((hl.below hW).mono hW.size)
 obtain ⟨rows, hrows⟩ := exE (rwl (2 ^ (v - v / 2)) m t)
 have hrl : rows.length = m := by rw [hrows, rwl_len]
 have HRL : Hid (∀ k, k < m -> (rat rows k).length <= 4096 /\ Fits (rat rows k)) := fun k hk => by
  rw [hrows]
  exact ⟨by rw [rwl_wide (by rw [ht]; exact hm) hk]; exact hst2, (rwl_fits (by rw [ht]; exact hm) hf hst2 k (by rw [rwl_len]; exact hk)).1⟩
 have HDW : Hid (∀ W, Below w.heap.size w W -> DO W p b d N r s) := fun W hW => hD.below hW (heap_lt hD.hp) hD.da.lt
 have HVAL : Hid (∀ (W : World) (k c : Nat) (a : Option Addr), k < m -> Below w.heap.size w W -> Lst W.heap.size W a c (rat rows k) -> Calls Tryz.prog 142 #[.pointer (some ⟨d, 0, none⟩), .slice a (rat rows k).length c] W fun e w' => e = .returned (.slice (some ⟨W.heap.size, 0, none⟩) N N) /\ ArrI w' W.heap.size 3 N (zat (vll p s r N (rat rows k))) /\ Below W.heap.size W w') := fun W k c a hk hW hla => by
  obtain ⟨f1, f2⟩ := HRL.out k hk
  have D := HDW.out W hW
  have h := values_any p b d kk N c r s (fun x => x < W.heap.size) a (rat rows k) W D.pr D.h3 D.hm D.hp D.da hkk hNN D.hr0 D.hr1 D.ord D.hs0 D.hs1 (by omega) f2 hla.row (fun _ h => h)
  refine h.mono ?_
  rintro e w' ⟨rfl, h1, h2, _⟩
  exact ⟨rfl, World.rowIs.congr h1 (fun j hj => by unfold vll; rw [ls_at _ _ _ hj]), h2⟩
 have HSZ : Hid (∀ W, Below w.heap.size w W -> Calls Tryz.prog 106 #[.pointer (some ⟨d, 0, none⟩)] W fun e w' => e = .returned (.int .i64 (N : Int)) /\ w' = W) := fun W hW => size_any d b N r s W (HDW.out W hW).da
 obtain ⟨LG, hLG⟩ := exE (rows.map (vll p s r N))
 have HLG : Hid (LG.length = m /\ (∀ k, k < m -> rat LG k = vll p s r N (rat rows k)) /\ (∀ k, k < m -> LG.take (k + 1) = LG.take k ++ [vll p s r N (rat rows k)]) /\ rows.length = m) := by
  rw [hLG]
  exact ⟨by rw [List.length_map, hrl], fun k hk => rat_map (by omega), fun k hk => take_map_succ (by omega), hrl⟩
 have HCOL : Hid (∀ (W : World) (j c : Nat) (a : Option Addr), j < N -> LstR W.heap.size W a c LG -> Calls Tryz.prog 143 #[.slice a m c, .int .i64 (j : Int)] W fun e w' => e = .returned (.slice (some ⟨W.heap.size, 0, none⟩) m m) /\ ArrI w' W.heap.size 3 m (zat (pgc LG j)) /\ Below W.heap.size W w') := fun W j c a hj hla => by
  have h := column_any c j a LG W (by rw [HLG.out.1]; omega) (fun k hk => by rw [HLG.out.1] at hk; rw [HLG.out.2.1 k hk, vll_len]; exact hj) hla
  rw [HLG.out.1] at h
  exact h
 have HFIN : Hid (∀ (W : World) (g : Nat), w.heap.size <= g -> ColI g N m W LG N -> OwnR w.heap.size W (.slice (some ⟨g, 0, none⟩) N N) (cll p s r N rows)) := fun W g hg h => by
  rw [hLG] at h
  exact h.ownR hrl.symm hg hN16
 obtain ⟨L, hL⟩ := exE (2 ^ v)
 rw [<- hL] at HRWS ⊢
 rw [<- hrows] at HRWS ⊢
 unfold shV at HRWS ⊢
 generalize ((v / 2 : Nat) : Int) = hi at *
 generalize ((v - v / 2 : Nat) : Int) = lo at *
 obtain ⟨W0, hW0⟩ := exE (w.alloc (.cells #[.pointer (some ⟨b, 0, none⟩), .pointer (some ⟨d, 0, none⟩), .int .i64 hi, .int .i64 lo] 87))
 have hb0 := blA hW0
 have hs0 := haA hW0
 obtain ⟨G, hG⟩ := exE (w.heap.size)
 have hG0 : G < W0.heap.size := by have := (Array.getElem?_eq_some_iff.1 hs0).1; omega
 rw [<- hG] at hs0
 have HC : Hid (∀ W, Below W0.heap.size W0 W -> W.cell? ⟨G, 1, none⟩ = some (.pointer (some ⟨d, 0, none⟩))) := fun W hW => by
  have e1 := (hW.block G hG0).trans hs0
  simp [World.cell?, e1]
 have HBW : Hid (∀ W, Below W0.heap.size W0 W -> Below w.heap.size w W) := fun W hW => hb0.trans (hW.mono hb0.size)
 have HW0 := hid hW0
 have HGE := hid hG
 have hmx : Tryz.prog.follows .mixedOrders = true := by kernel_rfl
 clear hW0 hs0 hb0 hG hD hl ht hf hm hst1 hst2 hle hrows hrl hLG hkk hNN hL hv
 go_enter Tryz.func75, Tryz.ntmps75
 go_wp2_with fail
 rw [<- HGE.out, <- HW0.out]
 refine (HRWS.out W0 (HBW.out W0 (Below.refl _ _))).mono ?_
 rintro e w1 ⟨ar, cr, rfl, hr1, hb1⟩
 have HR1 := hid hr1
 have HB1 := hid hb1
 clear hr1 hb1 HRWS
 go_wp2_with fail
 go_loopw [5, 7, 14] (fun lv _ iv wr => ∃ k : Nat, k <= m /\ iv = .int .i64 (k : Int) /\ Hid (OwnR w1.heap.size wr lv (LG.take k) /\ Below w1.heap.size w1 wr)) (fun _ _ iv _ => m - (intOf iv).toNat)
 case atStart => exact ⟨0, Nat.zero_le _, rfl, OwnR.nil _ _, Below.refl _ _⟩
 case round =>
  obtain ⟨k, hk, rfl, hI⟩ := hrel
  have HBI : Hid (Below W0.heap.size W0 wr) := HB1.out.trans (hI.out.2.mono HB1.out.size)
  have HB1I := hid hI.out.2
  have HOI := hid hI.out.1
  have k1 := HC.out wr HBI.out
  clear hI
  by_cases hlt : k < m
  ·have hlt2 : (k : Int) < (m : Int) := by omega
   have hk0 : ¬ (k : Int) < 0 := by omega
   have hks : IntKind.i64.wrap ((k : Int) + 1) = (k : Int) + 1 := by rw [IntKind.wrap_i64]; omega
   obtain ⟨b1, o1, ak, ck, rfl, hb1, hc1, hl1⟩ := HR1.out.row k (by rw [HLG.out.2.2.2]; exact hlt)
   have hc1' := (HB1I.out.cell (p := ⟨b1, o1 + k, none⟩) hb1).trans hc1
   have HVX := hid (HVAL.out wr k ck ak hlt (HBW.out _ HBI.out) ((hl1.below HB1I.out).mono HB1I.out.size))
   have HTK := hid (HLG.out.2.2.1 k hlt)
   obtain ⟨nk, hnk⟩ := exE ((rat rows k).length)
   rw [<- hnk] at hc1' HVX
   obtain ⟨VV, hVV⟩ := exE (vll p s r N (rat rows k))
   rw [<- hVV] at HVX HTK
   have HVN : Hid (VV.length = N) := by rw [hVV]; exact vll_len _ _ _ _ _
   clear hb1 hc1 hl1 hnk hVV
   go_wp2_with fail
   refine HVX.out.mono ?_
   rintro e w5 ⟨rfl, hA5, hb5⟩
   have HO5 := hid (HOI.out.keep hb5)
   have HSL := hid (slr_pm hA5 HVN.out)
   have HB5 : Hid (Below w1.heap.size w1 w5) := HB1I.out.trans (hb5.mono HB1I.out.size)
   have HTL : Hid ((LG.take k).length + 1 <= 5864062014805) := by unfold Hid; rw [List.length_take]; omega
   obtain ⟨LK, hLK⟩ := exE (LG.take k)
   rw [<- hLK] at HTK HO5 HTL
   clear hA5 hb5 HVX HOI hc1' k1 hLK
   go_wp2_with (at_builtin; refine wpList_row1 w5 w1.heap.size rfl _ _ rfl _ _ LK VV HO5.out HSL.out rfl rfl HTL.out HB5.out.size ?_)
   intro v6 w6 ho6 hb6 _
   have HR6 : Hid (OwnR w1.heap.size w6 v6 (LG.take (k + 1)) /\ Below w1.heap.size w1 w6) := by
    unfold Hid
    rw [HTK.out]
    exact ⟨ho6, HB5.out.trans hb6⟩
   clear ho6 hb6 HO5 HSL HB5 HB1I HBI
   go_wp2_with fail
   go_roundw
   case rel => exact ⟨k + 1, by omega, by go_num, HR6⟩
   case measure => simp [intOf]; omega
  ·obtain rfl : k = m := by omega
   have hlt2 : ¬ (k : Int) < (k : Int) := by omega
   have HOE := HOI
   rw [List.take_of_length_le (by rw [HLG.out.1]; exact Nat.le_refl _)] at HOE
   obtain ⟨al, cl, rfl, hll⟩ := OwnR.lst HOE.out
   rw [HLG.out.1]
   have HLL := hid hll
   have HSZX := hid (HSZ.out wr (HBW.out _ HBI.out))
   have hmk2 := fun w => run_make_row' (P := Tryz.prog) 29 22 (.slice none 0 0) 24 Tryz.underlying29 Tryz.infoSl rfl .i64 .i64 N (by omega) (by omega) w
   clear hll HOI HSZ HVAL HR1
   go_wp2_with fail
   refine HSZX.out.mono ?_
   rintro e w0 ⟨rfl, hw⟩
   have hw1 := hw.symm
   subst hw1
   clear hw HSZX k1
   obtain ⟨W5, hW5⟩ := exE (wr.alloc (.cells (madeCells #[.slice none 0 0] N) 22))
   obtain ⟨g, hg⟩ := exE (wr.heap.size)
   have HCI : Hid (ColI g N k W5 LG 0) := by
    rw [hW5, hg]
    exact ⟨fun _ => 0, World.rowIs.congr (World.rowIs_made _ _ _ _) (fun i _ => by rw [if_neg (Nat.not_lt_zero _)]), fun i hi => absurd hi (Nat.not_lt_zero _)⟩
   have hba := blA hW5
   have hgl : g < W5.heap.size := by rw [hW5, hg]; simp
   have HB5 : Hid (Below W0.heap.size W0 W5) := HBI.out.trans (hba.mono HBI.out.size)
   have HL5 : Hid (LstR g W5 al cl LG) := by rw [hg]; exact HLL.out.below hba
   have HGW : Hid (W0.heap.size <= g) := by have := HBI.out.size; unfold Hid; omega
   have HW5 := hid hW5
   have HGG := hid hg
   have hlen5 := HLG.out.1
   clear hba hg hW5 HB1I HBI HOE HB1 HLL
   go_wp2_with fail
   rw [<- HGG.out, <- HW5.out]
   go_loopw [9, 32] (fun _ iv wr => ∃ j : Nat, j <= N /\ iv = .int .i64 (j : Int) /\ Hid (ColI g N k wr LG j /\ Below g W5 wr)) (fun _ iv _ => N - (intOf iv).toNat)
   case atStart => exact ⟨0, Nat.zero_le _, rfl, HCI.out, Below.refl _ _⟩
   case round =>
    obtain ⟨j, hj, rfl, hI⟩ := hrel
    by_cases hjt : j < N
    ·have hjt2 : (j : Int) < (N : Int) := by omega
     have hj0 : ¬ (j : Int) < 0 := by omega
     have hjs : IntKind.i64.wrap ((j : Int) + 1) = (j : Int) + 1 := by rw [IntKind.wrap_i64]; omega
     have hgx : g < wr.heap.size := by have := hI.out.2.size; omega
     have HCX := hid (HCOL.out wr j cl al hjt ((HL5.out.below hI.out.2).mono (by omega)))
     have HI := hid hI.out
     clear hI
     go_wp2_with fail
     refine HCX.out.mono ?_
     rintro e w6 ⟨rfl, hA6, hb6⟩
     have hC6 := HI.out.1.below hb6
     have hC7 := hC6
     obtain ⟨B, hrow, _⟩ := hC7
     have c1 := hrow.cell hjt
     have y1 := hrow.frozen j
     rw [if_neg (Nat.lt_irrefl _)] at c1
     have HN6 := hid (hC6.put hgx hA6)
     have HB6 : Hid (Below g W5 (w6.setCell ⟨g, j, none⟩ (.slice (some ⟨wr.heap.size, 0, none⟩) k k))) := (HI.out.2.trans (hb6.mono (by omega))).setCell (p := ⟨g, j, none⟩) (Nat.le_refl g) _
     clear hrow hA6 hb6 HCX HI hC6
     go_wp2_with fail
     go_roundw
     case rel => exact ⟨j + 1, by omega, by go_num, HN6.out, HB6.out⟩
     case measure => simp [intOf]; omega
    ·obtain rfl : j = N := by omega
     have hjt2 : ¬ (j : Int) < (j : Int) := by omega
     have HE : Hid (ColI g j k wr LG j /\ Below w.heap.size w wr) := ⟨hI.out.1, HBW.out _ (HB5.out.trans (hI.out.2.mono HGW.out))⟩
     clear hI
     go_wp2_with fail
     go_ret
     exact ⟨_, rfl, HFIN.out _ _ (Nat.le_trans (HBW.out W0 (Below.refl _ _)).size HGW.out) HE.out.1, HE.out.2⟩
end Go.Proofs.YtlhjifpomchnfaaGreatDoor
