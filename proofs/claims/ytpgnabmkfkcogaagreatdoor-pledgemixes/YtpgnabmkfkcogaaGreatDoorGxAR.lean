/- Package pledge: shapeOf of a table of any length. slices.Chunk with any step, and slices.Collect over it: the rows of a table. -/
import Derived.Test.YtpgnabmkfkcogaaGreatDoorGxAM
import Derived.Test.YtpgnabmkfkcogaaGreatDoorGxAN
import Derived.Test.YtpgnabmkfkcogaaGreatDoorGxAQ
import Derived.RangeFuncNested
import Derived.RangeFuncBound
import Derived.RangeFuncCalls
import Derived.RangeFuncLeaves
import Derived.RangeFuncBox
import Derived.RangeFuncWrites
import Derived.Shelf.Abstract
import Derived.WalkKit
import Derived.OwnWalkIn
import Derived.TacticsInMore
import Derived.LoopNIn
import Derived.LoopIn
import Derived.RegionIn
import Derived.BigRegionIn
import Derived.Test.YtpgnabmkfkcogaaGreatDoorChk
import Derived.Test.YtpgnabmkfkcogaaGreatDoorGxAB
import Derived.Test.YtpgnabmkfkcogaaGreatDoorGxAG
namespace Go.Proofs.YtpgnabmkfkcogaaGreatDoor
open Go.RowKit Go.Shelf

theorem tabZ_below {w w' : World} (h : TabAt 2 Lib.deBruijn64tab w) (hb : Below w.heap.size w w') : TabAt 2 Lib.deBruijn64tab w' :=
  fun j hj => (hb.cell (p := ⟨2, j, none⟩) (cell_lt (h j hj))).trans (h j hj)

theorem tz_all (x : Nat) (hx0 : x ≠ 0) (hx : x < 18446744073709551616) (w : World) (hT : TabAt 2 Lib.deBruijn64tab w) :
    Calls Tryz.prog 107 #[.int .u64 x] w fun e w' => ∃ S m : Nat, e = .returned (.int .i64 S) ∧ S < 64 ∧ x = 2 ^ S * (2 * m + 1) ∧ w' = w := by
  refine (Any7.bits_TrailingZeros Tryz.laysTz x (by omega) w (fun _ => hT)).mono fun e w' ⟨he, hw⟩ => ?_
  obtain ⟨m, h1, h2⟩ := Lib.ctzFrom_spec 64 x (by omega) hx
  refine ⟨Lib.ctz 64 x, m, he, ?_, ?_, hw⟩
  · unfold Lib.ctz; rw [if_neg hx0]; exact h2
  · unfold Lib.ctz; rw [if_neg hx0]; exact h1

theorem ones_all (n : Nat) (w : World) (h1 : n < 18446744073709551616) :
    Calls Tryz.prog 106 #[.int .u64 n] w fun e w' => e = .returned (.int .i64 (pnz n)) ∧ w' = w := by
  have H := hid (ones64_all n w h1)
  go_enter Tryz.func106, Tryz.ntmps106
  go_wp2_with fail
  refine H.out.mono ?_
  rintro e w1 ⟨rfl, rfl⟩
  go_wp2_with fail
  go_ret
  exact ⟨rfl, rfl⟩

set_option maxRecDepth 100000 in
set_option maxHeartbeats 2000000 in
/-- whatever newShape makes of the number of variables -/
theorem shapeOf_any (d n k cap : Nat) (a : Option Addr) (g : Array Value) (q : Bool) (w : World) (hn : n ≤ 9223372036854775807) (hk : n = 2 ^ k)
    (hT : TabAt 2 Lib.deBruijn64tab w) (h1 : pnz n = 1) (hg : ∃ (x y : Option Addr) (z t : Int), g = #[.pointer x, .pointer y, .int .i64 z, .int .i64 t])
    (hS : ∀ W, Below w.heap.size w W → Calls Tryz.prog 69 #[.pointer (some ⟨d, 0, none⟩), .int .i64 (k : Int)] W fun e w' => e = .returned (.tuple #[.agg g, .bool q]) ∧ Below W.heap.size W w') :
    Calls Tryz.prog 49 #[.pointer (some ⟨d, 0, none⟩), .slice a n cap] w fun e w' => e = .returned (.tuple #[.agg g, .bool q]) ∧ Below w.heap.size w w' := by
  obtain ⟨x, y, z, t, rfl⟩ := hg
  have h0 : 0 < 2 ^ k := Nat.pow_pos (by decide)
  have HZ : Hid (∀ W, Below w.heap.size w W → Calls Tryz.prog 107 #[.int .u64 (n : Int)] W fun e w' => e = .returned (.int .i64 (k : Int)) ∧ w' = W) := fun W hW => by
    refine (tz_all n (by omega) (by omega) W (tabZ_below hT hW)).mono ?_
    rintro e w' ⟨S, m, rfl, _, h, hw⟩
    rw [hk] at h
    rw [pow_odd h]
    exact ⟨rfl, hw⟩
  have HO : Hid (∀ W, Calls Tryz.prog 106 #[.int .u64 (n : Int)] W fun e w' => e = .returned (.int .i64 1) ∧ w' = W) := fun W => by
    have h := ones_all n W (by omega)
    rw [h1] at h
    exact h
  have HS := hid hS
  obtain ⟨R, hR⟩ : ∃ R, R = w.heap.size := ⟨_, rfl⟩
  obtain ⟨W0, hW0⟩ : ∃ W0, W0 = w.alloc (.cells #[.pointer none, .pointer none, .int .i64 0, .int .i64 0] 108) := ⟨_, rfl⟩
  have hB0 : Below w.heap.size w W0 := by rw [hW0]; exact (Below.refl _ _).alloc (Nat.le_refl _) _
  have hQ0 : W0.rowIs R 108 4 (quad (.pointer none) (.pointer none) (.int .i64 0) (.int .i64 0)) := by rw [hW0, hR]; exact quad_new w _ _ _ _ _
  have HRR : Hid (∀ W, Below W0.heap.size W0 W → W.rowIs R 108 4 (quad (.pointer none) (.pointer none) (.int .i64 0) (.int .i64 0))) := fun W hW => hQ0.of_block (hW.block R hQ0.lt)
  have HRW : Hid (w.heap.size ≤ R) := by unfold Hid; omega
  have HB0 := hid hB0
  clear hk hT h1 h0 hS hQ0 hB0
  go_enter Tryz.func49, Tryz.ntmps49
  go_wp2_with fail
  rw [← hW0, ← hR]
  clear hW0 hR
  refine (HO.out _).mono ?_
  rintro e w1 ⟨rfl, hw1⟩
  have hw1' := hw1.symm
  subst hw1'
  clear hw1
  go_wp2_with fail
  refine (HZ.out _ HB0.out).mono ?_
  rintro e w2 ⟨rfl, hw2⟩
  have hw2' := hw2.symm
  subst hw2'
  clear hw2
  go_wp2_with fail
  refine (HS.out _ HB0.out).mono ?_
  rintro e w3 ⟨rfl, hw3⟩
  have hr := HRR.out w3 hw3
  have r0 : w3.cell? ⟨R, 0, none⟩ = some (.pointer none) := hr.cell (i := 0) (by omega)
  have r1 : w3.cell? ⟨R, 1, none⟩ = some (.pointer none) := hr.cell (i := 1) (by omega)
  have r2 : w3.cell? ⟨R, 2, none⟩ = some (.int .i64 0) := hr.cell (i := 2) (by omega)
  have r3 : w3.cell? ⟨R, 3, none⟩ = some (.int .i64 0) := hr.cell (i := 3) (by omega)
  have u0 : w3.frozen? ⟨R, 0, none⟩ = false := hr.frozen 0
  have u1 : w3.frozen? ⟨R, 1, none⟩ = false := hr.frozen 1
  have u2 : w3.frozen? ⟨R, 2, none⟩ = false := hr.frozen 2
  have u3 : w3.frozen? ⟨R, 3, none⟩ = false := hr.frozen 3
  have HR3 := hid hr
  have HB3 := hid (HB0.out.trans (hw3.mono HB0.out.size))
  clear hr hw3
  go_wp2_with fail
  refine bodyPost_ret (results_ct rfl _ _ R 108 #[.pointer x, .pointer y, .int .i64 z, .int .i64 t] (0, 0) _ rfl (quad_arr (quad_set HR3.out _ _ _ _)) Tryz.underlying108 rfl (by kernel_rfl)) rfl ?_
  exact ⟨rfl, (((HB3.out.setCell (p := ⟨R, 0, none⟩) HRW.out _).setCell (p := ⟨R, 1, none⟩) HRW.out _).setCell (p := ⟨R, 2, none⟩) HRW.out _).setCell (p := ⟨R, 3, none⟩) HRW.out _⟩

theorem shapeOf_yes (d b v N cap : Nat) (r s : Int) (a : Option Addr) (w : World) (hd : DomAt w d b (N : Int) r s) (hv : v ≤ 12) (hN : N ≤ 65536) (hT : TabAt 2 Lib.deBruijn64tab w) :
    Calls Tryz.prog 49 #[.pointer (some ⟨d, 0, none⟩), .slice a (2 ^ v) cap] w fun e w' => e = .returned (.tuple #[shV b d v, .bool (decide (2 ^ (v - v / 2) ≤ N / 2))]) ∧ Below w.heap.size w w' := by
  have hp : 2 ^ v ≤ 2 ^ 12 := Nat.pow_le_pow_right (by decide) hv
  exact shapeOf_any d (2 ^ v) v cap a _ _ w (by omega) rfl hT (pnz_pow ⟨v, by omega⟩) ⟨_, _, _, _, rfl⟩ fun W hW => newShape_yes d b v N r s W (hd.below hW hd.lt) hv hN

set_option maxRecDepth 100000 in
set_option maxHeartbeats 2000000 in
/-- one bit alone it is not -/
theorem shapeOf_odd (d n cap c : Nat) (a : Option Addr) (w : World) (hn : n ≤ 9223372036854775807) (h1 : pnz n = c) (hc : c ≠ 1) :
    Calls Tryz.prog 49 #[.pointer (some ⟨d, 0, none⟩), .slice a n cap] w fun e w' => e = .returned (.tuple #[.agg #[.pointer none, .pointer none, .int .i64 0, .int .i64 0], .bool false]) ∧ Below w.heap.size w w' := by
  have HO : Hid (∀ W, Calls Tryz.prog 106 #[.int .u64 (n : Int)] W fun e w' => e = .returned (.int .i64 (c : Int)) ∧ w' = W) := fun W => by
    have h := ones_all n W (by omega)
    rw [h1] at h
    exact h
  have hq : ((c : Int) != 1) = true := by simp; omega
  obtain ⟨R, hR⟩ : ∃ R, R = w.heap.size := ⟨_, rfl⟩
  obtain ⟨W0, hW0⟩ : ∃ W0, W0 = w.alloc (.cells #[.pointer none, .pointer none, .int .i64 0, .int .i64 0] 108) := ⟨_, rfl⟩
  have hB0 : Below w.heap.size w W0 := by rw [hW0]; exact (Below.refl _ _).alloc (Nat.le_refl _) _
  have hQ0 : W0.rowIs R 108 4 (quad (.pointer none) (.pointer none) (.int .i64 0) (.int .i64 0)) := by rw [hW0, hR]; exact quad_new w _ _ _ _ _
  have HB0 := hid hB0
  have HQ0 := hid hQ0
  have HRW : Hid (w.heap.size ≤ R) := by unfold Hid; omega
  have r0 : W0.cell? ⟨R, 0, none⟩ = some (.pointer none) := hQ0.cell (i := 0) (by omega)
  have r1 : W0.cell? ⟨R, 1, none⟩ = some (.pointer none) := hQ0.cell (i := 1) (by omega)
  have r2 : W0.cell? ⟨R, 2, none⟩ = some (.int .i64 0) := hQ0.cell (i := 2) (by omega)
  have r3 : W0.cell? ⟨R, 3, none⟩ = some (.int .i64 0) := hQ0.cell (i := 3) (by omega)
  have u0 : W0.frozen? ⟨R, 0, none⟩ = false := hQ0.frozen 0
  have u1 : W0.frozen? ⟨R, 1, none⟩ = false := hQ0.frozen 1
  have u2 : W0.frozen? ⟨R, 2, none⟩ = false := hQ0.frozen 2
  have u3 : W0.frozen? ⟨R, 3, none⟩ = false := hQ0.frozen 3
  clear h1 hQ0 hB0
  go_enter Tryz.func49, Tryz.ntmps49
  go_wp2_with fail
  rw [← hW0, ← hR]
  clear hW0 hR
  refine (HO.out _).mono ?_
  rintro e w1 ⟨rfl, hw1⟩
  have hw1' := hw1.symm
  subst hw1'
  clear hw1
  go_wp2_with fail
  refine bodyPost_ret (results_ct rfl _ _ R 108 #[.pointer none, .pointer none, .int .i64 0, .int .i64 0] (0, 0) _ rfl (quad_arr (quad_set HQ0.out _ _ _ _)) Tryz.underlying108 rfl (by kernel_rfl)) rfl ?_
  exact ⟨rfl, (((HB0.out.setCell (p := ⟨R, 0, none⟩) HRW.out _).setCell (p := ⟨R, 1, none⟩) HRW.out _).setCell (p := ⟨R, 2, none⟩) HRW.out _).setCell (p := ⟨R, 3, none⟩) HRW.out _⟩

theorem shapeOf_no (d n cap : Nat) (a : Option Addr) (w : World) (hn : n ≤ 9223372036854775807) (h : ∀ v, v ≤ 12 → n ≠ 2 ^ v) (hT : TabAt 2 Lib.deBruijn64tab w) :
    Calls Tryz.prog 49 #[.pointer (some ⟨d, 0, none⟩), .slice a n cap] w fun e w' => e = .returned (.tuple #[.agg #[.pointer none, .pointer none, .int .i64 0, .int .i64 0], .bool false]) ∧ Below w.heap.size w w' := by
  by_cases h1 : pnz n = 1
  · obtain ⟨k, hk⟩ := pnz_two (by omega) h1
    have h12 : 12 < k := Nat.lt_of_not_le fun hle => h k hle hk
    exact shapeOf_any d n k cap a _ _ w hn hk hT h1 ⟨_, _, _, _, rfl⟩ fun W _ => newShape_no d k W (Or.inr (by omega))
  · exact shapeOf_odd d n cap _ a w hn rfl h1

end Go.Proofs.YtpgnabmkfkcogaaGreatDoor

namespace Go.Proofs.YtpgnabmkfkcogaaGreatDoor
open Go.RowKit Go.Shelf

attribute [local go_sem] Oper.semAt_some

/-- a part of a list -/
def chv (ap o st j : Nat) : Value := .slice (some ⟨ap, o + st * j, none⟩) st st

set_option maxRecDepth 100000 in
set_option maxHeartbeats 2000000 in
theorem chunkS_in (F : Fence) (n : Nat) (hf : F.fn 228) (hro : F.round = none) (hn : 1 ≤ n) (l Bs ap o L cp st m : Nat) (hL : L = st * m) (hst : 1 ≤ st) (hLc : L ≤ cp) (hlen : L ≤ 140737488351232) (J Jx : List (Fin m) → World → Prop)
    (hAb : ∀ s A B, J s A → A.grownBy B none → J s B)
    (hY : ∀ pre x W, J pre W → pre.length < m → YieldAt F (n - 1) Tryz.prog l #[.slice (some ⟨ap, o + st * x.val, none⟩) st st] W fun e W' =>
      (e = .returned (.bool true) ∧ J (pre ++ [x]) W' ∧ KeepsC Bs W W') ∨ (e = .returned (.bool false) ∧ Jx (pre ++ [x]) W'))
    (W : World) (hBs : W.cell? ⟨Bs, 0, none⟩ = some (.slice (some ⟨ap, o, none⟩) L cp)) (hBn : W.cell? ⟨Bs + 1, 0, none⟩ = some (.int .i64 (st : Int))) (h0 : J [] W) :
    CallsIn F n Tryz.prog 228 #[.func (.yield l) #[] #[], .pointer (some ⟨Bs, 0, none⟩), .pointer (some ⟨Bs + 1, 0, none⟩)] W fun e W' => (∃ v, e = .returned v) ∧
      ((∃ ys, CameC ys m ∧ J ys W') ∨ (∃ pre, True ∧ Jx pre W')) := by
  have hmx : Tryz.prog.follows .mixedOrders = true := by kernel_rfl
  have HLM := hid hL
  clear hL
  refine callsIn_of_wp Tryz.func228 rfl hf ?_ hro
  simp only [Tryz.ntmps228, List.size_toArray, List.length_cons, List.length_nil, Nat.reduceAdd, Nat.reduceSub, Array.replicate_succ, Array.replicate_zero, List.push_toArray, List.append_toArray, List.nil_append, List.cons_append]
  gi_wp2
  gi_loopw [4] (fun i wr => ∃ (k : Nat) (pre : List (Fin m)) (I : Nat), k ≤ m ∧ i = .int .i64 (I : Int) ∧ Hid (I = st * k) ∧ Hid (CameC pre k) ∧ J pre wr ∧ Hid (KeepsC Bs W wr))
    (fun i _ => L - (intOf i).toNat)
  case atStart => exact ⟨0, [], 0, by omega, rfl, rfl, cameC_nil m, h0, KeepsC.refl _ _⟩
  case round =>
    obtain ⟨k, pre, I, hk, rfl, hI, hcame, hJs, hkp⟩ := hrel
    have hBs2 := hkp.out.1.trans hBs
    have hBn2 := hkp.out.2.trans hBn
    by_cases hlt : k < m
    · have HI2 : Hid (I + st = st * (k + 1)) := by have := hI.out; unfold Hid; rw [Nat.mul_succ]; omega
      have hIL : I + st ≤ L := by rw [HI2.out, HLM.out]; exact Nat.mul_le_mul_left _ (by omega)
      have hlt2 : (I : Int) < (L : Int) := by omega
      have hle2 : (I : Int) ≤ (L : Int) := by omega
      have hle3 : (I : Int) ≤ (cp : Int) := by omega
      obtain ⟨hJd⟩ : Nonempty (Hid (J pre wr.drew)) := ⟨hAb pre wr wr.drew hJs ⟨rfl, rfl, rfl, Nat.le_refl _, fun _ _ _ => rfl⟩⟩
      obtain ⟨fn, tmps, assign, body, hy, hR⟩ := hY pre ⟨k, hlt⟩ wr.drew hJd.out (by rw [cameC_length hcame.out]; omega)
      have HCM := hid (cameC_snoc hcame.out ⟨k, hlt⟩ rfl)
      have hmin : min (st : Int) ((L - I : Nat) : Int) = (st : Int) := by omega
      have hto : ((I : Int) + (st : Int)).toNat - I = st := by omega
      have hs1 : (I : Int) + (st : Int) ≤ (L : Int) := by omega
      have hs2 : (I : Int) + (st : Int) ≤ (cp : Int) := by omega
      have hs3 : (I : Int) ≤ (I : Int) + (st : Int) := by omega
      have hw1 : IntKind.i64.wrap ((I : Int) + (st : Int)) = (I : Int) + (st : Int) := by rw [IntKind.wrap_i64]; omega
      dsimp only at hy
      rw [← hI.out] at hy
      gi_wp2
      gi_region
      all_goals
        gi_wp2
      all_goals
        refine hR.mono ?_
        rintro e W3 (⟨rfl, hJ3, hk3⟩ | ⟨rfl, hJx3⟩)
        · have HK3 : Hid (KeepsC Bs W W3) := hkp.out.trans ((show KeepsC Bs wr W3 from hk3))
          have hBn3 := HK3.out.2.trans hBn
          clear hk3 hkp hBs2 hBn2
          gi_wp2
          go_roundw
          case rel => exact ⟨k + 1, _, I + st, by omega, by go_num, HI2, HCM, hJ3, HK3⟩
          case measure => simp [intOf]; omega
        · gi_wp2
          refine bodyPost_ret (results_none rfl _ _ _) rfl ?_
          exact ⟨⟨_, rfl⟩, .inr ⟨_, trivial, hJx3⟩⟩
    · obtain rfl : k = m := by omega
      have hge : ¬ (I : Int) < (L : Int) := by have h1 := hI.out; have h2 := HLM.out; omega
      gi_wp2
      go_end0
      exact ⟨⟨_, rfl⟩, .inl ⟨_, hcame.out, hJs⟩⟩

theorem chunkS_stops (F : Fence) (n : Nat) (hf : F.fn 228) (hro : F.round = none) (hn : 1 ≤ n) (Bs ap o L cp st m : Nat) (hL : L = st * m) (hst : 1 ≤ st) (hLc : L ≤ cp) (hlen : L ≤ 140737488351232) (w : World)
    (hBs : w.cell? ⟨Bs, 0, none⟩ = some (.slice (some ⟨ap, o, none⟩) L cp)) (hBn : w.cell? ⟨Bs + 1, 0, none⟩ = some (.int .i64 (st : Int))) (hbs : Bs + 1 < w.heap.size) :
    SeqStopsK F n Tryz.prog 228 #[.pointer (some ⟨Bs, 0, none⟩), .pointer (some ⟨Bs + 1, 0, none⟩)] (fun x : Fin m => #[chv ap o st x.val]) (KeepsC Bs) (fun ys => CameC ys m)
      (fun _ => True) m w := fun l J Jx W hW hJ _ hY h0 =>
  chunkS_in F n hf hro hn l Bs ap o L cp st m hL hst hLc hlen J Jx (fun s A B h1 h2 => hJ s A B none h1 h2 (fun _ e => by cases e)) hY W ((hW.cell (p := ⟨Bs, 0, none⟩) (by show Bs < _; omega)).trans hBs) ((hW.cell (p := ⟨Bs + 1, 0, none⟩) hbs).trans hBn) h0

set_option maxRecDepth 100000 in
set_option maxHeartbeats 2000000 in
theorem appendChunk_any (Bs ap o L cp st m : Nat) (w : World) (hL : L = st * m) (hst : 1 ≤ st) (hLc : L ≤ cp) (hlen : L ≤ 1000000) (hm : m ≤ 1000000) (hc : w.cell? ⟨Bs, 0, none⟩ = some (.slice (some ⟨ap, o, none⟩) L cp)) (hc2 : w.cell? ⟨Bs + 1, 0, none⟩ = some (.int .i64 (st : Int))) :
    Calls Tryz.prog 227 #[.slice none 0 0, .func (.func 228) #[] #[.pointer (some ⟨Bs, 0, none⟩), .pointer (some ⟨Bs + 1, 0, none⟩)]] w fun e w' => ∃ v, e = .returned v ∧ w'.ownsRow w.heap.size 23 1 v m ((List.range m).map (chv ap o st)) ∧ Below w.heap.size w w' := by
  have hbs : Bs + 1 < w.heap.size := heap_lt hc2
  obtain ⟨i0, hi, hz0, hz1, hz2⟩ := info_parts Tryz.infoSl
  refine (callsIn_wide (n := 8)).1 ?_
  refine callsIn_of_wp_marks Tryz.func227 rfl trivial ?_ rfl
  simp only [Tryz.ntmps227, List.size_toArray, List.length_cons, List.length_nil, Nat.reduceAdd, Nat.reduceSub, Array.replicate_succ, Array.replicate_zero, List.push_toArray, List.append_toArray, List.nil_append, List.cons_append]
  gi_wp2
  have bO := Boxed.new w 22 (.slice none 0 0)
  have hB0 : Below w.heap.size w (w.alloc (.cells #[.slice none 0 0] 22)) := (Below.refl _ w).alloc (Nat.le_refl _) _
  have hc0 := (hB0.cell (p := ⟨Bs, 0, none⟩) (by show Bs < _; omega)).trans hc
  have hc1 := (hB0.cell (p := ⟨Bs + 1, 0, none⟩) hbs).trans hc2
  refine wpIn_rangeFunc_ownG rfl (by omega) (gf := 228) (lb := #[.pointer (some ⟨Bs, 0, none⟩), .pointer (some ⟨Bs + 1, 0, none⟩)]) rfl trivial (enters_of Tryz.func228 (by kernel_rfl) (by kernel_rfl))
    (chunkS_stops Fence.wide 7 trivial rfl (by omega) Bs ap o L cp st m hL hst hLc (by omega) (w.alloc (.cells #[.slice none 0 0] 22)) hc0 hc1 (by simp; omega))
    (fun h k => h.trans k)
    (fun W l q q' hl h h1 h2 => ⟨World.cell?_of_block (World.putObj_heap_other (by simp at hl; show Bs ≠ l; omega)), World.cell?_of_block (World.putObj_heap_other (by simp at hl; show Bs + 1 ≠ l; omega))⟩)
    (Below.refl _ _) (fun _ => rfl)
    (fun (pre : List (Fin m)) W => (∃ v, Boxed W w.heap.size 22 v ∧ W.ownsRow w.heap.size 23 1 v pre.length (pre.map fun x => chv ap o st x.val) ∧ (v = .slice none 0 0 ↔ pre = [])) ∧ Below w.heap.size w W)
    (fun _ _ _ => False)
    (OwnFrom.and (Own.from (holdsRow_own w.heap.size w.heap.size 22 23 1 (fun pre : List (Fin m) => pre.length) (fun pre => pre.map fun x => chv ap o st x.val) (fun pre v => v = .slice none 0 0 ↔ pre = [])) _) (ownFrom_below (Nat.le_refl _) (by simp)))
    (fun _ _ _ _ _ hs _ _ => hs)
    ⟨⟨_, bO, World.ownsRow_nil _ _ _ _, by simp⟩, hB0⟩
    (fun x => { tmps := #[.slice none 0 0, .func (.func 228) #[] #[.pointer (some ⟨Bs, 0, none⟩), .pointer (some ⟨Bs + 1, 0, none⟩)], .pointer (some ⟨w.heap.size, 0, none⟩), undef, .slice none 0 0, chv ap o st x.val, .func (.func 228) #[] #[.pointer (some ⟨Bs, 0, none⟩), .pointer (some ⟨Bs + 1, 0, none⟩)], chv ap o st x.val, undef, undef, undef, undef, undef], defers := [] }) ?assign ?body ?done ?stop
  case assign =>
    intro l x W K hK
    gi_wp2
    exact hK
  case body =>
    rintro l pre x W ⟨⟨v, hv, hrow, hnil⟩, hB⟩ hlt
    have hcv := hv.cell
    unfold chv at hrow ⊢
    gi_wp2_with (gi_at_builtin; refine wpListIn_append_own _ rfl _ _ 22 rfl w.heap.size 23 i0 (.slice none 0 0) 1 24 Tryz.underlying22 hi hz0 hz1 hz2 rfl (by decide) _ _ _ rfl (hrow.alloc _) ⟨W.heap.size, 0, none⟩ 1 1 [.slice (some ⟨ap, o + st * x.val, none⟩) st st] rfl rfl (cell_one_new _ _ _) (by simp [Value.oneCell']) (by unfold maxLen; omega) (by omega) (by have := hB.size; simp; omega) ?_; intro v' w1 hown' hgrow _; obtain ⟨g', cap', rfl⟩ := ownsRow_succ hown'; obtain ⟨hv1, hv2, hr2, hk2, hb2⟩ := hv.appended (by decide) hrow hB.size (Nat.le_refl _) hown' hgrow; have hc1 := hv1.cell; have hf1 := hv1.frozen)
    exact ⟨hk2.from _, ⟨hb2.cell (p := ⟨Bs, 0, none⟩) (by show Bs < w.heap.size; omega), hb2.cell (p := ⟨Bs + 1, 0, none⟩) hbs⟩, ⟨_, hv2, by simpa using hr2, by simp⟩, hB.trans hb2⟩
  case done =>
    rintro D ys W hD hys ⟨⟨v, hv, hrow, hnil⟩, hB⟩ hK
    have hcv := hv.cell
    have hym : ys.length = m := cameC_length hys
    have hyr : (ys.map fun x => chv ap o st x.val) = (List.range m).map (chv ap o st) := by
      have h : ys.map (fun i => i.val) = List.range m := hys
      rw [← h, List.map_map]
      rfl
    rw [hym, hyr] at hrow
    gi_wp2
    refine ⟨by simp, .inl ⟨_, _, rfl, run_takeDeferred hK, ?_⟩⟩
    exact ⟨_, results_tmp rfl _ _ _, v, rfl, ownsRow_putObj hrow _ hK rfl, hB.trans (belowK_b (w := w) (Nat.le_refl _) W D _ _ (by simp at hD; omega) hK rfl rfl)⟩
  case stop =>
    rintro D c pre W _ _ h _
    exact h.elim

end Go.Proofs.YtpgnabmkfkcogaaGreatDoor
