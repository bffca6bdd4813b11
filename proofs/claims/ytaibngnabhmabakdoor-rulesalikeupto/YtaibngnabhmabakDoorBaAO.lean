/- What pairs come to, and their products: package rules' product and Same, the reference's Number and Make. slices.Backward over a list of numbers, by its own text: what comes round by round, from the end of the list on. What the field's method Invs answers: a new list, what makes 1 of each number of the given list; nothing that was there has turned. -/
import Derived.Test.YtaibngnabhmabakDoorBaAJ
import Derived.RangeFuncNested
import Derived.RangeFuncBound
import Derived.RangeFuncCalls
import Derived.RangeFuncLeaves
import Derived.RangeFuncBox
import Derived.RangeFuncWrites
import Derived.Shelf.Abstract
import Derived.WalkKit
import Derived.OwnWalkIn
import Derived.TacticsInMore
import Derived.LoopNIn
import Derived.LoopIn
import Derived.Test.YtaibngnabhmabakDoorFld
import Derived.Deep.OwnRows
import Derived.Shelf.RegionOpen
import Derived.RegionIn
namespace Go.Proofs.YtaibngnabhmabakDoor
open Go.RowKit

set_option maxRecDepth 100000 in
set_option maxHeartbeats 2000000 in
theorem pprod_any (p b c : Nat) (a : Option Addr) (L : List (Int × Int)) (x y : Int) (w : World) (h3 : 3 ≤ p) (hm : p ≤ 2147483647) (hp : w.cell? ⟨b, 0, none⟩ = some (.int .i64 p))
    (hx1 : -9223372036854775808 ≤ x) (hx2 : x ≤ 9223372036854775807) (hy1 : -9223372036854775808 ≤ y) (hy2 : y ≤ 9223372036854775807) (hn : L.length ≤ 281474976710656) (hL : LstC w.heap.size w a c L) (hB : CelB L) :
    Calls Tryd.prog 33 #[.pointer (some ⟨b, 0, none⟩), .slice a L.length c, .int .i64 x, .int .i64 y] w fun e w' => e = .returned (.int .i64 (prd p x y L L.length)) ∧ Below w.heap.size w w' := by
  have hbl : b < w.heap.size := World.block_lt_of_cell? _ _ hp
  have HL := hid hL
  have HB := hid hB
  have HP := hid hp
  obtain ⟨n, hn'⟩ : ∃ n, n = L.length := ⟨_, rfl⟩
  have HN := hid hn'
  rw [← hn'] at hn ⊢
  clear hL hB hp hn'
  go_enter Tryd.func33, Tryd.ntmps33
  go_wp2_with fail
  go_loopw [9, 14] (fun ov iv wr => ∃ k : Nat, k ≤ n ∧ iv = .int .i64 k ∧ ov = .int .i64 (prd p x y L k) ∧ Hid (Below w.heap.size w wr)) (fun _ iv _ => n - (intOf iv).toNat)
  case atStart => exact ⟨0, Nat.zero_le _, rfl, rfl, Below.refl _ _⟩
  case round =>
    obtain ⟨k, hk, rfl, rfl, HBw⟩ := hrel
    by_cases hlt : k < n
    · have hlt2 : (k : Int) < (n : Int) := by omega
      have hks : IntKind.i64.wrap ((k : Int) + 1) = (k : Int) + 1 := by rw [IntKind.wrap_i64]; omega
      obtain ⟨g, o, rfl, hg, c0, c1⟩ := HL.out.row k (by have := HN.out; omega)
      replace c0 := (HBw.out.cell (p := ⟨g, o + k * 2, none⟩) hg).trans c0
      replace c1 := (HBw.out.cell (p := ⟨g, o + k * 2 + 1, none⟩) hg).trans c1
      have hbd := HB.out k (by have := HN.out; omega)
      have hpc := (HBw.out.cell (p := ⟨b, 0, none⟩) hbl).trans HP.out
      have hpr := prd_bd h3 x y L k
      have hnb := nb_bd h3 y (cat L k)
      have HS : Hid (prd p x y L (k + 1) = prd p x y L k * ((x - nb p y (cat L k)) % (p : Int)) % (p : Int)) := rfl
      have hnp := nb_prog p y (cat L k)
      have e1 := emod_bounds (y * (cat L k).2) p h3
      have e2 := emod_bounds (x - nb p y (cat L k)) p h3
      have HM1 : Hid (∀ W : World, W.cell? ⟨b, 0, none⟩ = some (.int .i64 p) → Calls Tryd.prog 28 #[.pointer (some ⟨b, 0, none⟩), .int .i64 y, .int .i64 (cat L k).2] W fun e w' => e = .returned (.int .i64 (y * (cat L k).2 % (p : Int))) ∧ w' = W) :=
        fun W h => mul_any p b _ _ W h3 hm h hy1 hy2 hbd.2.1 hbd.2.2
      have HA1 : Hid (∀ W : World, W.cell? ⟨b, 0, none⟩ = some (.int .i64 p) → Calls Tryd.prog 51 #[.pointer (some ⟨b, 0, none⟩), .int .i64 (cat L k).1, .int .i64 (y * (cat L k).2 % (p : Int))] W fun e w' => e = .returned (.int .i64 (nb p y (cat L k))) ∧ w' = W) :=
        fun W h => by rw [← hnp]; exact add_any p b _ _ W h3 hm h hbd.1.1 hbd.1.2 (by omega) (by omega)
      have HS1 : Hid (∀ W : World, W.cell? ⟨b, 0, none⟩ = some (.int .i64 p) → Calls Tryd.prog 50 #[.pointer (some ⟨b, 0, none⟩), .int .i64 x, .int .i64 (nb p y (cat L k))] W fun e w' => e = .returned (.int .i64 ((x - nb p y (cat L k)) % (p : Int))) ∧ w' = W) :=
        fun W h => sub_any p b _ _ W h3 hm h hx1 hx2 (by omega) (by omega)
      have HM2 : Hid (∀ W : World, W.cell? ⟨b, 0, none⟩ = some (.int .i64 p) → Calls Tryd.prog 28 #[.pointer (some ⟨b, 0, none⟩), .int .i64 (prd p x y L k), .int .i64 ((x - nb p y (cat L k)) % (p : Int))] W fun e w' => e = .returned (.int .i64 (prd p x y L (k + 1))) ∧ w' = W) :=
        fun W h => by rw [HS.out]; exact mul_any p b _ _ W h3 hm h (by omega) (by omega) (by omega) (by omega)
      clear hbd hpr hnb HS hnp e1 e2
      obtain ⟨r1, hr1⟩ : ∃ r, r = prd p x y L (k + 1) := ⟨_, rfl⟩
      have HR1 := hid hr1
      rw [← hr1] at HM2
      clear hr1
      generalize prd p x y L k = r0 at *
      generalize (x - nb p y (cat L k)) % (p : Int) = s at *
      generalize nb p y (cat L k) = nn at *
      generalize y * (cat L k).2 % (p : Int) = m at *
      generalize (cat L k).1 = z0 at *
      generalize (cat L k).2 = z1 at *
      obtain ⟨W1, hW1⟩ : ∃ W1, W1 = wr.alloc (.cells #[.int .i64 z0, .int .i64 z1] 39) := ⟨_, rfl⟩
      have HB1 : Hid (Below w.heap.size w W1) := by unfold Hid; rw [hW1]; exact HBw.out.alloc HBw.out.size _
      have hbk : W1.heap[wr.heap.size]? = some (.cells #[.int .i64 z0, .int .i64 z1] 39 (0, 0)) := by rw [hW1]; exact heap_alloc_new wr _
      have q0 : W1.cell? ⟨wr.heap.size, 0, none⟩ = some (.int .i64 z0) := by simp [World.cell?, hbk]
      have q1 : W1.cell? ⟨wr.heap.size, 1, none⟩ = some (.int .i64 z1) := by simp [World.cell?, hbk]
      clear hbk
      have qp : W1.cell? ⟨b, 0, none⟩ = some (.int .i64 p) := (HB1.out.cell (p := ⟨b, 0, none⟩) hbl).trans HP.out
      have QP : Hid (∀ nn, (W1.drewN nn).cell? ⟨b, 0, none⟩ = some (.int .i64 p)) := fun nn => qp
      go_wp2_with fail
      rw [← hW1]
      clear hW1 c0 c1 hpc
      go_quiet (first
        | (go_at_call 28; first | with_reducible exact Calls.quiet_of_same (HM1.out _ (QP.out _)) | with_reducible exact Calls.quiet_of_same (HM2.out _ (QP.out _)))
        | (go_at_call 51; exact Calls.quiet_of_same (HA1.out _ qp))
        | (go_at_call 50; exact Calls.quiet_of_same (HS1.out _ qp)))
      go_wp2_with fail
      go_roundw
      case rel => exact ⟨k + 1, by omega, by go_num, by rw [HR1.out], below_drewN HB1.out _⟩
      case measure => simp [intOf]; omega
    · have hlt2 : ¬ (k : Int) < (n : Int) := by omega
      obtain rfl : k = n := by omega
      go_wp2_with fail
      go_ret
      exact ⟨rfl, HBw.out⟩

set_option maxHeartbeats 1000000 in
theorem rnumber_any (p : Nat) (c : Int × Int) (y : Int) (w : World) (h3 : 3 ≤ p) (hm : p ≤ 2147483647) (hc : (-9223372036854775808 ≤ c.1 ∧ c.1 ≤ 9223372036854775807) ∧ (-9223372036854775808 ≤ c.2 ∧ c.2 ≤ 9223372036854775807)) (hy1 : -9223372036854775808 ≤ y) (hy2 : y ≤ 9223372036854775807) :
    Calls Tryd.prog 13 #[.int .i64 p, .agg #[.int .i64 c.1, .int .i64 c.2], .int .i64 y] w fun e w' => e = .returned (.int .i64 (nb p y c)) ∧ Below w.heap.size w w' := by
  have e1 := emod_bounds (c.2 * y) p h3
  have HM : Hid (∀ W, Calls Tryd.prog 30 #[.int .i64 p, .int .i64 c.2, .int .i64 y] W fun e w' => e = .returned (.int .i64 (c.2 * y % (p : Int))) ∧ w' = W) := fun W => rmul_any p _ _ W h3 hm hc.2.1 hc.2.2 hy1 hy2
  have HA : Hid (∀ W, Calls Tryd.prog 31 #[.int .i64 p, .int .i64 (c.2 * y % (p : Int)), .int .i64 c.1] W fun e w' => e = .returned (.int .i64 (nb p y c)) ∧ w' = W) := fun W => by rw [← nb_ref]; exact radd_any p _ _ W h3 hm (by omega) (by omega) hc.1.1 hc.1.2
  obtain ⟨z0, z1⟩ := c
  simp only at HM HA
  generalize nb p y (z0, z1) = r at *
  generalize z1 * y % (p : Int) = t at *
  have HB0 : Hid (Below w.heap.size w (w.alloc (.cells #[.int .i64 z0, .int .i64 z1] 39))) := (Below.refl _ _).alloc (Nat.le_refl _) _
  clear hc e1
  go_enter Tryd.func13, Tryd.ntmps13
  go_wp2_with fail
  refine (HM.out _).mono ?_
  rintro e w1 ⟨rfl, rfl⟩
  go_wp2_with fail
  refine (HA.out _).mono ?_
  rintro e w2 ⟨rfl, rfl⟩
  go_wp2_with fail
  go_ret
  exact ⟨rfl, HB0.out⟩

set_option maxRecDepth 100000 in
set_option maxHeartbeats 2000000 in
theorem rmake_any (p c : Nat) (a : Option Addr) (L : List (Int × Int)) (x y : Int) (w : World) (h3 : 3 ≤ p) (hm : p ≤ 2147483647)
    (hx1 : -9223372036854775808 ≤ x) (hx2 : x ≤ 9223372036854775807) (hy1 : -9223372036854775808 ≤ y) (hy2 : y ≤ 9223372036854775807) (hn : L.length ≤ 281474976710656) (hL : LstC w.heap.size w a c L) (hB : CelB L) :
    Calls Tryd.prog 16 #[.int .i64 p, .slice a L.length c, .int .i64 x, .int .i64 y] w fun e w' => e = .returned (.int .i64 (prd p x y L L.length)) ∧ Below w.heap.size w w' := by
  have HL := hid hL
  have HB := hid hB
  obtain ⟨n, hn'⟩ : ∃ n, n = L.length := ⟨_, rfl⟩
  have HN := hid hn'
  rw [← hn'] at hn ⊢
  clear hL hB hn'
  go_enter Tryd.func16, Tryd.ntmps16
  go_wp2_with fail
  go_loopw [9, 10, 11] (fun ov iv _ wr => ∃ k : Nat, k ≤ n ∧ iv = .int .i64 k ∧ ov = .int .i64 (prd p x y L k) ∧ Hid (Below w.heap.size w wr)) (fun _ iv _ _ => n - (intOf iv).toNat)
  case atStart => exact ⟨0, Nat.zero_le _, rfl, rfl, Below.refl _ _⟩
  case round =>
    obtain ⟨k, hk, rfl, rfl, HBw⟩ := hrel
    by_cases hlt : k < n
    · have hlt2 : (k : Int) < (n : Int) := by omega
      have hks : IntKind.i64.wrap ((k : Int) + 1) = (k : Int) + 1 := by rw [IntKind.wrap_i64]; omega
      obtain ⟨g, o, rfl, hg, c0, c1⟩ := HL.out.row k (by have := HN.out; omega)
      replace c0 := (HBw.out.cell (p := ⟨g, o + k * 2, none⟩) hg).trans c0
      replace c1 := (HBw.out.cell (p := ⟨g, o + k * 2 + 1, none⟩) hg).trans c1
      have hbd := HB.out k (by have := HN.out; omega)
      have hpr := prd_bd h3 x y L k
      have hnb := nb_bd h3 y (cat L k)
      have HS : Hid (prd p x y L (k + 1) = prd p x y L k * ((x - nb p y (cat L k)) % (p : Int)) % (p : Int)) := rfl
      have e2 := emod_bounds (x - nb p y (cat L k)) p h3
      have HNu := hid (rnumber_any p (cat L k) y wr h3 hm hbd hy1 hy2)
      have HS1 : Hid (∀ W : World, Calls Tryd.prog 34 #[.int .i64 p, .int .i64 x, .int .i64 (nb p y (cat L k))] W fun e w' => e = .returned (.int .i64 ((x - nb p y (cat L k)) % (p : Int))) ∧ w' = W) :=
        fun W => rsub_any p _ _ W h3 hm hx1 hx2 (by omega) (by omega)
      have HM2 : Hid (∀ W : World, Calls Tryd.prog 30 #[.int .i64 p, .int .i64 (prd p x y L k), .int .i64 ((x - nb p y (cat L k)) % (p : Int))] W fun e w' => e = .returned (.int .i64 (prd p x y L (k + 1))) ∧ w' = W) :=
        fun W => by rw [HS.out]; exact rmul_any p _ _ W h3 hm (by omega) (by omega) (by omega) (by omega)
      clear hbd hpr hnb HS e2
      obtain ⟨r1, hr1⟩ : ∃ r, r = prd p x y L (k + 1) := ⟨_, rfl⟩
      have HR1 := hid hr1
      rw [← hr1] at HM2
      clear hr1
      generalize prd p x y L k = r0 at *
      generalize (x - nb p y (cat L k)) % (p : Int) = s at *
      generalize nb p y (cat L k) = nn at *
      generalize (cat L k).1 = z0 at *
      generalize (cat L k).2 = z1 at *
      go_wp2_with fail
      refine HNu.out.mono ?_
      rintro e w1 ⟨rfl, hb1⟩
      have HB1 := hid (HBw.out.trans (hb1.mono HBw.out.size))
      clear hb1 HNu c0 c1
      go_wp2_with fail
      refine (HS1.out _).mono ?_
      rintro e w2 ⟨rfl, rfl⟩
      go_wp2_with fail
      refine (HM2.out _).mono ?_
      rintro e w3 ⟨rfl, rfl⟩
      go_wp2_with fail
      go_roundw
      case rel => exact ⟨k + 1, by omega, by go_num, by rw [HR1.out], HB1⟩
      case measure => simp [intOf]; omega
    · have hlt2 : ¬ (k : Int) < (n : Int) := by omega
      obtain rfl : k = n := by omega
      go_wp2_with fail
      go_ret
      exact ⟨rfl, HBw.out⟩

end Go.Proofs.YtaibngnabhmabakDoor

namespace Go.Proofs.YtaibngnabhmabakDoor
open Go.RowKit Go.Shelf

attribute [local go_sem] Oper.semAt_some

/-- what has come when k rounds are over -/
def upto {α : Type} (f : Nat → α) (k : Nat) : List α := (List.range k).map f
theorem upto_succ {α : Type} (f : Nat → α) (k : Nat) : upto f (k + 1) = upto f k ++ [f k] := by simp [upto, List.range_succ]
/-- these places have come, from the end on -/
def Came (zs : List Int) (pre : List (Fin zs.length)) (k : Nat) : Prop := pre.map (fun i => i.val) = upto (fun j => zs.length - 1 - j) k
theorem came_nil (zs : List Int) : Came zs [] 0 := rfl
theorem came_snoc {zs : List Int} {pre : List (Fin zs.length)} {k : Nat} (h : Came zs pre k) (x : Fin zs.length) (hx : x.val = zs.length - 1 - k) : Came zs (pre ++ [x]) (k + 1) := by
  unfold Came at *
  rw [List.map_append, h, upto_succ]; simp [hx]
theorem came_length {zs : List Int} {pre : List (Fin zs.length)} {k : Nat} (h : Came zs pre k) : pre.length = k := by
  have := congrArg List.length h
  simpa [upto] using this
theorem came_inv {zs : List Int} {pre : List (Fin zs.length)} {x : Fin zs.length} {k : Nat} (h : Came zs (pre ++ [x]) (k + 1)) : Came zs pre k ∧ x.val = zs.length - 1 - k := by
  unfold Came at *
  rw [List.map_append, upto_succ] at h
  obtain ⟨h1, h2⟩ := List.append_inj' h rfl
  exact ⟨h1, by simpa using h2⟩

/-- what a round keeps: all below n0, and the box of the list -/
def KeepsB (n0 Bs : Nat) (A B : World) : Prop := Below n0 A B ∧ B.cell? ⟨Bs, 0, none⟩ = A.cell? ⟨Bs, 0, none⟩
theorem KeepsB.refl (n0 Bs : Nat) (A : World) : KeepsB n0 Bs A A := ⟨Below.refl _ _, rfl⟩
theorem KeepsB.trans {n0 Bs : Nat} {A B C : World} (h : KeepsB n0 Bs A B) (k : KeepsB n0 Bs B C) : KeepsB n0 Bs A C := ⟨h.1.trans k.1, k.2.trans h.2⟩

set_option maxRecDepth 100000 in
set_option maxHeartbeats 1000000 in
theorem back1_in (F : Fence) (n : Nat) (hf : F.fn 58) (hro : F.round = none) (hn : 1 ≤ n) (l Bs n0 cap : Nat) (a : Option Addr) (zs : List Int) (hlen : zs.length ≤ 140737488351232) (J Jx : List (Fin zs.length) → World → Prop)
    (hY : ∀ pre x W, J pre W → pre.length < zs.length → YieldAt F (n - 1) Tryd.prog l #[.int .i64 (x.val : Int), .int .i64 (zat zs x.val)] W fun e W' =>
      (e = .returned (.bool true) ∧ J (pre ++ [x]) W' ∧ KeepsB n0 Bs W W') ∨ (e = .returned (.bool false) ∧ Jx (pre ++ [x]) W'))
    (W : World) (hBs : W.cell? ⟨Bs, 0, none⟩ = some (.slice a zs.length cap)) (hc : RowB n0 W a zs) (h0 : J [] W) :
    CallsIn F n Tryd.prog 58 #[.func (.yield l) #[] #[], .pointer (some ⟨Bs, 0, none⟩)] W fun e W' => (∃ v, e = .returned v) ∧
      ((∃ ys, Came zs ys zs.length ∧ J ys W') ∨ (∃ pre, True ∧ Jx pre W')) := by
  have HC := hid hc
  clear hc
  refine callsIn_of_wp Tryd.func58 rfl hf ?_ hro
  simp only [Tryd.ntmps58, List.size_toArray, List.length_cons, List.length_nil, Nat.reduceAdd, Nat.reduceSub, Array.replicate_succ, Array.replicate_zero, List.push_toArray, List.append_toArray, List.nil_append, List.cons_append]
  gi_wp2
  gi_loopw [3] (fun i wr => ∃ (k : Nat) (pre : List (Fin zs.length)), ((i = .int .i64 (-1) ∧ k = zs.length) ∨ (∃ j : Nat, i = .int .i64 j ∧ j + k + 1 = zs.length)) ∧ Hid (Came zs pre k) ∧ J pre wr ∧ Hid (KeepsB n0 Bs W wr))
    (fun i _ => ((intOf i) + 1).toNat)
  case atStart =>
    by_cases hz : zs.length = 0
    · exact ⟨0, [], .inl ⟨by rw [hz]; rfl, hz.symm⟩, came_nil zs, h0, KeepsB.refl _ _ _⟩
    · exact ⟨0, [], .inr ⟨zs.length - 1, by go_num, by omega⟩, came_nil zs, h0, KeepsB.refl _ _ _⟩
  case round =>
    obtain ⟨k, pre, ⟨rfl, rfl⟩ | ⟨j, rfl, hjk⟩, hcame, hJs, hkp⟩ := hrel
    · gi_wp2
      go_end0
      exact ⟨⟨_, rfl⟩, .inl ⟨_, hcame.out, hJs⟩⟩
    · have hjl : j < zs.length := by omega
      obtain ⟨b, o, rfl, hbn, hcell⟩ := HC.out j hjl
      have hcell2 := (hkp.out.1.cell (p := ⟨b, o + j, none⟩) hbn).trans hcell
      have hBs2 := hkp.out.2.trans hBs
      obtain ⟨fn, tmps, assign, body, hy, hR⟩ := hY pre ⟨j, hjl⟩ wr hJs (by rw [came_length hcame.out]; omega)
      have HCM := hid (came_snoc hcame.out ⟨j, hjl⟩ (by show j = _; omega))
      have HJK := hid hjk
      clear hjk hcell HC hcame
      dsimp only at hy
      generalize zat zs j = x at *
      gi_wp2
      refine hR.mono ?_
      rintro e W3 (⟨rfl, hJ3, hk3⟩ | ⟨rfl, hJx3⟩)
      · have HK3 := hid hk3
        clear hk3
        by_cases hj0 : j = 0
        · subst hj0
          gi_wp2
          go_roundw
          case rel => exact ⟨k + 1, _, .inl ⟨rfl, by have := HJK.out; omega⟩, HCM, hJ3, hkp.out.trans HK3.out⟩
          case measure => simp [intOf]
        · obtain ⟨j', rfl⟩ : ∃ j', j = j' + 1 := ⟨j - 1, by omega⟩
          gi_wp2
          go_roundw
          case rel => exact ⟨k + 1, _, .inr ⟨j', by go_num, by have := HJK.out; omega⟩, HCM, hJ3, hkp.out.trans HK3.out⟩
          case measure => simp [intOf]; omega
      · gi_wp2
        refine bodyPost_ret (results_none rfl _ _ _) rfl ?_
        exact ⟨⟨_, rfl⟩, .inr ⟨_, trivial, hJx3⟩⟩

set_option maxHeartbeats 1000000 in
theorem back_in (F : Fence) (n : Nat) (hf : F.fn 47) (hro : F.round = none) (a : Option Addr) (len cap : Nat) (w : World) :
    CallsIn F n Tryd.prog 47 #[.slice a len cap] w fun e w' => e = .returned (.func (.func 58) #[] #[.pointer (some ⟨w.heap.size, 0, none⟩)]) ∧ w' = w.alloc (.cells #[.slice a len cap] 29) := by
  refine callsIn_of_wp Tryd.func47 rfl hf ?_ hro
  simp only [Tryd.ntmps47, List.size_toArray, List.length_cons, List.length_nil, Nat.reduceAdd, Nat.reduceSub, Array.replicate_succ, Array.replicate_zero, List.push_toArray, List.append_toArray, List.nil_append, List.cons_append]
  gi_wp2
  go_ret
  exact ⟨rfl, rfl⟩

theorem back_stops (F : Fence) (n : Nat) (hf : F.fn 58) (hro : F.round = none) (hn : 1 ≤ n) (Bs n0 cap : Nat) (a : Option Addr) (zs : List Int) (hlen : zs.length ≤ 140737488351232) (w : World) (hn0 : n0 ≤ w.heap.size)
    (hc : w.cell? ⟨Bs, 0, none⟩ = some (.slice a zs.length cap)) (hbs : Bs < w.heap.size) (hI : RowB n0 w a zs) :
    SeqStopsK F n Tryd.prog 58 #[.pointer (some ⟨Bs, 0, none⟩)] (fun x : Fin zs.length => #[Value.int .i64 (x.val : Int), Value.int .i64 (zat zs x.val)]) (KeepsB n0 Bs) (fun ys => Came zs ys zs.length)
      (fun _ => True) zs.length w := fun l J Jx W hW _ _ hY h0 =>
  back1_in F n hf hro hn l Bs n0 cap a zs hlen J Jx hY W ((hW.cell (p := ⟨Bs, 0, none⟩) hbs).trans hc) (RowB.below (hW.mono hn0) hI) h0

end Go.Proofs.YtaibngnabhmabakDoor

namespace Go.Proofs.YtaibngnabhmabakDoor
open Go.RowKit Go.Shelf

attribute [local go_sem] Oper.semAt_some

/-- the product of all of a list that are not 0, as elements -/
def prz (p : Nat) (l : List Int) : Nat := l.foldl (fun acc z => if z % (p : Int) = 0 then acc else acc * el p z % p) 1

theorem prz_snoc (p : Nat) (l : List Int) (z : Int) : prz p (l ++ [z]) = if z % (p : Int) = 0 then prz p l else prz p l * el p z % p := by simp [prz]

theorem el_pos {p : Nat} {z : Int} (h3 : 3 ≤ p) (h : z % (p : Int) ≠ 0) : 0 < el p z := by
  have := (emod_bounds z p h3).1; unfold el; omega

theorem prz_ok (p : Nat) (hp : Num.Prime p) (h3 : 3 ≤ p) (l : List Int) : prz p l < p ∧ ¬ p ∣ prz p l := by
  have key : ∀ (l : List Int) (acc : Nat), acc < p → ¬ p ∣ acc → (l.foldl (fun acc z => if z % (p : Int) = 0 then acc else acc * el p z % p) acc) < p ∧ ¬ p ∣ (l.foldl (fun acc z => if z % (p : Int) = 0 then acc else acc * el p z % p) acc) := by
    intro l
    induction l with
    | nil => intro acc h1 h2; exact ⟨h1, h2⟩
    | cons z l ih =>
      intro acc h1 h2
      rw [List.foldl_cons]
      by_cases hz : z % (p : Int) = 0
      · rw [if_pos hz]; exact ih acc h1 h2
      · rw [if_neg hz]
        refine ih _ (Nat.mod_lt _ (by omega)) (fun hd => ?_)
        have hd2 : p ∣ acc * el p z := (Nat.dvd_mod_iff (Nat.dvd_refl p)).1 hd
        rcases Num.euclid hp hd2 with g | g
        · exact h2 g
        · exact Num.not_dvd_lt (el_pos h3 hz) (el_lt p z h3) g
  exact key l 1 (by omega) (fun h => by have := Nat.le_of_dvd (by omega) h; omega)

/-- the product of those ahead of a place -/
def pk (p : Nat) (zs : List Int) (k : Nat) : Nat := prz p (zs.take k)

theorem pk_succ (p : Nat) (zs : List Int) (k : Nat) (h : k < zs.length) : pk p zs (k + 1) = if zat zs k % (p : Int) = 0 then pk p zs k else pk p zs k * el p (zat zs k) % p := by
  unfold pk
  rw [List.take_succ_eq_append_getElem h, prz_snoc]; simp [h, zat]

theorem pk_lt (p : Nat) (hp : Num.Prime p) (h3 : 3 ≤ p) (zs : List Int) (k : Nat) : pk p zs k < p := (prz_ok p hp h3 _).1
theorem pk_nd (p : Nat) (hp : Num.Prime p) (h3 : 3 ≤ p) (zs : List Int) (k : Nat) : ¬ p ∣ pk p zs k := (prz_ok p hp h3 _).2

theorem inv_one {p : Nat} (hp : Num.Prime p) (h3 : 3 ≤ p) {z : Int} (h : z % (p : Int) ≠ 0) : invn p z * el p z % p = 1 := by
  have h1 := el_pos h3 h
  have h2 := el_lt p z h3
  unfold invn
  have : el p z = Num.pwm p (el p z) 1 := (Num.pwm_one p _ h2).symm
  rw [show Num.pwm p (el p z) (p - 2) * el p z = Num.pwm p (el p z) (p - 2) * Num.pwm p (el p z) 1 from by rw [← this], Num.pwm_add, show p - 2 + 1 = p - 1 from by omega]
  exact Num.pwm_fermat hp h1 h2

theorem inv_zero {p : Nat} (h3 : 3 ≤ p) {z : Int} (h : z % (p : Int) = 0) : invn p z = 0 := by
  have he : el p z = 0 := by unfold el; rw [h]; rfl
  unfold invn; rw [he, pwm_zero_left p _ (by omega)]

/-- what makes 1 of an element is one alone -/
theorem inv_unique {p x y e : Nat} (hp : Num.Prime p) (hx : x < p) (hy : y < p) (he : ¬ p ∣ e) (h1 : x * e % p = 1) (h2 : y * e % p = 1) : x = y := by
  have : e * x % p = e * y % p := by rw [Nat.mul_comm, h1, Nat.mul_comm, h2]
  have := Num.cancel hp he this
  rwa [Nat.mod_eq_of_lt hx, Nat.mod_eq_of_lt hy] at this

/-- what is known of the new list and of the inverse while the last n - i are done -/
structure IG (p : Nat) (zs : List Int) (i : Nat) (o : Nat → Nat) (v : Nat) : Prop where
  ahead : ∀ j, j < i → o j = pk p zs j
  behind : ∀ j, i ≤ j → j < zs.length → o j = invn p (zat zs j)
  one : v * pk p zs i % p = 1

/-- one place turned -/
def upd (o : Nat → Nat) (i x : Nat) : Nat → Nat := fun j => if j = i then x else o j

theorem IG.skip {p : Nat} {zs : List Int} {i : Nat} {o : Nat → Nat} {v : Nat} (h3 : 3 ≤ p) (h : IG p zs (i + 1) o v) (hi : i < zs.length) (hz : zat zs i % (p : Int) = 0) : IG p zs i (upd o i 0) v := by
  have e := pk_succ p zs i hi
  rw [if_pos hz] at e
  refine ⟨fun j hj => ?_, fun j h1 h2 => ?_, by rw [← e]; exact h.one⟩
  · unfold upd; rw [if_neg (by omega)]; exact h.ahead j (by omega)
  · unfold upd
    by_cases hji : j = i
    · rw [if_pos hji, hji]; exact (inv_zero h3 hz).symm
    · rw [if_neg hji]; exact h.behind j (by omega) h2

theorem IG.take {p : Nat} {zs : List Int} {i : Nat} {o : Nat → Nat} {v : Nat} (hp : Num.Prime p) (h3 : 3 ≤ p) (h : IG p zs (i + 1) o v) (hi : i < zs.length) (hz : zat zs i % (p : Int) ≠ 0) :
    IG p zs i (upd o i (o i * v % p)) (v * el p (zat zs i) % p) := by
  have e := pk_succ p zs i hi
  rw [if_neg hz] at e
  have hone := h.one
  rw [e] at hone
  have hoi := h.ahead i (by omega)
  refine ⟨fun j hj => ?_, fun j h1 h2 => ?_, ?_⟩
  · unfold upd; rw [if_neg (by omega)]; exact h.ahead j (by omega)
  · unfold upd
    by_cases hji : j = i
    · rw [if_pos hji, hji]
      refine inv_unique hp (Nat.mod_lt _ (by omega)) (invn_lt p _ h3) (Num.not_dvd_lt (el_pos h3 hz) (el_lt p _ h3)) ?_ (inv_one hp h3 hz)
      rw [hoi, Nat.mod_mul_mod, show pk p zs i * v * el p (zat zs i) = v * (pk p zs i * el p (zat zs i)) from by grind, ← Nat.mul_mod_mod]
      exact hone
    · rw [if_neg hji]; exact h.behind j (by omega) h2
  · rw [Nat.mod_mul_mod, show v * el p (zat zs i) * pk p zs i = v * (pk p zs i * el p (zat zs i)) from by grind, ← Nat.mul_mod_mod]
    exact hone

end Go.Proofs.YtaibngnabhmabakDoor
