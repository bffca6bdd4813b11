/- slices.Backward over a list of numbers, by its own text: what comes round by round, from the end of the list on. -/
import Derived.RangeFuncNested
import Derived.RangeFuncBound
import Derived.RangeFuncCalls
import Derived.RangeFuncLeaves
import Derived.RangeFuncBox
import Derived.RangeFuncWrites
import Derived.Shelf.Abstract
import Derived.WalkKit
import Derived.OwnWalkIn
import Derived.TacticsInMore
import Derived.LoopNIn
import Derived.LoopIn
import Derived.Test.YtecaifjbmfianagDoorFld
namespace Go.Proofs.YtecaifjbmfianagDoor
open Go.RowKit Go.Shelf

attribute [local go_sem] Oper.semAt_some

/-- what has come when k rounds are over -/
def upto {α : Type} (f : Nat → α) (k : Nat) : List α := (List.range k).map f
theorem upto_succ {α : Type} (f : Nat → α) (k : Nat) : upto f (k + 1) = upto f k ++ [f k] := by simp [upto, List.range_succ]
theorem upto_length {α : Type} (f : Nat → α) (k : Nat) : (upto f k).length = k := by simp [upto]

/-- these places have come, from the end on -/
def Came (zs : List Int) (pre : List (Fin zs.length)) (k : Nat) : Prop := pre.map (fun i => i.val) = upto (fun j => zs.length - 1 - j) k
theorem came_nil (zs : List Int) : Came zs [] 0 := rfl
theorem came_snoc {zs : List Int} {pre : List (Fin zs.length)} {k : Nat} (h : Came zs pre k) (x : Fin zs.length) (hx : x.val = zs.length - 1 - k) : Came zs (pre ++ [x]) (k + 1) := by
  unfold Came at *
  rw [List.map_append, h, upto_succ]; simp [hx]
theorem came_length {zs : List Int} {pre : List (Fin zs.length)} {k : Nat} (h : Came zs pre k) : pre.length = k := by
  have := congrArg List.length h
  simpa [upto] using this
theorem came_inv {zs : List Int} {pre : List (Fin zs.length)} {x : Fin zs.length} {k : Nat} (h : Came zs (pre ++ [x]) (k + 1)) : Came zs pre k ∧ x.val = zs.length - 1 - k := by
  unfold Came at *
  rw [List.map_append, upto_succ] at h
  obtain ⟨h1, h2⟩ := List.append_inj' h rfl
  exact ⟨h1, by simpa using h2⟩

/-- what a round keeps: all below n0, and the box of the list -/
def KeepsB (n0 Bs : Nat) (A B : World) : Prop := Below n0 A B ∧ B.cell? ⟨Bs, 0, none⟩ = A.cell? ⟨Bs, 0, none⟩
theorem KeepsB.refl (n0 Bs : Nat) (A : World) : KeepsB n0 Bs A A := ⟨Below.refl _ _, rfl⟩
theorem KeepsB.trans {n0 Bs : Nat} {A B C : World} (h : KeepsB n0 Bs A B) (k : KeepsB n0 Bs B C) : KeepsB n0 Bs A C := ⟨h.1.trans k.1, k.2.trans h.2⟩

set_option maxRecDepth 100000 in
set_option maxHeartbeats 1000000 in
theorem back1_in (F : Fence) (n : Nat) (hf : F.fn 104) (hro : F.round = none) (hn : 1 ≤ n) (l Bs n0 cap : Nat) (a : Option Addr) (zs : List Int) (hlen : zs.length ≤ 140737488351232) (J Jx : List (Fin zs.length) → World → Prop)
    (hY : ∀ pre x W, J pre W → pre.length < zs.length → YieldAt F (n - 1) Tryd.prog l #[.int .i64 (x.val : Int), .int .i64 (zat zs x.val)] W fun e W' =>
      (e = .returned (.bool true) ∧ J (pre ++ [x]) W' ∧ KeepsB n0 Bs W W') ∨ (e = .returned (.bool false) ∧ Jx (pre ++ [x]) W'))
    (W : World) (hBs : W.cell? ⟨Bs, 0, none⟩ = some (.slice a zs.length cap)) (hc : RowB n0 W a zs) (h0 : J [] W) :
    CallsIn F n Tryd.prog 104 #[.func (.yield l) #[] #[], .pointer (some ⟨Bs, 0, none⟩)] W fun e W' => (∃ v, e = .returned v) ∧
      ((∃ ys, Came zs ys zs.length ∧ J ys W') ∨ (∃ pre, True ∧ Jx pre W')) := by
  have HC := hid hc
  clear hc
  refine callsIn_of_wp Tryd.func104 rfl hf ?_ hro
  simp only [Tryd.ntmps104, List.size_toArray, List.length_cons, List.length_nil, Nat.reduceAdd, Nat.reduceSub, Array.replicate_succ, Array.replicate_zero, List.push_toArray, List.append_toArray, List.nil_append, List.cons_append]
  gi_wp2
  gi_loopw [3] (fun i wr => ∃ (k : Nat) (pre : List (Fin zs.length)), ((i = .int .i64 (-1) ∧ k = zs.length) ∨ (∃ j : Nat, i = .int .i64 j ∧ j + k + 1 = zs.length)) ∧ Hid (Came zs pre k) ∧ J pre wr ∧ Hid (KeepsB n0 Bs W wr))
    (fun i _ => ((intOf i) + 1).toNat)
  case atStart =>
    by_cases hz : zs.length = 0
    · exact ⟨0, [], .inl ⟨by rw [hz]; rfl, hz.symm⟩, came_nil zs, h0, KeepsB.refl _ _ _⟩
    · exact ⟨0, [], .inr ⟨zs.length - 1, by go_num, by omega⟩, came_nil zs, h0, KeepsB.refl _ _ _⟩
  case round =>
    obtain ⟨k, pre, ⟨rfl, rfl⟩ | ⟨j, rfl, hjk⟩, hcame, hJs, hkp⟩ := hrel
    · gi_wp2
      go_end0
      exact ⟨⟨_, rfl⟩, .inl ⟨_, hcame.out, hJs⟩⟩
    · have hjl : j < zs.length := by omega
      obtain ⟨b, o, rfl, hbn, hcell⟩ := HC.out j hjl
      have hcell2 := (hkp.out.1.cell (p := ⟨b, o + j, none⟩) hbn).trans hcell
      have hBs2 := hkp.out.2.trans hBs
      obtain ⟨fn, tmps, assign, body, hy, hR⟩ := hY pre ⟨j, hjl⟩ wr hJs (by rw [came_length hcame.out]; omega)
      have HCM := hid (came_snoc hcame.out ⟨j, hjl⟩ (by show j = _; omega))
      have HJK := hid hjk
      clear hjk hcell HC hcame
      dsimp only at hy
      generalize zat zs j = x at *
      gi_wp2
      refine hR.mono ?_
      rintro e W3 (⟨rfl, hJ3, hk3⟩ | ⟨rfl, hJx3⟩)
      · have HK3 := hid hk3
        clear hk3
        by_cases hj0 : j = 0
        · subst hj0
          gi_wp2
          go_roundw
          case rel => exact ⟨k + 1, _, .inl ⟨rfl, by have := HJK.out; omega⟩, HCM, hJ3, hkp.out.trans HK3.out⟩
          case measure => simp [intOf]
        · obtain ⟨j', rfl⟩ : ∃ j', j = j' + 1 := ⟨j - 1, by omega⟩
          gi_wp2
          go_roundw
          case rel => exact ⟨k + 1, _, .inr ⟨j', by go_num, by have := HJK.out; omega⟩, HCM, hJ3, hkp.out.trans HK3.out⟩
          case measure => simp [intOf]; omega
      · gi_wp2
        refine bodyPost_ret (results_none rfl _ _ _) rfl ?_
        exact ⟨⟨_, rfl⟩, .inr ⟨_, trivial, hJx3⟩⟩

set_option maxHeartbeats 1000000 in
theorem back_in (F : Fence) (n : Nat) (hf : F.fn 87) (hro : F.round = none) (a : Option Addr) (len cap : Nat) (w : World) :
    CallsIn F n Tryd.prog 87 #[.slice a len cap] w fun e w' => e = .returned (.func (.func 104) #[] #[.pointer (some ⟨w.heap.size, 0, none⟩)]) ∧ w' = w.alloc (.cells #[.slice a len cap] 23) := by
  refine callsIn_of_wp Tryd.func87 rfl hf ?_ hro
  simp only [Tryd.ntmps87, List.size_toArray, List.length_cons, List.length_nil, Nat.reduceAdd, Nat.reduceSub, Array.replicate_succ, Array.replicate_zero, List.push_toArray, List.append_toArray, List.nil_append, List.cons_append]
  gi_wp2
  go_ret
  exact ⟨rfl, rfl⟩

theorem back_stops (F : Fence) (n : Nat) (hf : F.fn 104) (hro : F.round = none) (hn : 1 ≤ n) (Bs n0 cap : Nat) (a : Option Addr) (zs : List Int) (hlen : zs.length ≤ 140737488351232) (w : World) (hn0 : n0 ≤ w.heap.size)
    (hc : w.cell? ⟨Bs, 0, none⟩ = some (.slice a zs.length cap)) (hbs : Bs < w.heap.size) (hI : RowB n0 w a zs) :
    SeqStopsK F n Tryd.prog 104 #[.pointer (some ⟨Bs, 0, none⟩)] (fun x : Fin zs.length => #[Value.int .i64 (x.val : Int), Value.int .i64 (zat zs x.val)]) (KeepsB n0 Bs) (fun ys => Came zs ys zs.length)
      (fun _ => True) zs.length w := fun l J Jx W hW _ _ hY h0 =>
  back1_in F n hf hro hn l Bs n0 cap a zs hlen J Jx hY W ((hW.cell (p := ⟨Bs, 0, none⟩) hbs).trans hc) (RowB.below (hW.mono hn0) hI) h0

end Go.Proofs.YtecaifjbmfianagDoor
