
import Derived.RangeFuncNested
import Derived.RangeFuncBound
import Derived.RangeFuncCalls
import Derived.RangeFuncLeaves
import Derived.RangeFuncBox
import Derived.RangeFuncWrites
import Derived.Shelf.Abstract
import Derived.WalkKit
import Derived.OwnWalkIn
import Derived.TacticsInMore
import Derived.LoopNIn
import Derived.LoopIn
import Derived.RegionIn
import Derived.BigRegionIn
import Derived.Test.YtlhjifpomchnfaaGreatDoorFld
set_option maxRecDepth 1000000
set_option maxHeartbeats 8000000
namespace Go.Proofs.YtlhjifpomchnfaaGreatDoor
open Go.RowKit Go.Shelf
attribute [local go_sem] Oper.semAt_some
def CameC {m : Nat} (pre : List (Fin m)) (k : Nat) : Prop := pre.map (fun i => i.val) = List.range k
theorem cameC_nil (m : Nat) : CameC ([] : List (Fin m)) 0 := rfl
theorem cameC_snoc {m : Nat} {pre : List (Fin m)} {k : Nat} (h : CameC pre k) (x : Fin m) (hx : x.val = k) : CameC (pre ++ [x]) (k + 1) := by
 unfold CameC at *
 rw [List.map_append, h, List.range_succ]; simp [hx]
theorem cameC_length {m : Nat} {pre : List (Fin m)} {k : Nat} (h : CameC pre k) : pre.length = k := by
 have := congrArg List.length h
 simpa using this
theorem cameC_inv {m : Nat} {pre : List (Fin m)} {x : Fin m} {k : Nat} (h : CameC (pre ++ [x]) (k + 1)) : CameC pre k /\ x.val = k := by
 unfold CameC at *
 rw [List.map_append, List.range_succ] at h
 obtain ⟨h1, h2⟩ := List.append_inj' h rfl
 exact ⟨h1, by simpa using h2⟩
def KeepsC (Bs : Nat) (A B : World) : Prop := B.cell? ⟨Bs, 0, none⟩ = A.cell? ⟨Bs, 0, none⟩ /\ B.cell? ⟨Bs + 1, 0, none⟩ = A.cell? ⟨Bs + 1, 0, none⟩
theorem KeepsC.refl (Bs : Nat) (A : World) : KeepsC Bs A A := ⟨rfl, rfl⟩
theorem KeepsC.trans {Bs : Nat} {A B C : World} (h : KeepsC Bs A B) (k : KeepsC Bs B C) : KeepsC Bs A C := ⟨k.1.trans h.1, k.2.trans h.2⟩
theorem chunk1_in (F : Fence) (n : Nat) (hf : F.fn 199) (hro : F.round = none) (hn : 1 <= n) (l Bs ap L m : Nat) (hL : L = 4 * m) (hlen : m <= 140737488351232) (J Jx : List (Fin m) -> World -> Prop)
  (hAb : ∀ s A B, J s A -> A.grownBy B none -> J s B)
  (hY : ∀ pre x W, J pre W -> pre.length < m -> YieldAt F (n - 1) Tryz.prog l #[.slice (some ⟨ap, 4 * x.val, none⟩) 4 4] W fun e W' =>
   (e = .returned (.bool true) /\ J (pre ++ [x]) W' /\ KeepsC Bs W W') ∨ (e = .returned (.bool false) /\ Jx (pre ++ [x]) W'))
  (W : World) (hBs : W.cell? ⟨Bs, 0, none⟩ = some (.slice (some ⟨ap, 0, none⟩) L L)) (hBn : W.cell? ⟨Bs + 1, 0, none⟩ = some (.int .i64 4)) (h0 : J [] W) :
  CallsIn F n Tryz.prog 199 #[.func (.yield l) #[] #[], .pointer (some ⟨Bs, 0, none⟩), .pointer (some ⟨Bs + 1, 0, none⟩)] W fun e W' => (∃ v, e = .returned v) /\
   ((∃ ys, CameC ys m /\ J ys W') ∨ (∃ pre, True /\ Jx pre W')) := by
 have hmx : Tryz.prog.follows .mixedOrders = true := by kernel_rfl
 have HLM := hid hL
 have hLb : L <= 562949953404928 := by omega
 clear hL
 refine callsIn_of_wp Tryz.func199 rfl hf ?_ hro
 simp only [Tryz.ntmps199, List.size_toArray, List.length_cons, List.length_nil, Nat.reduceAdd, Nat.reduceSub, Array.replicate_succ, Array.replicate_zero, List.push_toArray, List.append_toArray, List.nil_append, List.cons_append]
 gi_wp2
 gi_loopw [4] (fun i wr => ∃ (k : Nat) (pre : List (Fin m)) (I : Nat), k <= m /\ i = .int .i64 (I : Int) /\ Hid (I = 4 * k) /\ Hid (CameC pre k) /\ J pre wr /\ Hid (KeepsC Bs W wr))
  (fun i _ => L - (intOf i).toNat)
 case atStart => exact ⟨0, [], 0, by omega, rfl, rfl, cameC_nil m, h0, KeepsC.refl _ _⟩
 case round =>
  obtain ⟨k, pre, I, hk, rfl, hI, hcame, hJs, hkp⟩ := hrel
  have hBs2 := hkp.out.1.trans hBs
  have hBn2 := hkp.out.2.trans hBn
  by_cases hlt : k < m
  ·have hIL : I + 4 <= L := by have := hI.out; have := HLM.out; omega
   have hlt2 : (I : Int) < (L : Int) := by omega
   have hle2 : (I : Int) <= (L : Int) := by omega
   obtain ⟨hJd⟩ : Nonempty (Hid (J pre wr.drew)) := ⟨hAb pre wr wr.drew hJs ⟨rfl, rfl, rfl, Nat.le_refl _, fun _ _ _ => rfl⟩⟩
   obtain ⟨fn, tmps, assign, body, hy, hR⟩ := hY pre ⟨k, hlt⟩ wr.drew hJd.out (by rw [cameC_length hcame.out]; omega)
   have HCM := hid (cameC_snoc hcame.out ⟨k, hlt⟩ rfl)
   have hmin : min (4 : Int) ((L - I : Nat) : Int) = 4 := by omega
   have hto : ((I : Int) + 4).toNat - I = 4 := by omega
   have hs1 : (I : Int) + 4 <= (L : Int) := by omega
   have hw1 : IntKind.i64.wrap ((I : Int) + 4) = (I : Int) + 4 := by rw [IntKind.wrap_i64]; omega
   dsimp only at hy
   rw [<- hI.out] at hy
   gi_wp2
   gi_region
   all_goals
    gi_wp2
   all_goals
    refine hR.mono ?_
    rintro e W3 (⟨rfl, hJ3, hk3⟩ | ⟨rfl, hJx3⟩)
    ·have HK3 : Hid (KeepsC Bs W W3) := hkp.out.trans ((show KeepsC Bs wr W3 from hk3))
     have hBn3 := HK3.out.2.trans hBn
     clear hk3 hkp hBs2 hBn2
     gi_wp2
     go_roundw
     case rel => exact ⟨k + 1, _, I + 4, by omega, by go_num, by have := hI.out; show I + 4 = 4 * (k + 1); omega, HCM, hJ3, HK3⟩
     case measure => simp [intOf]; omega
    ·gi_wp2
     refine bodyPost_ret (results_none rfl _ _ _) rfl ?_
     exact ⟨⟨_, rfl⟩, .inr ⟨_, trivial, hJx3⟩⟩
  ·have hge : ¬ (I : Int) < (L : Int) := by have := hI.out; have := HLM.out; omega
   obtain rfl : k = m := by omega
   gi_wp2
   go_end0
   exact ⟨⟨_, rfl⟩, .inl ⟨_, hcame.out, hJs⟩⟩
theorem chunk_in (F : Fence) (n : Nat) (hf : F.fn 145) (hro : F.round = none) (a : Option Addr) (len cap : Nat) (w : World) :
  CallsIn F n Tryz.prog 145 #[.slice a len cap, .int .i64 4] w fun e w' => e = .returned (.func (.func 199) #[] #[.pointer (some ⟨w.heap.size, 0, none⟩), .pointer (some ⟨w.heap.size + 1, 0, none⟩)]) /\ w' = (w.alloc (.cells #[.slice a len cap] 22)).alloc (.cells #[.int .i64 4] 3) := by
 refine callsIn_of_wp Tryz.func145 rfl hf ?_ hro
 simp only [Tryz.ntmps145, List.size_toArray, List.length_cons, List.length_nil, Nat.reduceAdd, Nat.reduceSub, Array.replicate_succ, Array.replicate_zero, List.push_toArray, List.append_toArray, List.nil_append, List.cons_append]
 gi_wp2
 go_ret
 exact ⟨rfl, rfl⟩
theorem chunk_stops (F : Fence) (n : Nat) (hf : F.fn 199) (hro : F.round = none) (hn : 1 <= n) (Bs ap L m : Nat) (hL : L = 4 * m) (hlen : m <= 140737488351232) (w : World)
  (hBs : w.cell? ⟨Bs, 0, none⟩ = some (.slice (some ⟨ap, 0, none⟩) L L)) (hBn : w.cell? ⟨Bs + 1, 0, none⟩ = some (.int .i64 4)) (hbs : Bs + 1 < w.heap.size) :
  SeqStopsK F n Tryz.prog 199 #[.pointer (some ⟨Bs, 0, none⟩), .pointer (some ⟨Bs + 1, 0, none⟩)] (fun x : Fin m => #[Value.slice (some ⟨ap, 4 * x.val, none⟩) 4 4]) (KeepsC Bs) (fun ys => CameC ys m)
   (fun _ => True) m w := fun l J Jx W hW hJ _ hY h0 =>
 chunk1_in F n hf hro hn l Bs ap L m hL hlen J Jx (fun s A B h1 h2 => hJ s A B none h1 h2 (fun _ e => by cases e)) hY W ((hW.cell (p := ⟨Bs, 0, none⟩) (by show Bs < _; omega)).trans hBs) ((hW.cell (p := ⟨Bs + 1, 0, none⟩) hbs).trans hBn) h0
end Go.Proofs.YtlhjifpomchnfaaGreatDoor
