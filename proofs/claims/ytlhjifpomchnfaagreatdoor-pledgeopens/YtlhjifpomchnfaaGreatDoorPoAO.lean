
import Derived.Test.YtlhjifpomchnfaaGreatDoorPoAI
import Derived.Test.YtlhjifpomchnfaaGreatDoorPoAN
import Derived.Test.YtlhjifpomchnfaaGreatDoorPoAE
import Derived.Test.YtlhjifpomchnfaaGreatDoorSpgs
import Derived.Test.YtlhjifpomchnfaaGreatDoorPoAK
import Derived.StillTailTactics
set_option maxRecDepth 1000000
set_option maxHeartbeats 8000000
namespace Go.Proofs.YtlhjifpomchnfaaGreatDoor
open Go.RowKit
theorem isTold_any (n1 n2 n3 c1 c2 c3 l : Nat) (a1 a2 a3 : Option Addr) (x y x4 x5 x6 : Value) (h : Int) (w : World) (hl : l <= 12) :
  Calls Tryz.prog 53 #[.agg #[x, y, .int .i64 h, .int .i64 (l : Int)], .agg #[.slice a1 n1 c1, .slice a2 n2 c2, .slice a3 n3 c3, x4, x5, x6]] w fun e w' => e = .returned (.bool (decide (n1 = 4 /\ n2 = 2 ^ l /\ n3 = 2 ^ l))) /\ Below w.heap.size w w' := by
 obtain ⟨W1, hW1⟩ := exE ((w.alloc (.cells #[x, y, .int .i64 h, .int .i64 (l : Int)] 87)).alloc (.cells #[.slice a1 n1 c1, .slice a2 n2 c2, .slice a3 n3 c3, x4, x5, x6] 33))
 have hb1 : Below w.heap.size w W1 := by rw [hW1]; exact ((Below.refl _ _).alloc (Nat.le_refl _) _).alloc (by simp) _
 have hs1 : W1.heap[w.heap.size]? = some (.cells #[x, y, .int .i64 h, .int .i64 (l : Int)] 87 (0, 0)) := by
  rw [hW1]
  have := heap_alloc_new w (.cells #[x, y, .int .i64 h, .int .i64 (l : Int)] 87)
  have hb := (Below.refl (w.alloc (.cells #[x, y, .int .i64 h, .int .i64 (l : Int)] 87)).heap.size (w.alloc (.cells #[x, y, .int .i64 h, .int .i64 (l : Int)] 87))).alloc (Nat.le_refl _) (.cells #[.slice a1 n1 c1, .slice a2 n2 c2, .slice a3 n3 c3, x4, x5, x6] 33)
  exact (hb.block _ (by simp)).trans this
 have hs2 : W1.heap[w.heap.size + 1]? = some (.cells #[.slice a1 n1 c1, .slice a2 n2 c2, .slice a3 n3 c3, x4, x5, x6] 33 (0, 0)) := by
  rw [hW1]
  have := heap_alloc_new (w.alloc (.cells #[x, y, .int .i64 h, .int .i64 (l : Int)] 87)) (.cells #[.slice a1 n1 c1, .slice a2 n2 c2, .slice a3 n3 c3, x4, x5, x6] 33)
  simpa using this
 obtain ⟨X, hX⟩ := exE (2 ^ l)
 obtain ⟨G, hG⟩ := exE (w.heap.size)
 obtain ⟨P, hP⟩ := exE (w.heap.size + 1)
 rw [<- hG] at hs1
 rw [<- hP] at hs2
 have HWI : Hid (∀ W, Below W1.heap.size W1 W -> Calls Tryz.prog 105 #[.agg #[x, y, .int .i64 h, .int .i64 (l : Int)]] W fun e w' => e = .returned (.int .i64 (X : Int)) /\ Below W1.heap.size W1 w') := fun W hW => by
  rw [hX]
  refine (wide_any _ _ _ l W hl).mono ?_
  rintro e w' ⟨rfl, h⟩
  exact ⟨rfl, hW.trans (h.mono hW.size)⟩
 have HK : Hid (∀ W, Below W1.heap.size W1 W -> W.cell? ⟨G, 0, none⟩ = some x /\ W.cell? ⟨G, 1, none⟩ = some y /\ W.cell? ⟨G, 2, none⟩ = some (.int .i64 h) /\ W.cell? ⟨G, 3, none⟩ = some (.int .i64 (l : Int)) /\ W.cell? ⟨P, 0, none⟩ = some (.slice a1 n1 c1) /\ W.cell? ⟨P, 1, none⟩ = some (.slice a2 n2 c2) /\ W.cell? ⟨P, 2, none⟩ = some (.slice a3 n3 c3)) := fun W hW => by
  have e1 := (hW.block G (Array.getElem?_eq_some_iff.1 hs1).1).trans hs1
  have e2 := (hW.block P (Array.getElem?_eq_some_iff.1 hs2).1).trans hs2
  refine ⟨?_, ?_, ?_, ?_, ?_, ?_, ?_⟩ <;> simp [World.cell?, e1, e2]
 have HE : Hid (∀ W, Below W1.heap.size W1 W -> Below w.heap.size w W) := fun W hW => hb1.trans (hW.mono hb1.size)
 have hdw : Below W1.heap.size W1 W1.drew := (Below.refl _ _).drew
 rw [<- hX]
 have HW1 := hid hW1
 have HG := hid hG
 have HP := hid hP
 have HZ : Hid ((w.alloc (.cells #[x, y, .int .i64 h, .int .i64 (l : Int)] 87)).heap.size = w.heap.size + 1) := by unfold Hid; simp
 clear hs1 hs2 hb1 hX hW1 hG hP hl
 by_cases e1 : n1 = 4
 ·have k1 : ((n1 : Int) == 4) = true := by rw [e1]; rfl
  by_cases e2 : n2 = X
  ·have k2 : ((n2 : Int) == (X : Int)) = true := by rw [e2]; exact beq_self_eq_true _
   by_cases e3 : n3 = X
   ·have HD : Hid (decide (n1 = 4 /\ n2 = X /\ n3 = X) = true) := decide_eq_true ⟨e1, e2, e3⟩
    have k3 : ((n3 : Int) == (X : Int)) = true := by rw [e3]; exact beq_self_eq_true _
    rw [HD.out]
    clear HD e1 e2 e3
    go_enter Tryz.func53, Tryz.ntmps53
    go_wp2_with fail
    rw [<- HP.out, <- HG.out, <- HW1.out]
    clear HW1 HG HP HZ
    go_region_held3 (fun W => W.cell? ⟨G, 0, none⟩ = some x /\ W.cell? ⟨G, 1, none⟩ = some y /\ W.cell? ⟨G, 2, none⟩ = some (.int .i64 h) /\ W.cell? ⟨G, 3, none⟩ = some (.int .i64 (l : Int)) /\ W.cell? ⟨P, 0, none⟩ = some (.slice a1 n1 c1) /\ W.cell? ⟨P, 1, none⟩ = some (.slice a2 n2 c2) /\ W.cell? ⟨P, 2, none⟩ = some (.slice a3 n3 c3)) (exact HK.out _ (by assumption))
     (first
      | (go_at_call 105; refine (HWI.out _ (by assumption)).mono ?_; rintro e w' ⟨rfl, hb'⟩))
    all_goals
     go_wp2_with fail
     go_ret
     exact ⟨rfl, HE.out _ (by assumption)⟩
   ·have HD : Hid (decide (n1 = 4 /\ n2 = X /\ n3 = X) = false) := decide_eq_false (fun h => e3 h.2.2)
    have k3 : ((n3 : Int) == (X : Int)) = false := by rw [beq_eq_false_iff_ne]; omega
    rw [HD.out]
    clear HD e1 e2 e3
    go_enter Tryz.func53, Tryz.ntmps53
    go_wp2_with fail
    rw [<- HP.out, <- HG.out, <- HW1.out]
    clear HW1 HG HP HZ
    go_region_held3 (fun W => W.cell? ⟨G, 0, none⟩ = some x /\ W.cell? ⟨G, 1, none⟩ = some y /\ W.cell? ⟨G, 2, none⟩ = some (.int .i64 h) /\ W.cell? ⟨G, 3, none⟩ = some (.int .i64 (l : Int)) /\ W.cell? ⟨P, 0, none⟩ = some (.slice a1 n1 c1) /\ W.cell? ⟨P, 1, none⟩ = some (.slice a2 n2 c2) /\ W.cell? ⟨P, 2, none⟩ = some (.slice a3 n3 c3)) (exact HK.out _ (by assumption))
     (first
      | (go_at_call 105; refine (HWI.out _ (by assumption)).mono ?_; rintro e w' ⟨rfl, hb'⟩))
    all_goals
     go_wp2_with fail
     go_ret
     exact ⟨rfl, HE.out _ (by assumption)⟩
  ·have HD : Hid (decide (n1 = 4 /\ n2 = X /\ n3 = X) = false) := decide_eq_false (fun h => e2 h.2.1)
   have k2 : ((n2 : Int) == (X : Int)) = false := by rw [beq_eq_false_iff_ne]; omega
   rw [HD.out]
   clear HD e1
   go_enter Tryz.func53, Tryz.ntmps53
   go_wp2_with fail
   rw [<- HP.out, <- HG.out, <- HW1.out]
   clear HW1 HG HP HZ
   refine wp_region_held_drew (S := fun W => W.cell? ⟨G, 0, none⟩ = some x /\ W.cell? ⟨G, 1, none⟩ = some y /\ W.cell? ⟨G, 2, none⟩ = some (.int .i64 h) /\ W.cell? ⟨G, 3, none⟩ = some (.int .i64 (l : Int)) /\ W.cell? ⟨P, 0, none⟩ = some (.slice a1 n1 c1) /\ W.cell? ⟨P, 1, none⟩ = some (.slice a2 n2 c2) /\ W.cell? ⟨P, 2, none⟩ = some (.slice a3 n3 c3)) (by kernel_rfl) (HK.out W1.drew hdw) (fun hHeld => ?_)
   refine tkU 0 (.pointer (some ⟨P, 0, none⟩)) rfl (fun W hC => by go_simp) hHeld ?_
   simp only [Act.put, aS0, aS1, aS2]
   refine tkU 1 (.slice a1 n1 c1) rfl (fun W hC => by (obtain ⟨y0, y1, y2, y3, y4, y5, y6⟩ := hC); go_simp) hHeld ?_
   simp only [Act.put, aS0, aS1, aS2]
   refine tkU 2 (.int .i64 (n1 : Int)) rfl (fun W hC => by go_simp) hHeld ?_
   simp only [Act.put, aS0, aS1, aS2]
   refine tkU 3 (.bool true) rfl (fun W hC => by go_simp) hHeld ?_
   simp only [Act.put, aS0, aS1, aS2]
   refine tkU 4 (.bool true) rfl (fun W hC => by go_simp) hHeld ?_
   simp only [Act.put, aS0, aS1, aS2]
   refine tkU 5 (.pointer (some ⟨P, 1, none⟩)) rfl (fun W hC => by go_simp) hHeld ?_
   simp only [Act.put, aS0, aS1, aS2]
   refine tkU 6 (.slice a2 n2 c2) rfl (fun W hC => by (obtain ⟨y0, y1, y2, y3, y4, y5, y6⟩ := hC); go_simp) hHeld ?_
   simp only [Act.put, aS0, aS1, aS2]
   refine tkU 7 (.int .i64 (n2 : Int)) rfl (fun W hC => by go_simp) hHeld ?_
   simp only [Act.put, aS0, aS1, aS2]
   refine tkU 8 (.agg #[x, y, .int .i64 h, .int .i64 (l : Int)]) rfl (fun W hC => by (obtain ⟨y0, y1, y2, y3, y4, y5, y6⟩ := hC); go_simp) hHeld ?_
   simp only [Act.put, aS0, aS1, aS2]
   refine wpAnyH_ready (rs := [9]) (by kernel_rfl) (by simp) ?_
   refine AllReadyH.consU rfl (fun K' hK' => ?_) AllReadyH.nil
   go_simp
   refine (HWI.out _ hdw).mono ?_
   rintro e w' ⟨rfl, hb'⟩
   refine hK'.out _ _ (HK.out w' hb') (fun hHeld => ?_)
   clear hK' K'
   refine tkU 10 (.bool false) rfl (fun W hC => by go_simp) hHeld ?_
   simp only [Act.put, aS0, aS1, aS2]
   refine tkU 11 (.bool false) rfl (fun W hC => by go_simp) hHeld ?_
   simp only [Act.put, aS0, aS1, aS2]
   refine tkU 12 (.bool false) rfl (fun W hC => by go_simp) hHeld ?_
   simp only [Act.put, aS0, aS1, aS2]
   refine wpAnyH_skipV (i := 13) rfl (by kernel_rfl) (by kernel_rfl) (by kernel_rfl) (fun _ _ _ h => h) (by rfl) hHeld ?_
   simp only [Act.put, aS0, aS1, aS2]
   refine wpAnyH_skipV (i := 14) rfl (by kernel_rfl) (by kernel_rfl) (by kernel_rfl) (fun _ _ _ h => h) (by rfl) hHeld ?_
   simp only [Act.put, aS0, aS1, aS2]
   refine wpAnyH_skipV (i := 15) rfl (by kernel_rfl) (by kernel_rfl) (by kernel_rfl) (fun _ _ _ h => h) (by rfl) hHeld ?_
   simp only [Act.put, aS0, aS1, aS2]
   refine wpAnyH_skipV (i := 16) rfl (by kernel_rfl) (by kernel_rfl) (by kernel_rfl) (fun _ _ _ h => h) (by rfl) hHeld ?_
   simp only [Act.put, aS0, aS1, aS2]
   refine wpAnyH_skipV (i := 17) rfl (by kernel_rfl) (by kernel_rfl) (by kernel_rfl) (fun _ _ _ h => h) (by rfl) hHeld ?_
   simp only [Act.put, aS0, aS1, aS2]
   refine wpAnyH_skipV (i := 18) rfl (by kernel_rfl) (by kernel_rfl) (by kernel_rfl) (fun _ _ _ h => h) (by rfl) hHeld ?_
   simp only [Act.put, aS0, aS1, aS2]
   refine tkU 19 (.bool false) rfl (fun W hC => by go_simp) hHeld ?_
   simp only [Act.put, aS0, aS1, aS2]
   refine tkU 20 (.bool false) rfl (fun W hC => by go_simp) hHeld ?_
   simp only [Act.put, aS0, aS1, aS2]
   refine wpAnyH_done (by kernel_rfl) ?_ _
   go_wp2_with fail
   go_ret
   exact ⟨rfl, HE.out _ hb'⟩
 ·have HD : Hid (decide (n1 = 4 /\ n2 = X /\ n3 = X) = false) := decide_eq_false (fun h => e1 h.1)
  have k1 : ((n1 : Int) == 4) = false := by rw [beq_eq_false_iff_ne]; omega
  rw [HD.out]
  clear HD e1
  go_enter Tryz.func53, Tryz.ntmps53
  go_wp2_with fail
  rw [<- HP.out, <- HG.out, <- HW1.out]
  clear HW1 HG HP HZ
  refine wp_region_held_drew (S := fun W => W.cell? ⟨G, 0, none⟩ = some x /\ W.cell? ⟨G, 1, none⟩ = some y /\ W.cell? ⟨G, 2, none⟩ = some (.int .i64 h) /\ W.cell? ⟨G, 3, none⟩ = some (.int .i64 (l : Int)) /\ W.cell? ⟨P, 0, none⟩ = some (.slice a1 n1 c1) /\ W.cell? ⟨P, 1, none⟩ = some (.slice a2 n2 c2) /\ W.cell? ⟨P, 2, none⟩ = some (.slice a3 n3 c3)) (by kernel_rfl) (HK.out W1.drew hdw) (fun hHeld => ?_)
  refine tkU 0 (.pointer (some ⟨P, 0, none⟩)) rfl (fun W hC => by go_simp) hHeld ?_
  simp only [Act.put, aS0, aS1, aS2]
  refine tkU 1 (.slice a1 n1 c1) rfl (fun W hC => by (obtain ⟨y0, y1, y2, y3, y4, y5, y6⟩ := hC); go_simp) hHeld ?_
  simp only [Act.put, aS0, aS1, aS2]
  refine tkU 2 (.int .i64 (n1 : Int)) rfl (fun W hC => by go_simp) hHeld ?_
  simp only [Act.put, aS0, aS1, aS2]
  refine tkU 3 (.bool false) rfl (fun W hC => by go_simp) hHeld ?_
  simp only [Act.put, aS0, aS1, aS2]
  refine tkU 4 (.bool false) rfl (fun W hC => by go_simp) hHeld ?_
  simp only [Act.put, aS0, aS1, aS2]
  refine wpAnyH_skipV (i := 5) rfl (by kernel_rfl) (by kernel_rfl) (by kernel_rfl) (fun _ _ _ h => h) (by rfl) hHeld ?_
  simp only [Act.put, aS0, aS1, aS2]
  refine wpAnyH_skipV (i := 6) rfl (by kernel_rfl) (by kernel_rfl) (by kernel_rfl) (fun _ _ _ h => h) (by rfl) hHeld ?_
  simp only [Act.put, aS0, aS1, aS2]
  refine wpAnyH_skipV (i := 7) rfl (by kernel_rfl) (by kernel_rfl) (by kernel_rfl) (fun _ _ _ h => h) (by rfl) hHeld ?_
  simp only [Act.put, aS0, aS1, aS2]
  refine wpAnyH_skipV (i := 8) rfl (by kernel_rfl) (by kernel_rfl) (by kernel_rfl) (fun _ _ _ h => h) (by rfl) hHeld ?_
  simp only [Act.put, aS0, aS1, aS2]
  refine wpAnyH_skipV (i := 9) rfl (by kernel_rfl) (by kernel_rfl) (by kernel_rfl) (fun _ _ _ h => h) (by rfl) hHeld ?_
  simp only [Act.put, aS0, aS1, aS2]
  refine wpAnyH_skipV (i := 10) rfl (by kernel_rfl) (by kernel_rfl) (by kernel_rfl) (fun _ _ _ h => h) (by rfl) hHeld ?_
  simp only [Act.put, aS0, aS1, aS2]
  refine tkU 11 (.bool false) rfl (fun W hC => by go_simp) hHeld ?_
  simp only [Act.put, aS0, aS1, aS2]
  refine tkU 12 (.bool false) rfl (fun W hC => by go_simp) hHeld ?_
  simp only [Act.put, aS0, aS1, aS2]
  refine wpAnyH_skipV (i := 13) rfl (by kernel_rfl) (by kernel_rfl) (by kernel_rfl) (fun _ _ _ h => h) (by rfl) hHeld ?_
  simp only [Act.put, aS0, aS1, aS2]
  refine wpAnyH_skipV (i := 14) rfl (by kernel_rfl) (by kernel_rfl) (by kernel_rfl) (fun _ _ _ h => h) (by rfl) hHeld ?_
  simp only [Act.put, aS0, aS1, aS2]
  refine wpAnyH_skipV (i := 15) rfl (by kernel_rfl) (by kernel_rfl) (by kernel_rfl) (fun _ _ _ h => h) (by rfl) hHeld ?_
  simp only [Act.put, aS0, aS1, aS2]
  refine wpAnyH_skipV (i := 16) rfl (by kernel_rfl) (by kernel_rfl) (by kernel_rfl) (fun _ _ _ h => h) (by rfl) hHeld ?_
  simp only [Act.put, aS0, aS1, aS2]
  refine wpAnyH_skipV (i := 17) rfl (by kernel_rfl) (by kernel_rfl) (by kernel_rfl) (fun _ _ _ h => h) (by rfl) hHeld ?_
  simp only [Act.put, aS0, aS1, aS2]
  refine wpAnyH_skipV (i := 18) rfl (by kernel_rfl) (by kernel_rfl) (by kernel_rfl) (fun _ _ _ h => h) (by rfl) hHeld ?_
  simp only [Act.put, aS0, aS1, aS2]
  refine tkU 19 (.bool false) rfl (fun W hC => by go_simp) hHeld ?_
  simp only [Act.put, aS0, aS1, aS2]
  refine tkU 20 (.bool false) rfl (fun W hC => by go_simp) hHeld ?_
  simp only [Act.put, aS0, aS1, aS2]
  refine wpAnyH_done (by kernel_rfl) ?_ _
  go_wp2_with fail
  go_ret
  exact ⟨rfl, HE.out _ hdw⟩
theorem rtwo_any (n : Nat) (w : World) (hn : n <= 60) : Calls Tryz.prog 37 #[.int .i64 (n : Int)] w fun e w' => e = .returned (.int .i64 ((2 ^ n : Nat) : Int)) /\ w' = w := by
 obtain ⟨X0, hX0⟩ : ∃ X0 : Nat, X0 = 2 ^ n := ⟨_, rfl⟩
 rw [<- hX0]
 have HX0 := hid hX0
 clear hX0
 go_enter Tryz.func37, Tryz.ntmps37
 go_wp2_with fail
 go_loop [3, 4] (fun xv iv => ∃ k X : Nat, k <= n /\ iv = .int .i64 (k : Int) /\ xv = .int .i64 (X : Int) /\ Hid (X = 2 ^ k)) (fun _ iv => n - (intOf iv).toNat)
 case atStart => exact ⟨0, 1, by omega, rfl, rfl, rfl⟩
 case round =>
  obtain ⟨k, X, hk, rfl, rfl, HX⟩ := hrel
  by_cases hlt : k < n
  ·have hlt2 : (k : Int) < (n : Int) := by omega
   have hks : IntKind.i64.wrap ((k : Int) + 1) = (k : Int) + 1 := by rw [IntKind.wrap_i64]; omega
   have hp : X <= 1152921504606846976 := by
    rw [HX.out]
    exact Nat.pow_le_pow_right (n := 2) (by decide) (show k <= 60 by omega)
   have HX2 : Hid (X * 2 = 2 ^ (k + 1)) := by unfold Hid; rw [HX.out, Nat.pow_succ]
   have hw : IntKind.i64.wrap ((X : Int) * 2) = ((X * 2 : Nat) : Int) := by rw [IntKind.wrap_i64]; omega
   go_wp2_with fail
   go_round
   case rel => exact ⟨k + 1, X * 2, by omega, by go_num, rfl, HX2⟩
   case measure => simp [intOf]; omega
  ·obtain rfl : k = n := by omega
   have hlt2 : ¬ (k : Int) < (k : Int) := by omega
   obtain rfl : X = X0 := by rw [HX.out, HX0.out]
   go_wp2_with fail
   go_ret
   exact ⟨rfl, rfl⟩
theorem rpowers_any (q n : Nat) (r : Int) (w : World) (h3 : 3 <= q) (h4 : q <= 2147483647) (hr1 : -9223372036854775808 <= r) (hr2 : r <= 9223372036854775807) (hn : n <= 17592186044000) :
  Calls Tryz.prog 45 #[.int .i64 q, .int .i64 r, .int .i64 (n : Int)] w fun e w' => ∃ v, e = .returned v /\ w'.ownsRow w.heap.size 3 1 v (pwl q r n).length ((pwl q r n).map (Value.int .i64)) /\ Below w.heap.size w w' := by
 obtain ⟨i0, hi, hz0, hz1, hz2⟩ := info_parts Tryz.infoInt
 obtain ⟨B, hB⟩ : ∃ B : Nat -> Int, B = fun i => ((Num.pwm q (el q r) i : Nat) : Int) := ⟨_, rfl⟩
 have HPW : Hid (∀ (W : World) (k : Nat), k < n -> Calls Tryz.prog 89 #[.int .i64 q, .int .i64 r, .int .i64 (k : Int)] W fun e w' => e = .returned (.int .i64 (B k)) /\ w' = W) := fun W k hk => by
  rw [hB]; exact rpow_nat q k r W h3 h4 hr1 hr2 (by omega)
 have HPL : Hid (pwl q r n = ls B n) := by unfold Hid pwl; rw [hB]
 rw [HPL.out]
 clear hB HPL
 go_enter Tryz.func45, Tryz.ntmps45
 go_wp2_with fail
 go_loopw [7, 8, 9] (fun v iv _ wr => ∃ j : Nat, j <= n /\ iv = .int .i64 (j : Int) /\ Hid (wr.ownsRow w.heap.size 3 1 v (ls B j).length ((ls B j).map (Value.int .i64)) /\ Below w.heap.size w wr)) (fun _ iv _ _ => n - (intOf iv).toNat)
 case atStart => exact ⟨0, by omega, rfl, World.ownsRow_nil _ _ _ _, Below.refl _ _⟩
 case round =>
  obtain ⟨j, hj, rfl, hI⟩ := hrel
  by_cases hlt : j < n
  ·have hlt2 : (j : Int) < (n : Int) := by omega
   have hks : IntKind.i64.wrap ((j : Int) + 1) = (j : Int) + 1 := by rw [IntKind.wrap_i64]; omega
   have HX := hid (HPW.out wr j hlt)
   have HSC := hid (ls_succ B j)
   generalize B j = z at *
   have hown := hI.out.1
   have hbel := hI.out.2
   have HLS := hid (ls_len B j)
   generalize ls B j = Z at *
   have hZ : Z.length <= 17592186044000 := by rw [HLS.out]; omega
   have hsz : w.heap.size <= wr.heap.size := hbel.size
   clear hI
   go_wp2_with fail
   refine HX.out.mono ?_
   rintro e w4 ⟨rfl, rfl⟩
   go_wp2_with (at_builtin; refine wpList_append_own _ rfl _ _ 22 rfl w.heap.size 3 i0 (.int .i64 0) 1 8 Tryz.underlying22 hi hz0 hz1 hz2 rfl (by decide) _ _ _ rfl (hown.alloc _) ⟨w4.heap.size, 0, none⟩ 1 1 [.int .i64 z] rfl rfl ?c1 ?c2 ?c3 ?c4 ?c5 ?_)
   case c1 =>
    intro j u hj
    match j, hj with
    | 0, hj => simp at hj; subst hj; simp [Addr.add]
   case c2 => intro u hu; simp at hu; subst hu; rfl
   case c3 => unfold maxLen; omega
   case c4 => omega
   case c5 => simp; omega
   intro v' w5 hown2 hgrow _
   have hown3 := owns_succ hown2
   have HE : Hid (w5.ownsRow w.heap.size 3 1 v' (ls B (j + 1)).length ((ls B (j + 1)).map (Value.int .i64)) /\ Below w.heap.size w w5) := by
    unfold Hid
    rw [HSC.out]
    exact ⟨hown3, (hbel.alloc hsz _).grown hgrow (by simp; omega) (fun j hj => (hown.lt j hj).1)⟩
   clear hown2 hown3 hgrow hown hbel
   go_wp2_with fail
   go_roundw
   case rel => exact ⟨j + 1, by omega, by go_num, HE⟩
   case measure => simp [intOf]; omega
  ·obtain rfl : j = n := by omega
   have hlt2 : ¬ (j : Int) < (j : Int) := by omega
   have HE := hid hI.out
   clear hI
   go_wp2_with fail
   go_ret
   exact ⟨_, rfl, HE.out⟩
theorem rdot_any (q c1 c2 : Nat) (a1 a2 : Option Addr) (xs ys : List Int) (w : World) (h3 : 3 <= q) (h4 : q <= 2147483647) (hx : xs.length <= 281474976710656) (hxy : xs.length <= ys.length) (hf1 : Fits xs) (hf2 : Fits ys) (hr1 : RowB w.heap.size w a1 xs) (hr2 : RowB w.heap.size w a2 ys) :
  Calls Tryz.prog 50 #[.int .i64 q, .slice a1 xs.length c1, .slice a2 ys.length c2] w fun e w' => e = .returned (.int .i64 (dtz q xs.length xs ys)) /\ Below w.heap.size w w' := by
 have hmx : Tryz.prog.follows .mixedOrders = true := by kernel_rfl
 have HF1 := hid hf1
 have HF2 := hid hf2
 have HR1 := hid hr1
 have HR2 := hid hr2
 obtain ⟨n, hn⟩ := exE (xs.length)
 obtain ⟨m, hm⟩ := exE (ys.length)
 rw [<- hn, <- hm] at hxy ⊢
 rw [<- hn] at hx
 have HN := hid hn
 have HM := hid hm
 obtain ⟨S, hS⟩ : ∃ S : Nat -> Int, S = fun k => dtz q k xs ys := ⟨_, rfl⟩
 have HS1 : Hid (∀ k, (S k + zat xs k * zat ys k % (q : Int)) % (q : Int) = S (k + 1)) := fun k => by rw [hS]; exact dtz_succ q k xs ys
 have HS2 : Hid (∀ k, 0 <= S k /\ S k < q) := fun k => by rw [hS]; exact dtz_bounds q k xs ys h3
 have HS0 : Hid (S 0 = 0) := by unfold Hid; rw [hS]; exact dtz_zero q xs ys
 rw [show dtz q n xs ys = S n from by rw [hS]]
 clear hf1 hf2 hr1 hr2 hn hm hS
 go_enter Tryz.func50, Tryz.ntmps50
 go_wp2_with fail
 go_loopw [7, 8, 9] (fun sv iv _ wr => ∃ k : Nat, k <= n /\ iv = .int .i64 (k : Int) /\ sv = .int .i64 (S k) /\ Hid (Below w.heap.size w wr)) (fun _ iv _ _ => n - (intOf iv).toNat)
 case atStart => exact ⟨0, by omega, rfl, by rw [HS0.out], Below.refl _ _⟩
 case round =>
  obtain ⟨k, hk, rfl, rfl, hI⟩ := hrel
  by_cases hlt : k < n
  ·have hlt2 : (k : Int) < (n : Int) := by omega
   have hlt3 : (k : Int) < (m : Int) := by omega
   have hks : IntKind.i64.wrap ((k : Int) + 1) = (k : Int) + 1 := by rw [IntKind.wrap_i64]; omega
   obtain ⟨b1, o1, rfl, hb1, x1⟩ := HR1.out k (by rw [<- HN.out]; exact hlt)
   obtain ⟨b2, o2, rfl, hb2, x2⟩ := HR2.out k (by rw [<- HM.out]; omega)
   have y1 := (hI.out.cell (p := ⟨b1, o1 + k, none⟩) hb1).trans x1
   have y2 := (hI.out.cell (p := ⟨b2, o2 + k, none⟩) hb2).trans x2
   obtain ⟨f1, f2⟩ := HF1.out.all k
   obtain ⟨g1, g2⟩ := HF2.out.all k
   have s1 := HS2.out k
   have HS3 := hid (HS1.out k)
   have HMU := hid (fun W => rmul_any q (zat xs k) (zat ys k) W h3 h4 f1 f2 g1 g2)
   obtain ⟨t1, t2⟩ := emod_bounds (zat xs k * zat ys k) q h3
   generalize zat xs k * zat ys k % (q : Int) = t at *
   generalize zat xs k = x at *
   generalize zat ys k = y at *
   have HAD := hid (fun W => radd_any q (S k) t W h3 h4 (by omega) (by omega) (by omega) (by omega))
   rw [HS3.out] at HAD
   clear x1 x2 HS3
   go_wp2_with fail
   go_still_tail 10, hmx
   still_call (HMU.out _)
   repeat still_step
   refine wpStill_nil ?_
   go_wp2_with fail
   refine (HAD.out _).mono ?_
   rintro e w4 ⟨rfl, rfl⟩
   go_wp2_with fail
   go_roundw
   case rel => exact ⟨k + 1, by omega, by go_num, rfl, hI.out.drew⟩
   case measure => simp [intOf]; omega
  ·obtain rfl : k = n := by omega
   have hlt2 : ¬ (k : Int) < (k : Int) := by omega
   go_wp2_with fail
   go_ret
   exact ⟨rfl, hI.out⟩
theorem own_step {base size n : Nat} {e : TypeId} {v : Value} {xs : List Value} {w W : World} (h : w.ownsRow base e size v n xs) (hb : Below w.heap.size w W) : W.ownsRow base e size v n xs :=
 h.kept (row := none) ⟨hb.os, hb.tape, hb.output, hb.size, fun k hk _ => hb.block k hk⟩ (by cases v.ownBlock <;> simp)
theorem rsum12_any (q c1 c2 m : Nat) (a1 a2 : Option Addr) (rows : List (List Int)) (by' : List Int) (w : World) (h3 : 3 <= q) (h4 : q <= 2147483647) (h1 : 1 <= rows.length) (hn : rows.length <= 17592186044000) (hm : m <= 17592186044000) (hw : ∀ k, k < rows.length -> (rat rows k).length = m) (hb : rows.length <= by'.length) (hF : FitsR rows) (hfb : Fits by') (hl : LstR w.heap.size w a1 c1 rows) (hr : RowB w.heap.size w a2 by') :
  Calls Tryz.prog 46 #[.int .i64 q, .slice a1 rows.length c1, .slice a2 by'.length c2] w fun e w' => e = .returned (.slice (some ⟨w.heap.size, 0, none⟩) m m) /\ ArrI w' w.heap.size 3 m (fun j => dtz q rows.length by' (pgc rows j)) /\ Below w.heap.size w w' := by
 have hmx : Tryz.prog.follows .mixedOrders = true := by kernel_rfl
 have HF := hid hF
 have HFB := hid hfb
 have HL := hid hl
 have HR := hid hr
 have HW := hid hw
 obtain ⟨b0, o0, a0, c0, rfl, hb0, hc0, _⟩ := hl.row 0 (by omega)
 rw [hw 0 (by omega), Nat.add_zero] at hc0
 obtain ⟨n, hnn⟩ := exE (rows.length)
 obtain ⟨nb, hnb⟩ := exE (by'.length)
 rw [<- hnn] at h1 hn hb ⊢
 rw [<- hnb] at hb ⊢
 have HN := hid hnn
 have HNB := hid hnb
 obtain ⟨S, hS⟩ : ∃ S : Nat -> Nat -> Int, S = fun i j => dtz q i by' (pgc rows j) := ⟨_, rfl⟩
 have HS1 : Hid (∀ i j, i < n -> (S i j + zat by' i * zat (rat rows i) j % (q : Int)) % (q : Int) = S (i + 1) j) := fun i j hi => by
  rw [hS]
  have := dtz_succ q i by' (pgc rows j)
  rw [pgc_at j (by omega)] at this
  exact this
 have HS2 : Hid (∀ i j, 0 <= S i j /\ S i j < q) := fun i j => by rw [hS]; exact dtz_bounds q i by' (pgc rows j) h3
 have HS0 : Hid (S 0 = fun _ => 0) := by unfold Hid; rw [hS]; funext j; exact dtz_zero q _ _
 rw [show (fun j => dtz q n by' (pgc rows j)) = S n from by rw [hS]]
 have hmk2 := fun w => run_make_row' (P := Tryz.prog) 22 3 (.int .i64 0) 8 Tryz.underlying22 Tryz.infoInt rfl .i64 .i64 m (by omega) (by omega) w
 have h1' : (0 : Int) < (n : Int) := by omega
 clear hF hfb hl hr hw hnn hnb hS
 go_enter Tryz.func46, Tryz.ntmps46
 go_wp2_with fail
 go_loopw [8] (fun iv wr => ∃ i : Nat, i <= n /\ iv = .int .i64 (i : Int) /\ Hid (ArrI wr w.heap.size 3 m (S i) /\ Below w.heap.size w wr)) (fun iv _ => n - (intOf iv).toNat)
 case atStart => exact ⟨0, by omega, rfl, by rw [HS0.out]; exact World.rowIs_made _ _ _ _, (Below.refl _ _).alloc (Nat.le_refl _) _⟩
 case round =>
  obtain ⟨i, hi, rfl, hI⟩ := hrel
  by_cases hlt : i < n
  ·have hlt2 : (i : Int) < (n : Int) := by omega
   have hlt3 : (i : Int) < (nb : Int) := by omega
   have his : IntKind.i64.wrap ((i : Int) + 1) = (i : Int) + 1 := by rw [IntKind.wrap_i64]; omega
   obtain ⟨b1, o1, ak, ck, hae, hb1, hc1, hlk⟩ := HL.out.row i (by rw [<- HN.out]; exact hlt)
   injection hae with hae
   injection hae with e1 e2
   subst e1 e2
   rw [HW.out i (by rw [<- HN.out]; exact hlt)] at hc1
   obtain ⟨b2, o2, rfl, hb2, hx2⟩ := HR.out i (by rw [<- HNB.out]; omega)
   have HLK := hid hlk.row
   have HFI := hid (HF.out i (by rw [<- HN.out]; exact hlt)).1
   have HLI := hid (HW.out i (by rw [<- HN.out]; exact hlt))
   obtain ⟨f1, f2⟩ := HFB.out.all i
   have HST : Hid (∀ j, (S i j + zat by' i * zat (rat rows i) j % (q : Int)) % (q : Int) = S (i + 1) j) := fun j => HS1.out i j hlt
   generalize zat by' i = bi at *
   generalize rat rows i = row at *
   clear hlk
   go_wp2_with fail
   go_loopw [9] (fun jv wj => ∃ j : Nat, j <= m /\ jv = .int .i64 (j : Int) /\ Hid (ArrI wj w.heap.size 3 m (fll (S (i + 1)) (S i) j) /\ Below w.heap.size w wj)) (fun jv _ => m - (intOf jv).toNat)
   case atStart => exact ⟨0, by omega, rfl, by rw [fll_zero]; exact hI.out.1, hI.out.2⟩
   case round =>
    obtain ⟨j, hj, rfl, hJ⟩ := hrel
    by_cases hjt : j < m
    ·have hjt2 : (j : Int) < (m : Int) := by omega
     have hjs : IntKind.i64.wrap ((j : Int) + 1) = (j : Int) + 1 := by rw [IntKind.wrap_i64]; omega
     rename_i wj _
     obtain ⟨b3, o3, rfl, hb3, hx3⟩ := HLK.out j (by rw [HLI.out]; exact hjt)
     have y1 := (hJ.out.2.cell (p := ⟨b0, o0 + i, none⟩) hb1).trans hc1
     have y2 := (hJ.out.2.cell (p := ⟨b2, o2 + i, none⟩) hb2).trans hx2
     have y3 := (hJ.out.2.cell (p := ⟨b3, o3 + j, none⟩) hb3).trans hx3
     obtain ⟨g1, g2⟩ := HFI.out.all j
     have HSJ := hid (HST.out j)
     have hsb := HS2.out i j
     have HMU := hid (fun W => rmul_any q bi (zat row j) W h3 h4 f1 f2 g1 g2)
     obtain ⟨t1, t2⟩ := emod_bounds (bi * zat row j) q h3
     generalize bi * zat row j % (q : Int) = t at *
     generalize zat row j = y at *
     have HAD := hid (fun W => radd_any q (S i j) t W h3 h4 (by omega) (by omega) (by omega) (by omega))
     rw [HSJ.out] at HAD
     have c1 := hJ.out.1.cell hjt
     rw [fll_at] at c1
     have yf := hJ.out.1.frozen j
     have HA2 := hid hJ.out.1.next
     have HBL := hid (hJ.out.2.setCell (p := ⟨w.heap.size, j, none⟩) (by simp) (.int .i64 (S (i + 1) j)))
     generalize S (i + 1) j = z at *
     generalize S i j = z0 at *
     clear hx2 hx3 HSJ
     go_wp2_with fail
     go_still_tail 13, hmx
     still_call (HMU.out _)
     repeat still_step
     refine wpStill_nil ?_
     go_wp2_with fail
     refine (HAD.out _).mono ?_
     rintro e w4 ⟨rfl, rfl⟩
     go_wp2_with fail
     go_roundw
     case rel => exact ⟨j + 1, by omega, by go_num, HA2.out, HBL.out.drew⟩
     case measure => simp [intOf]; omega
    ·obtain rfl : j = m := by omega
     have hjt2 : ¬ (j : Int) < (j : Int) := by omega
     have HE : Hid (ArrI _ w.heap.size 3 j (S (i + 1)) /\ Below w.heap.size w _) := ⟨hJ.out.1.congr (fun k hk => fll_all hk), hJ.out.2⟩
     clear hJ
     go_wp2_with fail
     go_roundw
     case rel => exact ⟨i + 1, by omega, by go_num, HE.out⟩
     case measure => simp [intOf]; omega
  ·obtain rfl : i = n := by omega
   have hlt2 : ¬ (i : Int) < (i : Int) := by omega
   have HE := hid hI.out
   clear hI
   go_wp2_with fail
   go_ret
   exact ⟨rfl, HE.out⟩
theorem runit_any (q i cap : Nat) (a : Option Addr) (at' : List Int) (w : World) (h3 : 3 <= q) (h4 : q <= 2147483647) (hv : at'.length <= 12) (hi : i < 2 ^ at'.length) (hf : Fits at') (hr : RowB w.heap.size w a at') :
  Calls Tryz.prog 99 #[.int .i64 q, .int .i64 (i : Int), .slice a at'.length cap] w fun e w' => e = .returned (.int .i64 (Sum.wgt (zat at') at'.length i % (q : Int))) /\ Below w.heap.size w w' := by
 have HTW := hid (rtwo_any at'.length w (by omega))
 have hN : 2 ^ at'.length <= 4096 := Nat.pow_le_pow_right (n := 2) (by decide) hv
 obtain ⟨N, hNN⟩ := exE (2 ^ at'.length)
 simp only [<- hNN] at HTW hN hi
 obtain ⟨t, ht⟩ : ∃ t : List Int, t = (List.replicate N 0).set i 1 := ⟨_, rfl⟩
 have htl : t.length = N := by rw [ht]; simp
 have htz : ∀ j, j < N -> zat t j = if j = i then 1 else 0 := fun j hj => by
  rw [ht]
  unfold zat
  rw [List.getElem?_set]
  by_cases e : i = j
  ·subst e; simp [hj]
  ·rw [if_neg e, if_neg (fun h => e h.symm)]; simp [hj]
 have HEX : Hid (∀ W : World, ArrI W w.heap.size 3 N (zat t) -> Below w.heap.size w W -> Calls Tryz.prog 174 #[.int .i64 q, .slice (some ⟨w.heap.size, 0, none⟩) N N, .slice a at'.length cap] W fun e w' => e = .returned (.int .i64 (Sum.wgt (zat at') at'.length i % (q : Int))) /\ w' = W) := fun W hA hB => by
  have h := rextend_any q at'.length N cap (some ⟨w.heap.size, 0, none⟩) a t at' W W.heap.size W.heap.size h3 h4 rfl hv (by rw [htl, hNN]) (fun j hj => by
   rw [htl] at hj
   rw [htz j hj]
   split <;> omega) hf (fun k hk => ⟨_, 0, rfl, hA.lt, by rw [Nat.zero_add]; exact hA.cell (by rw [htl] at hk; exact hk)⟩) ((hr.below hB).mono hB.size)
  rw [htl, ext_unit (zat at') at'.length i (by rw [<- hNN]; exact hi) (zat t) (by rw [htz i hi, if_pos rfl]) (fun j hj hne => by rw [htz j (by rw [hNN]; exact hj), if_neg hne])] at h
  exact h
 have HA2 : Hid (ArrI (w.alloc (.cells ((madeCells #[.int .i64 0] N).setIfInBounds i (.int .i64 1)) 3)) w.heap.size 3 N (zat t)) := by
  obtain ⟨cur, e1, e2, e3⟩ := World.rowIs_made w (.int .i64 0) N 3
  rw [heap_alloc_new] at e1
  injection e1 with e1
  injection e1 with e1 _ _
  rw [e1]
  refine ⟨_, heap_alloc_new w _, by simp [e2], fun j hj => ?_⟩
  rw [Array.getElem?_setIfInBounds]
  by_cases e : i = j
  ·subst e
   have := htz i hj
   rw [if_pos rfl] at this
   rw [if_pos rfl, if_pos (by omega)]
   simp only [this]
  ·have := htz j hj
   rw [if_neg (fun h => e h.symm)] at this
   rw [if_neg e, e3 j hj]
   simp only [this]
 have HB2 : Hid (Below w.heap.size w (w.alloc (.cells ((madeCells #[.int .i64 0] N).setIfInBounds i (.int .i64 1)) 3))) := (Below.refl _ _).alloc (Nat.le_refl _) _
 have hmk2 := fun w => run_make_row' (P := Tryz.prog) 22 3 (.int .i64 0) 8 Tryz.underlying22 Tryz.infoInt rfl .i64 .i64 N (by omega) (by omega) w
 have hi2 : (i : Int) < (N : Int) := by omega
 generalize Sum.wgt (zat at') at'.length i % (q : Int) = E at *
 generalize at'.length = v at *
 clear hf hr hNN ht htl htz
 have hA1 : ArrI (w.alloc (.cells (madeCells #[.int .i64 0] N) 3)) w.heap.size 3 N (fun _ => 0) := World.rowIs_made _ _ _ _
 have c1 := hA1.cell hi
 have y1 := hA1.frozen i
 clear hA1
 go_enter Tryz.func99, Tryz.ntmps99
 go_wp2_with fail
 refine HTW.out.mono ?_
 rintro e w1 ⟨rfl, hw1⟩
 have hw1' := hw1.symm
 subst hw1'
 clear hw1
 go_wp2_with fail
 refine (HEX.out _ HA2.out HB2.out).mono ?_
 rintro e w2 ⟨rfl, hw2⟩
 have hw2' := hw2.symm
 subst hw2'
 go_wp2_with fail
 go_ret
 exact ⟨rfl, HB2.out⟩
theorem runits_any (q cap : Nat) (a : Option Addr) (at' : List Int) (w : World) (h3 : 3 <= q) (h4 : q <= 2147483647) (hv : at'.length <= 12) (hf : Fits at') (hr : RowB w.heap.size w a at') :
  Calls Tryz.prog 47 #[.int .i64 q, .slice a at'.length cap] w fun e w' => ∃ v, e = .returned v /\ w'.ownsRow w.heap.size 3 1 v (wgL q at').length ((wgL q at').map (Value.int .i64)) /\ Below w.heap.size w w' := by
 obtain ⟨i0, hi, hz0, hz1, hz2⟩ := info_parts Tryz.infoInt
 have HTW := hid (rtwo_any at'.length w (by omega))
 have hN : 2 ^ at'.length <= 4096 := Nat.pow_le_pow_right (n := 2) (by decide) hv
 obtain ⟨B, hB⟩ : ∃ B : Nat -> Int, B = fun i => Sum.wgt (zat at') at'.length i % (q : Int) := ⟨_, rfl⟩
 obtain ⟨N, hNN⟩ := exE (2 ^ at'.length)
 have HU : Hid (∀ (W : World) (k : Nat), Below w.heap.size w W -> k < N -> Calls Tryz.prog 99 #[.int .i64 q, .int .i64 (k : Int), .slice a at'.length cap] W fun e w' => e = .returned (.int .i64 (B k)) /\ Below W.heap.size W w') := fun W k hW hk => by
  rw [hB]; exact runit_any q k cap a at' W h3 h4 hv (by rw [<- hNN]; exact hk) hf ((hr.below hW).mono hW.size)
 have HPL : Hid (wgL q at' = ls B N) := by unfold Hid wgL; rw [hB, hNN]
 rw [HPL.out]
 simp only [<- hNN] at HTW hN
 generalize at'.length = v0 at *
 clear hB HPL hf hr hNN
 go_enter Tryz.func47, Tryz.ntmps47
 go_wp2_with fail
 refine HTW.out.mono ?_
 rintro e w1 ⟨rfl, hw1⟩
 have hw1' := hw1.symm
 subst hw1'
 clear hw1
 go_wp2_with fail
 go_loopw [6, 7] (fun v iv wr => ∃ j : Nat, j <= N /\ iv = .int .i64 (j : Int) /\ Hid (wr.ownsRow w.heap.size 3 1 v (ls B j).length ((ls B j).map (Value.int .i64)) /\ Below w.heap.size w wr)) (fun _ iv _ => N - (intOf iv).toNat)
 case atStart => exact ⟨0, by omega, rfl, World.ownsRow_nil _ _ _ _, Below.refl _ _⟩
 case round =>
  obtain ⟨j, hj, rfl, hI⟩ := hrel
  by_cases hlt : j < N
  ·have hlt2 : (j : Int) < (N : Int) := by omega
   have hks : IntKind.i64.wrap ((j : Int) + 1) = (j : Int) + 1 := by rw [IntKind.wrap_i64]; omega
   have HX := hid (HU.out wr j hI.out.2 hlt)
   have HSC := hid (ls_succ B j)
   generalize B j = z at *
   have HOW := hid hI.out.1
   have HBW := hid hI.out.2
   have HLS := hid (ls_len B j)
   generalize ls B j = Z at *
   have hZ : Z.length <= 17592186044000 := by rw [HLS.out]; omega
   clear hI
   go_wp2_with fail
   refine HX.out.mono ?_
   rintro e w4 ⟨rfl, hb4⟩
   have hown := own_step HOW.out hb4
   have hbel := HBW.out.trans (hb4.mono HBW.out.size)
   have hsz : w.heap.size <= w4.heap.size := hbel.size
   clear hb4 HX
   go_wp2_with (at_builtin; refine wpList_append_own _ rfl _ _ 22 rfl w.heap.size 3 i0 (.int .i64 0) 1 8 Tryz.underlying22 hi hz0 hz1 hz2 rfl (by decide) _ _ _ rfl (hown.alloc _) ⟨w4.heap.size, 0, none⟩ 1 1 [.int .i64 z] rfl rfl ?c1 ?c2 ?c3 ?c4 ?c5 ?_)
   case c1 =>
    intro j u hj
    match j, hj with
    | 0, hj => simp at hj; subst hj; simp [Addr.add]
   case c2 => intro u hu; simp at hu; subst hu; rfl
   case c3 => unfold maxLen; omega
   case c4 => omega
   case c5 => simp; omega
   intro v' w5 hown2 hgrow _
   have hown3 := owns_succ hown2
   have HE : Hid (w5.ownsRow w.heap.size 3 1 v' (ls B (j + 1)).length ((ls B (j + 1)).map (Value.int .i64)) /\ Below w.heap.size w w5) := by
    unfold Hid
    rw [HSC.out]
    exact ⟨hown3, (hbel.alloc hsz _).grown hgrow (by simp; omega) (fun j hj => (hown.lt j hj).1)⟩
   clear hown2 hown3 hgrow hown hbel
   go_wp2_with fail
   go_roundw
   case rel => exact ⟨j + 1, by omega, by go_num, HE⟩
   case measure => simp [intOf]; omega
  ·obtain rfl : j = N := by omega
   have hlt2 : ¬ (j : Int) < (j : Int) := by omega
   have HE := hid hI.out
   clear hI
   go_wp2_with fail
   go_ret
   exact ⟨_, rfl, HE.out⟩
end Go.Proofs.YtlhjifpomchnfaaGreatDoor
