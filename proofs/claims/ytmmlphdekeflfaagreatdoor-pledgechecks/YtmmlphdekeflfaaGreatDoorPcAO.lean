/- Package pledge: isTold. What package attestref1's Vanish and Fit answer. -/
import Derived.Test.YtmmlphdekeflfaaGreatDoorPcAN
import Derived.Test.YtmmlphdekeflfaaGreatDoorPcAE
import Derived.Test.YtmmlphdekeflfaaGreatDoorPls
namespace Go.Proofs.YtmmlphdekeflfaaGreatDoor
open Go.RowKit

set_option maxRecDepth 100000 in
set_option maxHeartbeats 2000000 in
theorem isTold_any (n1 n2 n3 c1 c2 c3 l : Nat) (a1 a2 a3 : Option Addr) (x y x4 x5 x6 : Value) (h : Int) (w : World) (hl : l ≤ 12) :
    Calls Tryz.prog 64 #[.agg #[x, y, .int .i64 h, .int .i64 (l : Int)], .agg #[.slice a1 n1 c1, .slice a2 n2 c2, .slice a3 n3 c3, x4, x5, x6]] w fun e w' => e = .returned (.bool (decide (n1 = 4 ∧ n2 = 2 ^ l ∧ n3 = 2 ^ l))) ∧ Below w.heap.size w w' := by
  obtain ⟨W1, hW1⟩ : ∃ W1, W1 = (w.alloc (.cells #[x, y, .int .i64 h, .int .i64 (l : Int)] 92)).alloc (.cells #[.slice a1 n1 c1, .slice a2 n2 c2, .slice a3 n3 c3, x4, x5, x6] 51) := ⟨_, rfl⟩
  have hb1 : Below w.heap.size w W1 := by rw [hW1]; exact ((Below.refl _ _).alloc (Nat.le_refl _) _).alloc (by simp) _
  have hs1 : W1.heap[w.heap.size]? = some (.cells #[x, y, .int .i64 h, .int .i64 (l : Int)] 92 (0, 0)) := by
    rw [hW1]
    have := heap_alloc_new w (.cells #[x, y, .int .i64 h, .int .i64 (l : Int)] 92)
    have hb := (Below.refl (w.alloc (.cells #[x, y, .int .i64 h, .int .i64 (l : Int)] 92)).heap.size (w.alloc (.cells #[x, y, .int .i64 h, .int .i64 (l : Int)] 92))).alloc (Nat.le_refl _) (.cells #[.slice a1 n1 c1, .slice a2 n2 c2, .slice a3 n3 c3, x4, x5, x6] 51)
    exact (hb.block _ (by simp)).trans this
  have hs2 : W1.heap[w.heap.size + 1]? = some (.cells #[.slice a1 n1 c1, .slice a2 n2 c2, .slice a3 n3 c3, x4, x5, x6] 51 (0, 0)) := by
    rw [hW1]
    have := heap_alloc_new (w.alloc (.cells #[x, y, .int .i64 h, .int .i64 (l : Int)] 92)) (.cells #[.slice a1 n1 c1, .slice a2 n2 c2, .slice a3 n3 c3, x4, x5, x6] 51)
    simpa using this
  obtain ⟨X, hX⟩ : ∃ X, X = 2 ^ l := ⟨_, rfl⟩
  obtain ⟨G, hG⟩ : ∃ G, G = w.heap.size := ⟨_, rfl⟩
  obtain ⟨P, hP⟩ : ∃ P, P = w.heap.size + 1 := ⟨_, rfl⟩
  rw [← hG] at hs1
  rw [← hP] at hs2
  have HWI : Hid (∀ W, Below W1.heap.size W1 W → Calls Tryz.prog 117 #[.agg #[x, y, .int .i64 h, .int .i64 (l : Int)]] W fun e w' => e = .returned (.int .i64 (X : Int)) ∧ Below W1.heap.size W1 w') := fun W hW => by
    rw [hX]
    refine (wide_any _ _ _ l W hl).mono ?_
    rintro e w' ⟨rfl, h⟩
    exact ⟨rfl, hW.trans (h.mono hW.size)⟩
  have HK : Hid (∀ W, Below W1.heap.size W1 W → W.cell? ⟨G, 0, none⟩ = some x ∧ W.cell? ⟨G, 1, none⟩ = some y ∧ W.cell? ⟨G, 2, none⟩ = some (.int .i64 h) ∧ W.cell? ⟨G, 3, none⟩ = some (.int .i64 (l : Int)) ∧ W.cell? ⟨P, 0, none⟩ = some (.slice a1 n1 c1) ∧ W.cell? ⟨P, 1, none⟩ = some (.slice a2 n2 c2) ∧ W.cell? ⟨P, 2, none⟩ = some (.slice a3 n3 c3)) := fun W hW => by
    have e1 := (hW.block G (Array.getElem?_eq_some_iff.1 hs1).1).trans hs1
    have e2 := (hW.block P (Array.getElem?_eq_some_iff.1 hs2).1).trans hs2
    refine ⟨?_, ?_, ?_, ?_, ?_, ?_, ?_⟩ <;> simp [World.cell?, e1, e2]
  have HE : Hid (∀ W, Below W1.heap.size W1 W → Below w.heap.size w W) := fun W hW => hb1.trans (hW.mono hb1.size)
  have hdw : Below W1.heap.size W1 W1.drew := (Below.refl _ _).drew
  rw [← hX]
  have HW1 := hid hW1
  have HG := hid hG
  have HP := hid hP
  have HZ : Hid ((w.alloc (.cells #[x, y, .int .i64 h, .int .i64 (l : Int)] 92)).heap.size = w.heap.size + 1) := by unfold Hid; simp
  clear hs1 hs2 hb1 hX hW1 hG hP hl
  by_cases e1 : n1 = 4
  · have k1 : ((n1 : Int) == 4) = true := by rw [e1]; rfl
    by_cases e2 : n2 = X
    · have k2 : ((n2 : Int) == (X : Int)) = true := by rw [e2]; exact beq_self_eq_true _
      by_cases e3 : n3 = X
      · have HD : Hid (decide (n1 = 4 ∧ n2 = X ∧ n3 = X) = true) := decide_eq_true ⟨e1, e2, e3⟩
        have k3 : ((n3 : Int) == (X : Int)) = true := by rw [e3]; exact beq_self_eq_true _
        rw [HD.out]
        clear HD e1 e2 e3
        go_enter Tryz.func64, Tryz.ntmps64
        go_wp2_with fail
        rw [← HP.out, ← HG.out, ← HW1.out]
        clear HW1 HG HP HZ
        go_region_held3 (fun W => W.cell? ⟨G, 0, none⟩ = some x ∧ W.cell? ⟨G, 1, none⟩ = some y ∧ W.cell? ⟨G, 2, none⟩ = some (.int .i64 h) ∧ W.cell? ⟨G, 3, none⟩ = some (.int .i64 (l : Int)) ∧ W.cell? ⟨P, 0, none⟩ = some (.slice a1 n1 c1) ∧ W.cell? ⟨P, 1, none⟩ = some (.slice a2 n2 c2) ∧ W.cell? ⟨P, 2, none⟩ = some (.slice a3 n3 c3)) (exact HK.out _ (by assumption))
          (first
            | (go_at_call 117; refine (HWI.out _ (by assumption)).mono ?_; rintro e w' ⟨rfl, hb'⟩))
        all_goals
          go_wp2_with fail
          go_ret
          exact ⟨rfl, HE.out _ (by assumption)⟩
      · have HD : Hid (decide (n1 = 4 ∧ n2 = X ∧ n3 = X) = false) := decide_eq_false (fun h => e3 h.2.2)
        have k3 : ((n3 : Int) == (X : Int)) = false := by rw [beq_eq_false_iff_ne]; omega
        rw [HD.out]
        clear HD e1 e2 e3
        go_enter Tryz.func64, Tryz.ntmps64
        go_wp2_with fail
        rw [← HP.out, ← HG.out, ← HW1.out]
        clear HW1 HG HP HZ
        go_region_held3 (fun W => W.cell? ⟨G, 0, none⟩ = some x ∧ W.cell? ⟨G, 1, none⟩ = some y ∧ W.cell? ⟨G, 2, none⟩ = some (.int .i64 h) ∧ W.cell? ⟨G, 3, none⟩ = some (.int .i64 (l : Int)) ∧ W.cell? ⟨P, 0, none⟩ = some (.slice a1 n1 c1) ∧ W.cell? ⟨P, 1, none⟩ = some (.slice a2 n2 c2) ∧ W.cell? ⟨P, 2, none⟩ = some (.slice a3 n3 c3)) (exact HK.out _ (by assumption))
          (first
            | (go_at_call 117; refine (HWI.out _ (by assumption)).mono ?_; rintro e w' ⟨rfl, hb'⟩))
        all_goals
          go_wp2_with fail
          go_ret
          exact ⟨rfl, HE.out _ (by assumption)⟩
    · have HD : Hid (decide (n1 = 4 ∧ n2 = X ∧ n3 = X) = false) := decide_eq_false (fun h => e2 h.2.1)
      have k2 : ((n2 : Int) == (X : Int)) = false := by rw [beq_eq_false_iff_ne]; omega
      rw [HD.out]
      clear HD e1
      go_enter Tryz.func64, Tryz.ntmps64
      go_wp2_with fail
      rw [← HP.out, ← HG.out, ← HW1.out]
      clear HW1 HG HP HZ
      refine wp_region_held_drew (S := fun W => W.cell? ⟨G, 0, none⟩ = some x ∧ W.cell? ⟨G, 1, none⟩ = some y ∧ W.cell? ⟨G, 2, none⟩ = some (.int .i64 h) ∧ W.cell? ⟨G, 3, none⟩ = some (.int .i64 (l : Int)) ∧ W.cell? ⟨P, 0, none⟩ = some (.slice a1 n1 c1) ∧ W.cell? ⟨P, 1, none⟩ = some (.slice a2 n2 c2) ∧ W.cell? ⟨P, 2, none⟩ = some (.slice a3 n3 c3)) (by kernel_rfl) (HK.out W1.drew hdw) (fun hHeld => ?_)
      refine wpAnyH_takeU (i := 0) (v := .pointer (some ⟨P, 0, none⟩)) rfl (by kernel_rfl) (by kernel_rfl) (by kernel_rfl) (fun _ _ _ h => h) (by rfl) (fun W hC => by go_simp) hHeld ?_
      simp only [Act.put, List.setIfInBounds_toArray, List.set_cons_zero, List.set_cons_succ]
      refine wpAnyH_takeU (i := 1) (v := .slice a1 n1 c1) rfl (by kernel_rfl) (by kernel_rfl) (by kernel_rfl) (fun _ _ _ h => h) (by rfl) (fun W hC => by (obtain ⟨y0, y1, y2, y3, y4, y5, y6⟩ := hC); go_simp) hHeld ?_
      simp only [Act.put, List.setIfInBounds_toArray, List.set_cons_zero, List.set_cons_succ]
      refine wpAnyH_takeU (i := 2) (v := .int .i64 (n1 : Int)) rfl (by kernel_rfl) (by kernel_rfl) (by kernel_rfl) (fun _ _ _ h => h) (by rfl) (fun W hC => by go_simp) hHeld ?_
      simp only [Act.put, List.setIfInBounds_toArray, List.set_cons_zero, List.set_cons_succ]
      refine wpAnyH_takeU (i := 3) (v := .bool true) rfl (by kernel_rfl) (by kernel_rfl) (by kernel_rfl) (fun _ _ _ h => h) (by rfl) (fun W hC => by go_simp) hHeld ?_
      simp only [Act.put, List.setIfInBounds_toArray, List.set_cons_zero, List.set_cons_succ]
      refine wpAnyH_takeU (i := 4) (v := .bool true) rfl (by kernel_rfl) (by kernel_rfl) (by kernel_rfl) (fun _ _ _ h => h) (by rfl) (fun W hC => by go_simp) hHeld ?_
      simp only [Act.put, List.setIfInBounds_toArray, List.set_cons_zero, List.set_cons_succ]
      refine wpAnyH_takeU (i := 5) (v := .pointer (some ⟨P, 1, none⟩)) rfl (by kernel_rfl) (by kernel_rfl) (by kernel_rfl) (fun _ _ _ h => h) (by rfl) (fun W hC => by go_simp) hHeld ?_
      simp only [Act.put, List.setIfInBounds_toArray, List.set_cons_zero, List.set_cons_succ]
      refine wpAnyH_takeU (i := 6) (v := .slice a2 n2 c2) rfl (by kernel_rfl) (by kernel_rfl) (by kernel_rfl) (fun _ _ _ h => h) (by rfl) (fun W hC => by (obtain ⟨y0, y1, y2, y3, y4, y5, y6⟩ := hC); go_simp) hHeld ?_
      simp only [Act.put, List.setIfInBounds_toArray, List.set_cons_zero, List.set_cons_succ]
      refine wpAnyH_takeU (i := 7) (v := .int .i64 (n2 : Int)) rfl (by kernel_rfl) (by kernel_rfl) (by kernel_rfl) (fun _ _ _ h => h) (by rfl) (fun W hC => by go_simp) hHeld ?_
      simp only [Act.put, List.setIfInBounds_toArray, List.set_cons_zero, List.set_cons_succ]
      refine wpAnyH_takeU (i := 8) (v := .agg #[x, y, .int .i64 h, .int .i64 (l : Int)]) rfl (by kernel_rfl) (by kernel_rfl) (by kernel_rfl) (fun _ _ _ h => h) (by rfl) (fun W hC => by (obtain ⟨y0, y1, y2, y3, y4, y5, y6⟩ := hC); go_simp) hHeld ?_
      simp only [Act.put, List.setIfInBounds_toArray, List.set_cons_zero, List.set_cons_succ]
      refine wpAnyH_ready (rs := [9]) (by kernel_rfl) (by simp) ?_
      refine AllReadyH.consU rfl (fun K' hK' => ?_) AllReadyH.nil
      go_simp
      refine (HWI.out _ hdw).mono ?_
      rintro e w' ⟨rfl, hb'⟩
      refine hK'.out _ _ (HK.out w' hb') (fun hHeld => ?_)
      clear hK' K'
      refine wpAnyH_takeU (i := 10) (v := .bool false) rfl (by kernel_rfl) (by kernel_rfl) (by kernel_rfl) (fun _ _ _ h => h) (by rfl) (fun W hC => by go_simp) hHeld ?_
      simp only [Act.put, List.setIfInBounds_toArray, List.set_cons_zero, List.set_cons_succ]
      refine wpAnyH_takeU (i := 11) (v := .bool false) rfl (by kernel_rfl) (by kernel_rfl) (by kernel_rfl) (fun _ _ _ h => h) (by rfl) (fun W hC => by go_simp) hHeld ?_
      simp only [Act.put, List.setIfInBounds_toArray, List.set_cons_zero, List.set_cons_succ]
      refine wpAnyH_takeU (i := 12) (v := .bool false) rfl (by kernel_rfl) (by kernel_rfl) (by kernel_rfl) (fun _ _ _ h => h) (by rfl) (fun W hC => by go_simp) hHeld ?_
      simp only [Act.put, List.setIfInBounds_toArray, List.set_cons_zero, List.set_cons_succ]
      refine wpAnyH_skipV (i := 13) rfl (by kernel_rfl) (by kernel_rfl) (by kernel_rfl) (fun _ _ _ h => h) (by rfl) hHeld ?_
      simp only [Act.put, List.setIfInBounds_toArray, List.set_cons_zero, List.set_cons_succ]
      refine wpAnyH_skipV (i := 14) rfl (by kernel_rfl) (by kernel_rfl) (by kernel_rfl) (fun _ _ _ h => h) (by rfl) hHeld ?_
      simp only [Act.put, List.setIfInBounds_toArray, List.set_cons_zero, List.set_cons_succ]
      refine wpAnyH_skipV (i := 15) rfl (by kernel_rfl) (by kernel_rfl) (by kernel_rfl) (fun _ _ _ h => h) (by rfl) hHeld ?_
      simp only [Act.put, List.setIfInBounds_toArray, List.set_cons_zero, List.set_cons_succ]
      refine wpAnyH_skipV (i := 16) rfl (by kernel_rfl) (by kernel_rfl) (by kernel_rfl) (fun _ _ _ h => h) (by rfl) hHeld ?_
      simp only [Act.put, List.setIfInBounds_toArray, List.set_cons_zero, List.set_cons_succ]
      refine wpAnyH_skipV (i := 17) rfl (by kernel_rfl) (by kernel_rfl) (by kernel_rfl) (fun _ _ _ h => h) (by rfl) hHeld ?_
      simp only [Act.put, List.setIfInBounds_toArray, List.set_cons_zero, List.set_cons_succ]
      refine wpAnyH_skipV (i := 18) rfl (by kernel_rfl) (by kernel_rfl) (by kernel_rfl) (fun _ _ _ h => h) (by rfl) hHeld ?_
      simp only [Act.put, List.setIfInBounds_toArray, List.set_cons_zero, List.set_cons_succ]
      refine wpAnyH_takeU (i := 19) (v := .bool false) rfl (by kernel_rfl) (by kernel_rfl) (by kernel_rfl) (fun _ _ _ h => h) (by rfl) (fun W hC => by go_simp) hHeld ?_
      simp only [Act.put, List.setIfInBounds_toArray, List.set_cons_zero, List.set_cons_succ]
      refine wpAnyH_takeU (i := 20) (v := .bool false) rfl (by kernel_rfl) (by kernel_rfl) (by kernel_rfl) (fun _ _ _ h => h) (by rfl) (fun W hC => by go_simp) hHeld ?_
      simp only [Act.put, List.setIfInBounds_toArray, List.set_cons_zero, List.set_cons_succ]
      refine wpAnyH_done (by kernel_rfl) ?_ _
      go_wp2_with fail
      go_ret
      exact ⟨rfl, HE.out _ hb'⟩
  · have HD : Hid (decide (n1 = 4 ∧ n2 = X ∧ n3 = X) = false) := decide_eq_false (fun h => e1 h.1)
    have k1 : ((n1 : Int) == 4) = false := by rw [beq_eq_false_iff_ne]; omega
    rw [HD.out]
    clear HD e1
    go_enter Tryz.func64, Tryz.ntmps64
    go_wp2_with fail
    rw [← HP.out, ← HG.out, ← HW1.out]
    clear HW1 HG HP HZ
    refine wp_region_held_drew (S := fun W => W.cell? ⟨G, 0, none⟩ = some x ∧ W.cell? ⟨G, 1, none⟩ = some y ∧ W.cell? ⟨G, 2, none⟩ = some (.int .i64 h) ∧ W.cell? ⟨G, 3, none⟩ = some (.int .i64 (l : Int)) ∧ W.cell? ⟨P, 0, none⟩ = some (.slice a1 n1 c1) ∧ W.cell? ⟨P, 1, none⟩ = some (.slice a2 n2 c2) ∧ W.cell? ⟨P, 2, none⟩ = some (.slice a3 n3 c3)) (by kernel_rfl) (HK.out W1.drew hdw) (fun hHeld => ?_)
    refine wpAnyH_takeU (i := 0) (v := .pointer (some ⟨P, 0, none⟩)) rfl (by kernel_rfl) (by kernel_rfl) (by kernel_rfl) (fun _ _ _ h => h) (by rfl) (fun W hC => by go_simp) hHeld ?_
    simp only [Act.put, List.setIfInBounds_toArray, List.set_cons_zero, List.set_cons_succ]
    refine wpAnyH_takeU (i := 1) (v := .slice a1 n1 c1) rfl (by kernel_rfl) (by kernel_rfl) (by kernel_rfl) (fun _ _ _ h => h) (by rfl) (fun W hC => by (obtain ⟨y0, y1, y2, y3, y4, y5, y6⟩ := hC); go_simp) hHeld ?_
    simp only [Act.put, List.setIfInBounds_toArray, List.set_cons_zero, List.set_cons_succ]
    refine wpAnyH_takeU (i := 2) (v := .int .i64 (n1 : Int)) rfl (by kernel_rfl) (by kernel_rfl) (by kernel_rfl) (fun _ _ _ h => h) (by rfl) (fun W hC => by go_simp) hHeld ?_
    simp only [Act.put, List.setIfInBounds_toArray, List.set_cons_zero, List.set_cons_succ]
    refine wpAnyH_takeU (i := 3) (v := .bool false) rfl (by kernel_rfl) (by kernel_rfl) (by kernel_rfl) (fun _ _ _ h => h) (by rfl) (fun W hC => by go_simp) hHeld ?_
    simp only [Act.put, List.setIfInBounds_toArray, List.set_cons_zero, List.set_cons_succ]
    refine wpAnyH_takeU (i := 4) (v := .bool false) rfl (by kernel_rfl) (by kernel_rfl) (by kernel_rfl) (fun _ _ _ h => h) (by rfl) (fun W hC => by go_simp) hHeld ?_
    simp only [Act.put, List.setIfInBounds_toArray, List.set_cons_zero, List.set_cons_succ]
    refine wpAnyH_skipV (i := 5) rfl (by kernel_rfl) (by kernel_rfl) (by kernel_rfl) (fun _ _ _ h => h) (by rfl) hHeld ?_
    simp only [Act.put, List.setIfInBounds_toArray, List.set_cons_zero, List.set_cons_succ]
    refine wpAnyH_skipV (i := 6) rfl (by kernel_rfl) (by kernel_rfl) (by kernel_rfl) (fun _ _ _ h => h) (by rfl) hHeld ?_
    simp only [Act.put, List.setIfInBounds_toArray, List.set_cons_zero, List.set_cons_succ]
    refine wpAnyH_skipV (i := 7) rfl (by kernel_rfl) (by kernel_rfl) (by kernel_rfl) (fun _ _ _ h => h) (by rfl) hHeld ?_
    simp only [Act.put, List.setIfInBounds_toArray, List.set_cons_zero, List.set_cons_succ]
    refine wpAnyH_skipV (i := 8) rfl (by kernel_rfl) (by kernel_rfl) (by kernel_rfl) (fun _ _ _ h => h) (by rfl) hHeld ?_
    simp only [Act.put, List.setIfInBounds_toArray, List.set_cons_zero, List.set_cons_succ]
    refine wpAnyH_skipV (i := 9) rfl (by kernel_rfl) (by kernel_rfl) (by kernel_rfl) (fun _ _ _ h => h) (by rfl) hHeld ?_
    simp only [Act.put, List.setIfInBounds_toArray, List.set_cons_zero, List.set_cons_succ]
    refine wpAnyH_skipV (i := 10) rfl (by kernel_rfl) (by kernel_rfl) (by kernel_rfl) (fun _ _ _ h => h) (by rfl) hHeld ?_
    simp only [Act.put, List.setIfInBounds_toArray, List.set_cons_zero, List.set_cons_succ]
    refine wpAnyH_takeU (i := 11) (v := .bool false) rfl (by kernel_rfl) (by kernel_rfl) (by kernel_rfl) (fun _ _ _ h => h) (by rfl) (fun W hC => by go_simp) hHeld ?_
    simp only [Act.put, List.setIfInBounds_toArray, List.set_cons_zero, List.set_cons_succ]
    refine wpAnyH_takeU (i := 12) (v := .bool false) rfl (by kernel_rfl) (by kernel_rfl) (by kernel_rfl) (fun _ _ _ h => h) (by rfl) (fun W hC => by go_simp) hHeld ?_
    simp only [Act.put, List.setIfInBounds_toArray, List.set_cons_zero, List.set_cons_succ]
    refine wpAnyH_skipV (i := 13) rfl (by kernel_rfl) (by kernel_rfl) (by kernel_rfl) (fun _ _ _ h => h) (by rfl) hHeld ?_
    simp only [Act.put, List.setIfInBounds_toArray, List.set_cons_zero, List.set_cons_succ]
    refine wpAnyH_skipV (i := 14) rfl (by kernel_rfl) (by kernel_rfl) (by kernel_rfl) (fun _ _ _ h => h) (by rfl) hHeld ?_
    simp only [Act.put, List.setIfInBounds_toArray, List.set_cons_zero, List.set_cons_succ]
    refine wpAnyH_skipV (i := 15) rfl (by kernel_rfl) (by kernel_rfl) (by kernel_rfl) (fun _ _ _ h => h) (by rfl) hHeld ?_
    simp only [Act.put, List.setIfInBounds_toArray, List.set_cons_zero, List.set_cons_succ]
    refine wpAnyH_skipV (i := 16) rfl (by kernel_rfl) (by kernel_rfl) (by kernel_rfl) (fun _ _ _ h => h) (by rfl) hHeld ?_
    simp only [Act.put, List.setIfInBounds_toArray, List.set_cons_zero, List.set_cons_succ]
    refine wpAnyH_skipV (i := 17) rfl (by kernel_rfl) (by kernel_rfl) (by kernel_rfl) (fun _ _ _ h => h) (by rfl) hHeld ?_
    simp only [Act.put, List.setIfInBounds_toArray, List.set_cons_zero, List.set_cons_succ]
    refine wpAnyH_skipV (i := 18) rfl (by kernel_rfl) (by kernel_rfl) (by kernel_rfl) (fun _ _ _ h => h) (by rfl) hHeld ?_
    simp only [Act.put, List.setIfInBounds_toArray, List.set_cons_zero, List.set_cons_succ]
    refine wpAnyH_takeU (i := 19) (v := .bool false) rfl (by kernel_rfl) (by kernel_rfl) (by kernel_rfl) (fun _ _ _ h => h) (by rfl) (fun W hC => by go_simp) hHeld ?_
    simp only [Act.put, List.setIfInBounds_toArray, List.set_cons_zero, List.set_cons_succ]
    refine wpAnyH_takeU (i := 20) (v := .bool false) rfl (by kernel_rfl) (by kernel_rfl) (by kernel_rfl) (fun _ _ _ h => h) (by rfl) (fun W hC => by go_simp) hHeld ?_
    simp only [Act.put, List.setIfInBounds_toArray, List.set_cons_zero, List.set_cons_succ]
    refine wpAnyH_done (by kernel_rfl) ?_ _
    go_wp2_with fail
    go_ret
    exact ⟨rfl, HE.out _ hdw⟩

end Go.Proofs.YtmmlphdekeflfaaGreatDoor

namespace Go.Proofs.YtmmlphdekeflfaaGreatDoor
open Go.RowKit

/-- the sum of the first i, as a list -/
def fl (p : Nat) (xs ys : List Int) (i : Nat) : List Int := Pol.mk p (FS p xs ys i) xs.length
end Go.Proofs.YtmmlphdekeflfaaGreatDoor
