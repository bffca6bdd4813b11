/- The law GatesMakes: its walk. -/
import Derived.Test.YtpgnabmkfkcogaaGreatDoorGuQ
import Derived.Test.YtpgnabmkfkcogaaGreatDoorGmAX
import Derived.Test.YtpgnabmkfkcogaaGreatDoorGmAZ
import Derived.Test.YtpgnabmkfkcogaaGreatDoorGmAF
import Derived.Test.YtpgnabmkfkcogaaGreatDoorGmAG
namespace Go.Proofs.YtpgnabmkfkcogaaGreatDoor
open Go.RowKit

set_option maxRecDepth 100000 in
set_option maxHeartbeats 4000000 in
theorem layered_same (cR cS cR2 cS2 : Nat) (aR aS aR2 aS2 : Option Addr) (Rs : List (List (List Int))) (Ls : List (List Int)) (w : World) (hLB : LayB Rs Ls) (hR : LstRR w.heap.size w aR cR Rs) (hS : LstR w.heap.size w aS cS Ls) (hR2 : LstRR w.heap.size w aR2 cR2 Rs) (hS2 : LstR w.heap.size w aS2 cS2 Ls) :
    Calls Tryz.prog 32 #[.agg #[.slice aR Rs.length cR, .slice aS Ls.length cS], .agg #[.slice aR2 Rs.length cR2, .slice aS2 Ls.length cS2]] w fun e w' => e = .returned (.bool true) ∧ Below w.heap.size w w' := by
  obtain ⟨n, hn⟩ : ∃ n, n = Rs.length := ⟨_, rfl⟩
  obtain ⟨nS, hnS⟩ : ∃ nS, nS = Ls.length := ⟨_, rfl⟩
  obtain ⟨W1, hW1⟩ : ∃ W1, W1 = (w.alloc (.cells #[.slice aR n cR, .slice aS nS cS] 74)).alloc (.cells #[.slice aR2 n cR2, .slice aS2 nS cS2] 74) := ⟨_, rfl⟩
  obtain ⟨A, hA⟩ : ∃ A, A = w.heap.size := ⟨_, rfl⟩
  obtain ⟨B, hBB⟩ : ∃ B, B = w.heap.size + 1 := ⟨_, rfl⟩
  have hb1 : Below w.heap.size w W1 := by rw [hW1]; exact ((Below.refl _ _).alloc (Nat.le_refl _) _).alloc (by simp) _
  have hz1 : W1.heap.size = w.heap.size + 2 := by rw [hW1]; simp
  have hs1 : W1.heap[A]? = some (.cells #[.slice aR n cR, .slice aS nS cS] 74 (0, 0)) := by
    rw [hW1, hA]
    exact (hao _ _ (by simp)).trans (heap_alloc_new w _)
  have hs2 : W1.heap[B]? = some (.cells #[.slice aR2 n cR2, .slice aS2 nS cS2] 74 (0, 0)) := by
    rw [hW1, hBB]
    have := heap_alloc_new (w.alloc (.cells #[.slice aR n cR, .slice aS nS cS] 74)) (.cells #[.slice aR2 n cR2, .slice aS2 nS cS2] 74)
    simpa using this
  have HCC : Hid (∀ W, Below W1.heap.size W1 W → (W.cell? ⟨A, 0, none⟩ = some (.slice aR n cR) ∧ W.cell? ⟨A, 1, none⟩ = some (.slice aS nS cS)) ∧ W.cell? ⟨B, 0, none⟩ = some (.slice aR2 n cR2) ∧ W.cell? ⟨B, 1, none⟩ = some (.slice aS2 nS cS2)) := fun W hW => by
    have e1 := (hW.block A (by omega)).trans hs1
    have e2 := (hW.block B (by omega)).trans hs2
    exact ⟨⟨by simp [World.cell?, e1], by simp [World.cell?, e1]⟩, by simp [World.cell?, e2], by simp [World.cell?, e2]⟩
  have HBW : Hid (∀ W, Below W1.heap.size W1 W → Below w.heap.size w W) := fun W hW => hb1.trans (hW.mono (by omega))
  have HRX : Hid (∀ k, k < n → ∃ b1 o1 ak ck b2 o2 ak2 ck2 nk, aR = some ⟨b1, o1, none⟩ ∧ aR2 = some ⟨b2, o2, none⟩ ∧ ∀ W, Below w.heap.size w W → (W.cell? ⟨b1, o1 + k, none⟩ = some (.slice ak nk ck) ∧ W.cell? ⟨b2, o2 + k, none⟩ = some (.slice ak2 nk ck2)) ∧ Calls Tryz.prog 85 #[.slice ak nk ck, .slice ak2 nk ck2] W fun e w' => e = .returned (.bool true) ∧ Below W.heap.size W w') := fun k hk => by
    obtain ⟨b1, o1, ak, ck, e1, g1, g2, g3⟩ := hR.row k (by omega)
    obtain ⟨b2, o2, ak2, ck2, e2, g4, g5, g6⟩ := hR2.row k (by omega)
    refine ⟨b1, o1, ak, ck, b2, o2, ak2, ck2, _, e1, e2, fun W hW => ⟨⟨(hW.cell (p := ⟨b1, o1 + k, none⟩) g1).trans g2, (hW.cell (p := ⟨b2, o2 + k, none⟩) g4).trans g5⟩, ?_⟩⟩
    obtain ⟨l1, l2⟩ := hLB.r1 k (by omega)
    refine (srows_any ck ck2 ak ak2 _ _ _ _ W (by omega) (by omega) (fun j hj => by have := (l2 j hj).1; omega) (fun j hj => by have := (l2 j hj).1; omega) (g3.below hW) (g6.below hW)).mono ?_
    rintro e w' ⟨rfl, nn, rfl⟩
    exact ⟨by rw [decide_eq_true rfl], below_drewN (Below.refl _ _) nn⟩
  have HLX : Hid (∀ W, Below w.heap.size w W → Calls Tryz.prog 85 #[.slice aS nS cS, .slice aS2 nS cS2] W fun e w' => e = .returned (.bool true) ∧ Below W.heap.size W w') := fun W hW => by
    rw [hnS]
    refine (srows_any cS cS2 aS aS2 _ _ _ _ W (by have := hLB.l0; omega) (by have := hLB.l0; omega) (fun j hj => by have := (hLB.l1 j hj).1; omega) (fun j hj => by have := (hLB.l1 j hj).1; omega) (hS.below hW) (hS2.below hW)).mono ?_
    rintro e w' ⟨rfl, nn, rfl⟩
    exact ⟨by rw [decide_eq_true rfl], below_drewN (Below.refl _ _) nn⟩
  have HW1 := hid hW1
  have HAE := hid hA
  have HBE := hid hBB
  have hnb : n ≤ 281474976710656 := by have := hLB.r0; omega
  rw [← hn, ← hnS]
  have u1 : ((n : Int) != (n : Int)) = false := by simp
  have hmx : Tryz.prog.follows .mixedOrders = true := by kernel_rfl
  clear hn hnS hW1 hA hBB hs1 hs2 hz1 hb1 hLB hR hS hR2 hS2
  go_enter Tryz.func32, Tryz.ntmps32
  obtain ⟨⟨k0, k1⟩, k2, k3⟩ := HCC.out W1 (Below.refl _ _)
  rw [HW1.out] at k0 k1 k2 k3
  rw [HAE.out] at k0 k1
  rw [HBE.out] at k2 k3
  go_wp2_with fail
  clear k0 k1 k2 k3
  rw [← HBE.out, ← HAE.out, ← HW1.out]
  go_loopw [5, 6] (fun iv _ wr => ∃ k : Nat, k ≤ n ∧ iv = .int .i64 (k : Int) ∧ Hid (Below W1.heap.size W1 wr)) (fun iv _ _ => n - (intOf iv).toNat)
  case atStart => exact ⟨0, Nat.zero_le _, rfl, Below.refl _ _⟩
  case round =>
    obtain ⟨k, hk, rfl, HBI⟩ := hrel
    obtain ⟨⟨k0, k1⟩, k2, k3⟩ := HCC.out wr HBI.out
    by_cases hlt : k < n
    · have hlt2 : (k : Int) < (n : Int) := by omega
      have hk0 : ¬ (k : Int) < 0 := by omega
      have hks : IntKind.i64.wrap ((k : Int) + 1) = (k : Int) + 1 := by rw [IntKind.wrap_i64]; omega
      obtain ⟨b1, o1, ak, ck, b2, o2, ak2, ck2, nk, rfl, rfl, hrow⟩ := HRX.out k hlt
      have HROW := hid hrow
      have HWD : Hid (Below wr.drew.heap.size wr.drew wr.drew) := Below.refl _ _
      have HS6 : Hid (∀ W, Below wr.drew.heap.size wr.drew W → (W.cell? ⟨A, 0, none⟩ = some (.slice (some ⟨b1, o1, none⟩) n cR) ∧ W.cell? ⟨B, 0, none⟩ = some (.slice (some ⟨b2, o2, none⟩) n cR2)) ∧ W.cell? ⟨b1, o1 + k, none⟩ = some (.slice ak nk ck) ∧ W.cell? ⟨b2, o2 + k, none⟩ = some (.slice ak2 nk ck2)) := fun W hW => by
        have h1 : Below W1.heap.size W1 W := HBI.out.drew.trans (hW.mono HBI.out.size)
        obtain ⟨⟨y0, _⟩, y2, _⟩ := HCC.out W h1
        exact ⟨⟨y0, y2⟩, (HROW.out W (HBW.out W h1)).1⟩
      have HRW := hid (HROW.out wr.drew (HBW.out _ HBI.out.drew)).2
      clear hrow
      go_wp2_with fail
      refine wp_region_held_drew (S := fun W => (W.cell? ⟨A, 0, none⟩ = some (.slice (some ⟨b1, o1, none⟩) n cR) ∧ W.cell? ⟨B, 0, none⟩ = some (.slice (some ⟨b2, o2, none⟩) n cR2)) ∧ W.cell? ⟨b1, o1 + k, none⟩ = some (.slice ak nk ck) ∧ W.cell? ⟨b2, o2 + k, none⟩ = some (.slice ak2 nk ck2)) (by kernel_rfl) (HS6.out _ HWD.out) (fun hHeld => ?_)
      refine wpAnyH_takeU (i := 0) (v := .pointer (some ⟨A, 0, none⟩)) rfl (by kernel_rfl) (by kernel_rfl) (by kernel_rfl) (fun _ _ _ h => h) (by rfl) (fun W hC => by go_simp) hHeld ?_
      simp only [Act.put, List.setIfInBounds_toArray, List.set_cons_zero, List.set_cons_succ]
      refine wpAnyH_takeU (i := 1) (v := .slice (some ⟨b1, o1, none⟩) n cR) rfl (by kernel_rfl) (by kernel_rfl) (by kernel_rfl) (fun _ _ _ h => h) (by rfl) (fun W hC => by (obtain ⟨⟨x1, x2⟩, x3, x4⟩ := hC); go_simp) hHeld ?_
      simp only [Act.put, List.setIfInBounds_toArray, List.set_cons_zero, List.set_cons_succ]
      refine wpAnyH_takeU (i := 2) (v := .int .i64 (k : Int)) rfl (by kernel_rfl) (by kernel_rfl) (by kernel_rfl) (fun _ _ _ h => h) (by rfl) (fun W hC => by go_simp) hHeld ?_
      simp only [Act.put, List.setIfInBounds_toArray, List.set_cons_zero, List.set_cons_succ]
      refine wpAnyH_takeU (i := 3) (v := .pointer (some ⟨b1, o1 + k, none⟩)) rfl (by kernel_rfl) (by kernel_rfl) (by kernel_rfl) (fun _ _ _ h => h) (by rfl) (fun W hC => by go_simp) hHeld ?_
      simp only [Act.put, List.setIfInBounds_toArray, List.set_cons_zero, List.set_cons_succ]
      refine wpAnyH_takeU (i := 4) (v := .slice ak nk ck) rfl (by kernel_rfl) (by kernel_rfl) (by kernel_rfl) (fun _ _ _ h => h) (by rfl) (fun W hC => by (obtain ⟨⟨x1, x2⟩, x3, x4⟩ := hC); go_simp) hHeld ?_
      simp only [Act.put, List.setIfInBounds_toArray, List.set_cons_zero, List.set_cons_succ]
      refine wpAnyH_takeU (i := 5) (v := .pointer (some ⟨B, 0, none⟩)) rfl (by kernel_rfl) (by kernel_rfl) (by kernel_rfl) (fun _ _ _ h => h) (by rfl) (fun W hC => by go_simp) hHeld ?_
      simp only [Act.put, List.setIfInBounds_toArray, List.set_cons_zero, List.set_cons_succ]
      refine wpAnyH_takeU (i := 6) (v := .slice (some ⟨b2, o2, none⟩) n cR2) rfl (by kernel_rfl) (by kernel_rfl) (by kernel_rfl) (fun _ _ _ h => h) (by rfl) (fun W hC => by (obtain ⟨⟨x1, x2⟩, x3, x4⟩ := hC); go_simp) hHeld ?_
      simp only [Act.put, List.setIfInBounds_toArray, List.set_cons_zero, List.set_cons_succ]
      refine wpAnyH_takeU (i := 7) (v := .int .i64 (k : Int)) rfl (by kernel_rfl) (by kernel_rfl) (by kernel_rfl) (fun _ _ _ h => h) (by rfl) (fun W hC => by go_simp) hHeld ?_
      simp only [Act.put, List.setIfInBounds_toArray, List.set_cons_zero, List.set_cons_succ]
      refine wpAnyH_takeU (i := 8) (v := .pointer (some ⟨b2, o2 + k, none⟩)) rfl (by kernel_rfl) (by kernel_rfl) (by kernel_rfl) (fun _ _ _ h => h) (by rfl) (fun W hC => by go_simp) hHeld ?_
      simp only [Act.put, List.setIfInBounds_toArray, List.set_cons_zero, List.set_cons_succ]
      refine wpAnyH_takeU (i := 9) (v := .slice ak2 nk ck2) rfl (by kernel_rfl) (by kernel_rfl) (by kernel_rfl) (fun _ _ _ h => h) (by rfl) (fun W hC => by (obtain ⟨⟨x1, x2⟩, x3, x4⟩ := hC); go_simp) hHeld ?_
      simp only [Act.put, List.setIfInBounds_toArray, List.set_cons_zero, List.set_cons_succ]
      refine wpAnyH_ready (rs := [10]) (by kernel_rfl) (by simp) ?_
      refine AllReadyH.consU rfl (fun K' hK' => ?_) AllReadyH.nil
      go_simp
      refine (HRW.out).mono ?_
      rintro e w5 ⟨rfl, hb5⟩
      have H5 : Hid (Below W1.heap.size W1 w5) := HBI.out.drew.trans (hb5.mono HBI.out.size)
      have H56 : Hid (Below wr.drew.heap.size wr.drew w5) := hb5
      clear hb5
      refine hK'.out _ _ (HS6.out _ H56.out) (fun hHeld => ?_)
      clear hK' K'
      refine wpAnyH_takeU (i := 11) (v := .bool true) rfl (by kernel_rfl) (by kernel_rfl) (by kernel_rfl) (fun _ _ _ h => h) (by rfl) (fun W hC => by go_simp) hHeld ?_
      simp only [Act.put, List.setIfInBounds_toArray, List.set_cons_zero, List.set_cons_succ]
      refine wpAnyH_done (by kernel_rfl) ?_ _
      clear k0 k1 k2 k3
      go_wp2_with fail
      go_roundw
      case rel => exact ⟨k + 1, by omega, by go_num, H5⟩
      case measure => simp [intOf]; omega
    · obtain rfl : k = n := by omega
      have hlt2 : ¬ (k : Int) < (k : Int) := by omega
      have HLY := hid (HLX.out wr (HBW.out _ HBI.out))
      go_wp2_with fail
      refine HLY.out.mono ?_
      rintro e w5 ⟨rfl, hb5⟩
      have HE := hid (HBW.out _ (HBI.out.trans (hb5.mono HBI.out.size)))
      clear hb5
      go_wp2_with fail
      go_ret
      exact ⟨rfl, HE.out⟩

theorem layB_nil : LayB [] [] := ⟨by simp, fun k hk => by simp at hk, by simp, fun k hk => by simp at hk⟩
theorem lstRR_nil (n0 : Nat) (w : World) : LstRR n0 w none 0 [] := ⟨fun k hk => by simp at hk, by simp, fun _ => rfl⟩
theorem lstR_nil' (n0 : Nat) (w : World) : LstR n0 w none 0 [] := ⟨fun k hk => by simp at hk, by simp, fun _ => rfl⟩

set_option maxRecDepth 100000 in
set_option maxHeartbeats 4000000 in
theorem jmakes_fa (q cL ci : Nat) (wide : Int) (aL ai : Option Addr) (lys : List (List GatZ)) (inputs : List Int) (w : World) (hL : Laid w) (hT : TabAt 2 Lib.deBruijn64tab w) (h23 : 23 ≤ q) (h4 : q ≤ 2147483647) (hpr : Num.Prime q) (hB : CirB lys) (hl : LstGG w.heap.size w aL cL lys) (hI : InL w ai ci inputs) (hF : flt wide lys ≠ 0) :
    Calls Tryz.prog 5 #[.int .i64 (q : Int), .agg #[.int .i64 wide, .slice aL lys.length cL], .slice ai inputs.length ci] w fun e w' => e = .returned (.bool true) ∧ Below w.heap.size w w' := by
  have hV : vle wide lys inputs.length ≠ 0 := by unfold vle; rw [if_neg hF]; exact hF
  have h3 : 3 ≤ q := by omega
  obtain ⟨nL, hnL⟩ : ∃ nL, nL = lys.length := ⟨_, rfl⟩
  obtain ⟨ni, hni⟩ : ∃ ni, ni = inputs.length := ⟨_, rfl⟩
  obtain ⟨W0, hW0⟩ : ∃ W0, W0 = w.alloc (.cells #[.int .i64 wide, .slice aL nL cL] 69) := ⟨_, rfl⟩
  obtain ⟨hb0, hs0, hz0⟩ := own_blk hW0
  obtain ⟨G, hG⟩ : ∃ G, G = w.heap.size := ⟨_, rfl⟩
  rw [← hG] at hs0
  have HC : Hid (∀ W, Below W0.heap.size W0 W → W.cell? ⟨G, 0, none⟩ = some (.int .i64 wide) ∧ W.cell? ⟨G, 1, none⟩ = some (.slice aL nL cL)) := fun W hW => by
    have e1 := (hW.block G (Array.getElem?_eq_some_iff.1 hs0).1).trans hs0
    exact ⟨by simp [World.cell?, e1], by simp [World.cell?, e1]⟩
  have HBK : Hid (∀ W, Below W0.heap.size W0 W → Below w.heap.size w W) := fun W hW => hb0.trans (hW.mono hb0.size)
  have HSY := hid (sponge_yes q W0 h23 h4 hpr)
  have HITX : Hid (∀ (W : World) (sp b n d : Nat), SpgAt W sp b q n d → Below W0.heap.size W0 W → InT q b W) := fun W sp b n d hs hW => ⟨⟨hpr, h3, h4, hs.p⟩, tabu_below hT (hb0.trans (hW.mono hb0.size))⟩
  have HFL : Hid (∀ W, Below W0.heap.size W0 W → Calls Tryz.prog 30 #[.agg #[.int .i64 wide, .slice aL nL cL]] W fun e w' => e = .returned (.int .i64 (flt wide lys)) ∧ Below W.heap.size W w') := fun W h2 => by
    have h := rfault13_any cL wide aL lys W hB (hl.step (hb0.trans (h2.mono hb0.size)))
    rw [← hnL] at h
    exact h
  have HTO : Hid (∀ (k : Int) W, Below W0.heap.size W0 W → Calls Tryz.prog 11 #[errz k, .int .i64 k] W fun x w' => x = .returned (.bool true) ∧ Below W.heap.size W w') := fun k W h2 => by
    have := told_any k k W (hL.below (hb0.trans (h2.mono hb0.size)))
    rw [beq_self_eq_true] at this
    exact this
  have HWD := hid (fun W => rwide13_any inputs.length W)
  obtain ⟨V, hVV⟩ : ∃ V, V = vle wide lys inputs.length := ⟨_, rfl⟩
  have HMN : Hid (∀ (W : World) (sp b n d : Nat), SpgAt W sp b q n d → InT q b W → Below W0.heap.size W0 W → Calls Tryz.prog 29 #[.pointer (some ⟨sp, 0, none⟩), .agg #[.int .i64 wide, .slice aL nL cL], .slice ai ni ci] W fun e w' => e = .returned (.tuple #[.agg #[.slice none 0 0, .slice none 0 0], errz V]) ∧ Below W.heap.size W w') := fun W sp b n d hs hi hW => by
    have hw := hb0.trans (hW.mono hb0.size)
    have h := gmake_no q n d sp b cL ci wide aL ai lys inputs W hs hi hB (hl.step hw) ((hI.below hw).lst) hI.fit hV
    rw [← hVV, ← hnL, ← hni] at h
    exact h
  have HLE : Hid (∀ W, Calls Tryz.prog 32 #[.agg #[.slice none 0 0, .slice none 0 0], .agg #[.slice none 0 0, .slice none 0 0]] W fun e w' => e = .returned (.bool true) ∧ Below W.heap.size W w') := fun W => layered_same 0 0 0 0 none none none none [] [] W layB_nil (lstRR_nil _ _) (lstR_nil' _ _) (lstRR_nil _ _) (lstR_nil' _ _)
  have hVE : flt wide lys = V := by rw [hVV]; unfold vle; rw [if_neg hF]
  rw [hVE] at HFL
  have HTX := hid (HTO.out V)
  have hV0 : V ≠ 0 := by rw [← hVE]; exact hF
  have hv1 : (V == 0) = false := by simp [hV0]
  have hv2 : (V != 0) = true := by simp [hV0]
  have HWG := hid hW0
  have HGE := hid hG
  obtain ⟨c0, c1⟩ := HC.out W0 (Below.refl _ _)
  rw [← hnL, ← hni]
  clear hVV hnL hW0 hb0 hs0 hz0 hG hT hpr hB hl hI hni hL hVE hV hF hV0
  go_enter Tryz.func5, Tryz.ntmps5
  go_wp2_with fail
  rw [← HWG.out, ← HGE.out]
  refine HSY.out.mono ?_
  rintro e w1 ⟨sp, b, n, d, rfl, hok, hat, hb1⟩
  have HOK := hid hok
  have HAT := hid hat
  have HB1 := hid hb1
  have HIT : Hid (∀ W, Below w1.heap.size w1 W → InT q b W ∧ SpgAt W sp b q n d ∧ Below W0.heap.size W0 W) := fun W hW => by
    have hs := HAT.out.below hW HAT.out.lt HAT.out.ltb
    have hw := HB1.out.trans (hW.mono HB1.out.size)
    exact ⟨HITX.out W sp b n d hs hw, hs, hw⟩
  clear hok hat hb1 c0 c1 HSY
  obtain ⟨c0, c1⟩ := HC.out w1 HB1.out
  go_wp2_with fail
  refine (HMN.out w1 sp b n d (HIT.out w1 (Below.refl _ _)).2.1 (HIT.out w1 (Below.refl _ _)).1 HB1.out).mono ?_
  rintro e w2 ⟨rfl, hb2⟩
  obtain ⟨O, hO⟩ : ∃ O, O = w2.heap.size := ⟨_, rfl⟩
  obtain ⟨W3, hW3⟩ : ∃ W3, W3 = w2.alloc (.cells #[.slice none 0 0, .slice none 0 0] 74) := ⟨_, rfl⟩
  obtain ⟨hba, hsa, hza⟩ := own_blk hW3
  rw [← hO] at hsa
  have HB2 : Hid (Below W0.heap.size W0 w2) := HB1.out.trans (hb2.mono HB1.out.size)
  have HB3 : Hid (Below W0.heap.size W0 W3) := HB2.out.trans (hba.mono HB2.out.size)
  have HOB : Hid (∀ W, Below W3.heap.size W3 W → W.cell? ⟨O, 0, none⟩ = some (.slice none 0 0) ∧ W.cell? ⟨O, 1, none⟩ = some (.slice none 0 0)) := fun W hW => by
    have e1 := (hW.block O (Array.getElem?_eq_some_iff.1 hsa).1).trans hsa
    exact ⟨by simp [World.cell?, e1], by simp [World.cell?, e1]⟩
  have HOE := hid hO
  have HW3 := hid hW3
  obtain ⟨d0, d1⟩ := HC.out W3 HB3.out
  rw [hW3] at d0 d1
  clear hb2 hba hsa hza hO hW3 c0 c1
  go_wp2_with fail
  rw [← HOE.out, ← HW3.out]
  clear d0 d1
  refine (HFL.out W3 HB3.out).mono ?_
  rintro e w4 ⟨rfl, hb4⟩
  have HB4 : Hid (Below W0.heap.size W0 w4) := HB3.out.trans (hb4.mono HB3.out.size)
  have H34 : Hid (Below W3.heap.size W3 w4) := hb4
  obtain ⟨d0, d1⟩ := HC.out w4 HB4.out
  clear hb4
  go_wp2_with fail
  refine (HTX.out w4 HB4.out).mono ?_
  rintro e w5 ⟨rfl, hb5⟩
  have HB5 : Hid (Below W0.heap.size W0 w5) := HB4.out.trans (hb5.mono HB4.out.size)
  obtain ⟨o0, o1⟩ := HOB.out w5 (H34.out.trans (hb5.mono H34.out.size))
  clear hb5
  go_wp2_with fail
  refine (HLE.out w5).mono ?_
  rintro e w6 ⟨rfl, hb6⟩
  have HE := hid (HBK.out _ (HB5.out.trans (hb6.mono HB5.out.size)))
  clear hb6 o0 o1
  go_wp2_with fail
  go_ret
  exact ⟨rfl, HE.out⟩

set_option maxRecDepth 100000 in
set_option maxHeartbeats 4000000 in
theorem jmakes_fb (q cL ci : Nat) (wide : Int) (aL ai : Option Addr) (lys : List (List GatZ)) (inputs : List Int) (w : World) (hL : Laid w) (hT : TabAt 2 Lib.deBruijn64tab w) (h23 : 23 ≤ q) (h4 : q ≤ 2147483647) (hpr : Num.Prime q) (hB : CirB lys) (hl : LstGG w.heap.size w aL cL lys) (hI : InL w ai ci inputs) (hF : flt wide lys = 0) (hM : inputs.length ≠ 2 ^ wide.toNat) :
    Calls Tryz.prog 5 #[.int .i64 (q : Int), .agg #[.int .i64 wide, .slice aL lys.length cL], .slice ai inputs.length ci] w fun e w' => e = .returned (.bool true) ∧ Below w.heap.size w w' := by
  have hV : vle wide lys inputs.length ≠ 0 := by unfold vle; rw [if_pos hF, if_neg hM]; decide
  have h3 : 3 ≤ q := by omega
  obtain ⟨nL, hnL⟩ : ∃ nL, nL = lys.length := ⟨_, rfl⟩
  obtain ⟨ni, hni⟩ : ∃ ni, ni = inputs.length := ⟨_, rfl⟩
  obtain ⟨W0, hW0⟩ : ∃ W0, W0 = w.alloc (.cells #[.int .i64 wide, .slice aL nL cL] 69) := ⟨_, rfl⟩
  obtain ⟨hb0, hs0, hz0⟩ := own_blk hW0
  obtain ⟨G, hG⟩ : ∃ G, G = w.heap.size := ⟨_, rfl⟩
  rw [← hG] at hs0
  have HC : Hid (∀ W, Below W0.heap.size W0 W → W.cell? ⟨G, 0, none⟩ = some (.int .i64 wide) ∧ W.cell? ⟨G, 1, none⟩ = some (.slice aL nL cL)) := fun W hW => by
    have e1 := (hW.block G (Array.getElem?_eq_some_iff.1 hs0).1).trans hs0
    exact ⟨by simp [World.cell?, e1], by simp [World.cell?, e1]⟩
  have HBK : Hid (∀ W, Below W0.heap.size W0 W → Below w.heap.size w W) := fun W hW => hb0.trans (hW.mono hb0.size)
  have HSY := hid (sponge_yes q W0 h23 h4 hpr)
  have HITX : Hid (∀ (W : World) (sp b n d : Nat), SpgAt W sp b q n d → Below W0.heap.size W0 W → InT q b W) := fun W sp b n d hs hW => ⟨⟨hpr, h3, h4, hs.p⟩, tabu_below hT (hb0.trans (hW.mono hb0.size))⟩
  have HFL : Hid (∀ W, Below W0.heap.size W0 W → Calls Tryz.prog 30 #[.agg #[.int .i64 wide, .slice aL nL cL]] W fun e w' => e = .returned (.int .i64 (flt wide lys)) ∧ Below W.heap.size W w') := fun W h2 => by
    have h := rfault13_any cL wide aL lys W hB (hl.step (hb0.trans (h2.mono hb0.size)))
    rw [← hnL] at h
    exact h
  have HTO : Hid (∀ (k : Int) W, Below W0.heap.size W0 W → Calls Tryz.prog 11 #[errz k, .int .i64 k] W fun x w' => x = .returned (.bool true) ∧ Below W.heap.size W w') := fun k W h2 => by
    have := told_any k k W (hL.below (hb0.trans (h2.mono hb0.size)))
    rw [beq_self_eq_true] at this
    exact this
  have HWD := hid (fun W => rwide13_any inputs.length W)
  obtain ⟨V, hVV⟩ : ∃ V, V = vle wide lys inputs.length := ⟨_, rfl⟩
  have HMN : Hid (∀ (W : World) (sp b n d : Nat), SpgAt W sp b q n d → InT q b W → Below W0.heap.size W0 W → Calls Tryz.prog 29 #[.pointer (some ⟨sp, 0, none⟩), .agg #[.int .i64 wide, .slice aL nL cL], .slice ai ni ci] W fun e w' => e = .returned (.tuple #[.agg #[.slice none 0 0, .slice none 0 0], errz V]) ∧ Below W.heap.size W w') := fun W sp b n d hs hi hW => by
    have hw := hb0.trans (hW.mono hb0.size)
    have h := gmake_no q n d sp b cL ci wide aL ai lys inputs W hs hi hB (hl.step hw) ((hI.below hw).lst) hI.fit hV
    rw [← hVV, ← hnL, ← hni] at h
    exact h
  have HLE : Hid (∀ W, Calls Tryz.prog 32 #[.agg #[.slice none 0 0, .slice none 0 0], .agg #[.slice none 0 0, .slice none 0 0]] W fun e w' => e = .returned (.bool true) ∧ Below W.heap.size W w') := fun W => layered_same 0 0 0 0 none none none none [] [] W layB_nil (lstRR_nil _ _) (lstR_nil' _ _) (lstRR_nil _ _) (lstR_nil' _ _)
  have hVE : V = 2 := by rw [hVV]; unfold vle; rw [if_pos hF, if_neg hM]
  have hF1 := (flt_zero hF).1.1
  have hm2 : (wdz inputs.length != wide) = true := by simp; exact fun h => hM ((wdz_wide hF1.1 hF1.2).1 h)
  rw [hF] at HFL
  rw [hVE] at HMN
  have HTX := hid (HTO.out 2)
  rw [← hni] at HWD hm2
  generalize wdz ni = wd at *
  have HWG := hid hW0
  have HGE := hid hG
  obtain ⟨c0, c1⟩ := HC.out W0 (Below.refl _ _)
  rw [← hnL, ← hni]
  clear hVV hnL hW0 hb0 hs0 hz0 hG hT hpr hB hl hI hni hL hVE hV hF hM hF1
  go_enter Tryz.func5, Tryz.ntmps5
  go_wp2_with fail
  rw [← HWG.out, ← HGE.out]
  refine HSY.out.mono ?_
  rintro e w1 ⟨sp, b, n, d, rfl, hok, hat, hb1⟩
  have HOK := hid hok
  have HAT := hid hat
  have HB1 := hid hb1
  have HIT : Hid (∀ W, Below w1.heap.size w1 W → InT q b W ∧ SpgAt W sp b q n d ∧ Below W0.heap.size W0 W) := fun W hW => by
    have hs := HAT.out.below hW HAT.out.lt HAT.out.ltb
    have hw := HB1.out.trans (hW.mono HB1.out.size)
    exact ⟨HITX.out W sp b n d hs hw, hs, hw⟩
  clear hok hat hb1 c0 c1 HSY
  obtain ⟨c0, c1⟩ := HC.out w1 HB1.out
  go_wp2_with fail
  refine (HMN.out w1 sp b n d (HIT.out w1 (Below.refl _ _)).2.1 (HIT.out w1 (Below.refl _ _)).1 HB1.out).mono ?_
  rintro e w2 ⟨rfl, hb2⟩
  obtain ⟨O, hO⟩ : ∃ O, O = w2.heap.size := ⟨_, rfl⟩
  obtain ⟨W3, hW3⟩ : ∃ W3, W3 = w2.alloc (.cells #[.slice none 0 0, .slice none 0 0] 74) := ⟨_, rfl⟩
  obtain ⟨hba, hsa, hza⟩ := own_blk hW3
  rw [← hO] at hsa
  have HB2 : Hid (Below W0.heap.size W0 w2) := HB1.out.trans (hb2.mono HB1.out.size)
  have HB3 : Hid (Below W0.heap.size W0 W3) := HB2.out.trans (hba.mono HB2.out.size)
  have HOB : Hid (∀ W, Below W3.heap.size W3 W → W.cell? ⟨O, 0, none⟩ = some (.slice none 0 0) ∧ W.cell? ⟨O, 1, none⟩ = some (.slice none 0 0)) := fun W hW => by
    have e1 := (hW.block O (Array.getElem?_eq_some_iff.1 hsa).1).trans hsa
    exact ⟨by simp [World.cell?, e1], by simp [World.cell?, e1]⟩
  have HOE := hid hO
  have HW3 := hid hW3
  obtain ⟨d0, d1⟩ := HC.out W3 HB3.out
  rw [hW3] at d0 d1
  clear hb2 hba hsa hza hO hW3 c0 c1
  go_wp2_with fail
  rw [← HOE.out, ← HW3.out]
  clear d0 d1
  refine (HFL.out W3 HB3.out).mono ?_
  rintro e w4 ⟨rfl, hb4⟩
  have HB4 : Hid (Below W0.heap.size W0 w4) := HB3.out.trans (hb4.mono HB3.out.size)
  have H34 : Hid (Below W3.heap.size W3 w4) := hb4
  obtain ⟨d0, d1⟩ := HC.out w4 HB4.out
  clear hb4
  go_wp2_with fail
  refine (HWD.out w4).mono ?_
  rintro e w9 ⟨rfl, hw⟩
  have hw1 := hw.symm
  subst hw1
  clear hw
  go_wp2_with fail
  refine (HTX.out w4 HB4.out).mono ?_
  rintro e w5 ⟨rfl, hb5⟩
  have HB5 : Hid (Below W0.heap.size W0 w5) := HB4.out.trans (hb5.mono HB4.out.size)
  obtain ⟨o0, o1⟩ := HOB.out w5 (H34.out.trans (hb5.mono H34.out.size))
  clear hb5
  go_wp2_with fail
  refine (HLE.out w5).mono ?_
  rintro e w6 ⟨rfl, hb6⟩
  have HE := hid (HBK.out _ (HB5.out.trans (hb6.mono HB5.out.size)))
  clear hb6 o0 o1
  go_wp2_with fail
  go_ret
  exact ⟨rfl, HE.out⟩

set_option maxRecDepth 100000 in
set_option maxHeartbeats 4000000 in
theorem jmakes_yes (q cL ci : Nat) (wide : Int) (aL ai : Option Addr) (lys : List (List GatZ)) (inputs : List Int) (w : World) (hL : Laid w) (hT : TabAt 2 Lib.deBruijn64tab w) (h23 : 23 ≤ q) (h4 : q ≤ 2147483647) (hpr : Num.Prime q) (hB : CirB lys) (hl : LstGG w.heap.size w aL cL lys) (hI : InL w ai ci inputs) (hV : vle wide lys inputs.length = 0) :
    Calls Tryz.prog 5 #[.int .i64 (q : Int), .agg #[.int .i64 wide, .slice aL lys.length cL], .slice ai inputs.length ci] w fun e w' => e = .returned (.bool true) ∧ Below w.heap.size w w' := by
  have h3 : 3 ≤ q := by omega
  obtain ⟨nL, hnL⟩ : ∃ nL, nL = lys.length := ⟨_, rfl⟩
  obtain ⟨ni, hni⟩ : ∃ ni, ni = inputs.length := ⟨_, rfl⟩
  obtain ⟨W0, hW0⟩ : ∃ W0, W0 = w.alloc (.cells #[.int .i64 wide, .slice aL nL cL] 69) := ⟨_, rfl⟩
  obtain ⟨hb0, hs0, hz0⟩ := own_blk hW0
  obtain ⟨G, hG⟩ : ∃ G, G = w.heap.size := ⟨_, rfl⟩
  rw [← hG] at hs0
  have HC : Hid (∀ W, Below W0.heap.size W0 W → W.cell? ⟨G, 0, none⟩ = some (.int .i64 wide) ∧ W.cell? ⟨G, 1, none⟩ = some (.slice aL nL cL)) := fun W hW => by
    have e1 := (hW.block G (Array.getElem?_eq_some_iff.1 hs0).1).trans hs0
    exact ⟨by simp [World.cell?, e1], by simp [World.cell?, e1]⟩
  have HBK : Hid (∀ W, Below W0.heap.size W0 W → Below w.heap.size w W) := fun W hW => hb0.trans (hW.mono hb0.size)
  have HSY := hid (sponge_yes q W0 h23 h4 hpr)
  have HITX : Hid (∀ (W : World) (sp b n d : Nat), SpgAt W sp b q n d → Below W0.heap.size W0 W → InT q b W) := fun W sp b n d hs hW => ⟨⟨hpr, h3, h4, hs.p⟩, tabu_below hT (hb0.trans (hW.mono hb0.size))⟩
  have HFL : Hid (∀ W, Below W0.heap.size W0 W → Calls Tryz.prog 30 #[.agg #[.int .i64 wide, .slice aL nL cL]] W fun e w' => e = .returned (.int .i64 (flt wide lys)) ∧ Below W.heap.size W w') := fun W h2 => by
    have h := rfault13_any cL wide aL lys W hB (hl.step (hb0.trans (h2.mono hb0.size)))
    rw [← hnL] at h
    exact h
  have HTO : Hid (∀ (k : Int) W, Below W0.heap.size W0 W → Calls Tryz.prog 11 #[errz k, .int .i64 k] W fun x w' => x = .returned (.bool true) ∧ Below W.heap.size W w') := fun k W h2 => by
    have := told_any k k W (hL.below (hb0.trans (h2.mono hb0.size)))
    rw [beq_self_eq_true] at this
    exact this
  have HWD := hid (fun W => rwide13_any inputs.length W)
  obtain ⟨hS, hGC, hin⟩ := vle_zero hV
  have hF : flt wide lys = 0 := by
    by_cases h : flt wide lys = 0
    · exact h
    · unfold vle at hV
      rw [if_neg h] at hV
      exact absurd hV h
  have hF1 := hS.1
  have hm2 : (wdz inputs.length != wide) = false := by rw [(wdz_wide hF1.1 hF1.2).2 hin]; simp
  have HMY : Hid (∀ (W : World) (sp b n d : Nat), SpgOk q n d → SpgAt W sp b q n d → InT q b W → Below W0.heap.size W0 W → Calls Tryz.prog 29 #[.pointer (some ⟨sp, 0, none⟩), .agg #[.int .i64 wide, .slice aL nL cL], .slice ai ni ci] W fun e w' => ∃ aR cR aS cS, e = .returned (.tuple #[.agg #[.slice aR nL cR, .slice aS nL cS], .nilIface]) ∧ LstRR w'.heap.size w' aR cR (mRs q n wide lys inputs lys.length) ∧ LstR w'.heap.size w' aS cS (mLs q n wide lys inputs lys.length) ∧ Below W.heap.size W w') := fun W sp b n d ok hs hi hW => by
    have hw := hb0.trans (hW.mono hb0.size)
    have h := gmake_yes q n d sp b cL ci wide aL ai lys inputs W ok hs h23 hi hB (hl.step hw) ((hI.below hw).lst) hI.fit hV
    rw [← hnL, ← hni] at h
    refine h.mono ?_
    rintro e w' ⟨aR, cR, aS, cS, rfl, hM, h2⟩
    exact ⟨aR, cR, aS, cS, rfl, by rw [← hnL]; exact hM.rdR (fun k hk j hj => (mRs_three h3 h4 (by rw [mRs_len] at hk; exact hk) j hj).1), by rw [← hnL]; exact hM.lnR, h2⟩
  have HRM : Hid (∀ (W : World) (n : Nat), Spo.PowIs q n → Below W0.heap.size W0 W → Calls Tryz.prog 33 #[.int .i64 (q : Int), .agg #[.int .i64 wide, .slice aL nL cL], .slice ai ni ci] W fun e w' => ∃ aR cR aS cS, e = .returned (.agg #[.slice aR nL cR, .slice aS nL cS]) ∧ LstRR w'.heap.size w' aR cR (mRs q n wide lys inputs lys.length) ∧ LstR w'.heap.size w' aS cS (mLs q n wide lys inputs lys.length) ∧ Below W.heap.size W w') := fun W n hpn hW => by
    have hw := hb0.trans (hW.mono hb0.size)
    have h := rmake13_any q n cL ci wide aL ai lys inputs W h23 h4 hpn hB (hl.step hw) ((hI.below hw).lst) hI.fit hV
    rw [← hnL, ← hni] at h
    refine h.mono ?_
    rintro e w' ⟨aR, cR, aS, cS, rfl, hM, h2⟩
    have hx := hM.rdX
    exact ⟨aR, cR, aS, cS, rfl, by rw [← hnL]; exact ⟨hx.1, hx.2.1, hx.2.2⟩, by rw [← hnL]; exact hM.lnR, h2⟩
  have HLE : Hid (∀ (W : World) (n cR cS cR2 cS2 : Nat) (aR aS aR2 aS2 : Option Addr), LstRR W.heap.size W aR cR (mRs q n wide lys inputs lys.length) → LstR W.heap.size W aS cS (mLs q n wide lys inputs lys.length) → LstRR W.heap.size W aR2 cR2 (mRs q n wide lys inputs lys.length) → LstR W.heap.size W aS2 cS2 (mLs q n wide lys inputs lys.length) → Calls Tryz.prog 32 #[.agg #[.slice aR nL cR, .slice aS nL cS], .agg #[.slice aR2 nL cR2, .slice aS2 nL cS2]] W fun e w' => e = .returned (.bool true) ∧ Below W.heap.size W w') := fun W n cR cS cR2 cS2 aR aS aR2 aS2 g1 g2 g3 g4 => by
    have h := layered_same cR cS cR2 cS2 aR aS aR2 aS2 _ _ W (made_layB h3 h4 hS) g1 g2 g3 g4
    rw [mRs_len, mLs_len, ← hnL] at h
    exact h
  rw [hF] at HFL
  have HTX := hid (HTO.out 0)
  rw [errz_nil] at HTX
  rw [← hni] at HWD hm2
  generalize wdz ni = wd at *
  have HWG := hid hW0
  have HGE := hid hG
  obtain ⟨c0, c1⟩ := HC.out W0 (Below.refl _ _)
  rw [← hnL, ← hni]
  clear hnL hW0 hb0 hs0 hz0 hG hT hpr hB hl hI hni hL hV hF hF1 hS hGC hin
  go_enter Tryz.func5, Tryz.ntmps5
  go_wp2_with fail
  rw [← HWG.out, ← HGE.out]
  refine HSY.out.mono ?_
  rintro e w1 ⟨sp, b, n, d, rfl, hok, hat, hb1⟩
  have HOK := hid hok
  have HAT := hid hat
  have HB1 := hid hb1
  have HIT : Hid (∀ W, Below w1.heap.size w1 W → InT q b W ∧ SpgAt W sp b q n d ∧ Below W0.heap.size W0 W) := fun W hW => by
    have hs := HAT.out.below hW HAT.out.lt HAT.out.ltb
    have hw := HB1.out.trans (hW.mono HB1.out.size)
    exact ⟨HITX.out W sp b n d hs hw, hs, hw⟩
  clear hok hat hb1 c0 c1 HSY
  obtain ⟨c0, c1⟩ := HC.out w1 HB1.out
  go_wp2_with fail
  refine (HMY.out w1 sp b n d HOK.out (HIT.out w1 (Below.refl _ _)).2.1 (HIT.out w1 (Below.refl _ _)).1 HB1.out).mono ?_
  rintro e w2 ⟨aR, cR, aS, cS, rfl, hRR, hR, hb2⟩
  obtain ⟨O, hO⟩ : ∃ O, O = w2.heap.size := ⟨_, rfl⟩
  obtain ⟨W3, hW3⟩ : ∃ W3, W3 = w2.alloc (.cells #[.slice aR nL cR, .slice aS nL cS] 74) := ⟨_, rfl⟩
  obtain ⟨hba, hsa, hza⟩ := own_blk hW3
  rw [← hO] at hsa
  have HB2 : Hid (Below W0.heap.size W0 w2) := HB1.out.trans (hb2.mono HB1.out.size)
  have HB3 : Hid (Below W0.heap.size W0 W3) := HB2.out.trans (hba.mono HB2.out.size)
  have HOB : Hid (∀ W, Below W3.heap.size W3 W → W.cell? ⟨O, 0, none⟩ = some (.slice aR nL cR) ∧ W.cell? ⟨O, 1, none⟩ = some (.slice aS nL cS)) := fun W hW => by
    have e1 := (hW.block O (Array.getElem?_eq_some_iff.1 hsa).1).trans hsa
    exact ⟨by simp [World.cell?, e1], by simp [World.cell?, e1]⟩
  have HRX := hid (hRR.below hba)
  have HLR := hid (hR.below hba)
  have HRD : Hid (∀ W, Below W3.heap.size W3 W → LstRR W.heap.size W aR cR (mRs q n wide lys inputs lys.length) ∧ LstR W.heap.size W aS cS (mLs q n wide lys inputs lys.length)) := fun W hW => by
    have h2 : Below w2.heap.size W3 W := hW.mono hba.size
    have hsz : w2.heap.size ≤ W.heap.size := Nat.le_trans hba.size hW.size
    exact ⟨⟨fun k hk => by obtain ⟨b', o', ak, ck, e1, e2, e3, e4⟩ := (HRX.out.below h2).row k hk; exact ⟨b', o', ak, ck, e1, by omega, e3, e4.mono hsz⟩, HRX.out.room, HRX.out.nil⟩, (HLR.out.below h2).mono hsz⟩
  have HOE := hid hO
  have HW3 := hid hW3
  obtain ⟨d0, d1⟩ := HC.out W3 HB3.out
  rw [hW3] at d0 d1
  clear hb2 hba hsa hza hO hW3 c0 c1 hRR hR HMY
  go_wp2_with fail
  rw [← HOE.out, ← HW3.out]
  clear d0 d1
  refine (HFL.out W3 HB3.out).mono ?_
  rintro e w4 ⟨rfl, hb4⟩
  have HB4 : Hid (Below W0.heap.size W0 w4) := HB3.out.trans (hb4.mono HB3.out.size)
  have H34 : Hid (Below W3.heap.size W3 w4) := hb4
  obtain ⟨d0, d1⟩ := HC.out w4 HB4.out
  clear hb4
  go_wp2_with fail
  refine (HWD.out w4).mono ?_
  rintro e w9 ⟨rfl, hw⟩
  have hw1 := hw.symm
  subst hw1
  clear hw
  go_wp2_with fail
  refine (HTX.out w4 HB4.out).mono ?_
  rintro e w5 ⟨rfl, hb5⟩
  have HB5 : Hid (Below W0.heap.size W0 w5) := HB4.out.trans (hb5.mono HB4.out.size)
  have H35 : Hid (Below W3.heap.size W3 w5) := H34.out.trans (hb5.mono H34.out.size)
  obtain ⟨d0, d1⟩ := HC.out w5 HB5.out
  clear hb5 HFL HWD HTX
  go_wp2_with fail
  refine (HRM.out w5 n HOK.out.pw HB5.out).mono ?_
  rintro e w6 ⟨aR2, cR2, aS2, cS2, rfl, hRR2, hR2, hb6⟩
  obtain ⟨O2, hO2⟩ : ∃ O2, O2 = w6.heap.size := ⟨_, rfl⟩
  obtain ⟨W7, hW7⟩ : ∃ W7, W7 = w6.alloc (.cells #[.slice aR2 nL cR2, .slice aS2 nL cS2] 74) := ⟨_, rfl⟩
  obtain ⟨hba, hsa, hza⟩ := own_blk hW7
  rw [← hO2] at hsa
  have H36 : Hid (Below W3.heap.size W3 w6) := H35.out.trans (hb6.mono H35.out.size)
  have H37 : Hid (Below W3.heap.size W3 W7) := H36.out.trans (hba.mono H36.out.size)
  have HB7 : Hid (Below W0.heap.size W0 W7) := (HB5.out.trans (hb6.mono HB5.out.size)).trans (hba.mono (HB5.out.trans (hb6.mono HB5.out.size)).size)
  obtain ⟨g1, g2⟩ := HRD.out W7 H37.out
  have g3 : LstRR W7.heap.size W7 aR2 cR2 (mRs q n wide lys inputs lys.length) := ⟨fun k hk => by obtain ⟨b', o', ak, ck, e1, e2, e3, e4⟩ := (hRR2.below hba).row k hk; exact ⟨b', o', ak, ck, e1, by have := hba.size; omega, e3, e4.mono hba.size⟩, hRR2.room, hRR2.nil⟩
  have HLL := hid (HLE.out W7 n cR cS cR2 cS2 aR aS aR2 aS2 g1 g2 g3 ((hR2.below hba).mono hba.size))
  obtain ⟨o0, o1⟩ := HOB.out W7 H37.out
  have o2 : W7.cell? ⟨O2, 0, none⟩ = some (.slice aR2 nL cR2) := by simp [World.cell?, hsa]
  have o3 : W7.cell? ⟨O2, 1, none⟩ = some (.slice aS2 nL cS2) := by simp [World.cell?, hsa]
  have HOE2 := hid hO2
  have HW7 := hid hW7
  rw [hW7] at o0 o1 o2 o3
  rw [hO2] at o2 o3
  clear hRR2 hR2 hb6 hba hsa hza g1 g2 g3 hO2 hW7 HRD HOB HRX HLR HLE HRM d0 d1
  go_wp2_with fail
  rw [← HW7.out]
  clear o0 o1 o2 o3
  refine HLL.out.mono ?_
  rintro e w8 ⟨rfl, hb8⟩
  have HE := hid (HBK.out _ (HB7.out.trans (hb8.mono HB7.out.size)))
  clear hb8 HLL
  go_wp2_with fail
  go_ret
  exact ⟨rfl, HE.out⟩

set_option maxRecDepth 100000 in
set_option maxHeartbeats 2000000 in
theorem jmakes_no (p : Int) (cL nL ni ci : Nat) (wide : Int) (aL ai : Option Addr) (w : World) (hL : Laid w) (hno : ¬ GoodS p) (hp1 : -9223372036854775808 ≤ p) (hp2 : p ≤ 9223372036854775807) :
    Calls Tryz.prog 5 #[.int .i64 p, .agg #[.int .i64 wide, .slice aL nL cL], .slice ai ni ci] w fun e w' => e = .returned (.bool true) ∧ Below w.heap.size w w' := by
  obtain ⟨W1, hW1⟩ : ∃ W1, W1 = w.alloc (.cells #[.int .i64 wide, .slice aL nL cL] 69) := ⟨_, rfl⟩
  have hb1 : Below w.heap.size w W1 := by rw [hW1]; exact (Below.refl _ _).alloc (Nat.le_refl _) _
  have HSN := hid (sponge_no p W1 (hL.below hb1) hno hp1 hp2)
  have HB1 := hid hb1
  have HW1 := hid hW1
  clear hb1 hW1 hL hno hp1 hp2
  go_enter Tryz.func5, Tryz.ntmps5
  go_wp2_with fail
  rw [← HW1.out]
  refine HSN.out.mono ?_
  rintro e w1 ⟨rfl, hb1⟩
  have HE : Hid (Below w.heap.size w w1) := HB1.out.trans (hb1.mono HB1.out.size)
  clear hb1 HSN
  go_wp2_with fail
  go_ret
  exact ⟨rfl, HE.out⟩

theorem jmakes_walk (p : Int) (cL ci : Nat) (wide : Int) (aL ai : Option Addr) (lys : List (List GatZ)) (inputs : List Int) (w : World) (hL : Laid w) (hT : TabAt 2 Lib.deBruijn64tab w) (hp1 : -9223372036854775808 ≤ p) (hp2 : p ≤ 9223372036854775807) (hB : CirB lys) (hl : LstGG w.heap.size w aL cL lys) (hI : InL w ai ci inputs) :
    Calls Tryz.prog 5 #[.int .i64 p, .agg #[.int .i64 wide, .slice aL lys.length cL], .slice ai inputs.length ci] w fun e w' => e = .returned (.bool true) ∧ Below w.heap.size w w' := by
  by_cases hg : GoodS p
  · obtain ⟨⟨hq3, hq4, hqp⟩, h23⟩ := hg
    obtain ⟨q, rfl⟩ := Int.eq_ofNat_of_zero_le (show 0 ≤ p by omega)
    rw [Int.toNat_natCast] at hqp
    by_cases hF : flt wide lys = 0
    · by_cases hM : inputs.length = 2 ^ wide.toNat
      · exact jmakes_yes q cL ci wide aL ai lys inputs w hL hT (by omega) (by omega) hqp hB hl hI (by unfold vle; rw [if_pos hF, if_pos hM])
      · exact jmakes_fb q cL ci wide aL ai lys inputs w hL hT (by omega) (by omega) hqp hB hl hI hF hM
    · exact jmakes_fa q cL ci wide aL ai lys inputs w hL hT (by omega) (by omega) hqp hB hl hI hF
  · exact jmakes_no p cL lys.length inputs.length ci wide aL ai w hL hg hp1 hp2

end Go.Proofs.YtpgnabmkfkcogaaGreatDoor
