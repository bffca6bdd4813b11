/- attestref6.Walk: the walk. Package machine: Walk; the document's, where the code is wrong. -/
import Derived.Test.YtaibngnabhmabajGreatDoorBtAK
import Derived.Test.YtaibngnabhmabajGreatDoorBtAN
namespace Go.Proofs.YtaibngnabhmabajGreatDoor
open Go.RowKit

set_option maxRecDepth 100000 in
set_option maxHeartbeats 4000000 in
theorem rwalk_any (p limit cL : Nat) (size : Int) (aL : Option Addr) (L : List InsZ) (w : World) (hp3 : 3 ≤ p) (hp4 : p ≤ 2147483647) (hs0 : 0 ≤ size) (hs1 : size ≤ 65536) (hn0 : 0 < L.length) (hn1 : L.length ≤ 4096) (hn2 : L.length ≤ p) (hl : limit ≤ 16384) (hB : InsB L) (hL : LstI w.heap.size w aL cL L) :
    Calls Tryz.prog 52 #[.int .i64 p, .agg #[.int .i64 size, .slice aL L.length cL], .int .i64 (limit : Int)] w (WkR w.heap.size (mwalk p size L limit) w) := by
  have HL := hid hL
  have HIB := hid hB
  obtain ⟨nL, hnL⟩ : ∃ nL, nL = L.length := ⟨_, rfl⟩
  have HNL := hid hnL
  obtain ⟨X, hX⟩ : ∃ X, X = mwalk p size L limit := ⟨_, rfl⟩
  have HX := hid hX
  rw [← hX, ← hnL]
  rw [← hnL] at hn0 hn1 hn2
  obtain ⟨W0, hW0⟩ : ∃ W0, W0 = w.alloc (.cells #[.int .i64 size, .slice aL nL cL] 47) := ⟨_, rfl⟩
  have hb0 : Below w.heap.size w W0 := by rw [hW0]; exact (Below.refl _ _).alloc (Nat.le_refl _) _
  have HC0 : Hid (W0.heap[w.heap.size]? = some (.cells #[.int .i64 size, .slice aL nL cL] 47 (0, 0))) := by unfold Hid; rw [hW0]; exact heap_alloc_new w _
  have HFT := hid (rfault6_any (p : Int) size (limit : Int) nL cL aL W0 (by omega))
  have hfz : fz6 (p : Int) size nL (limit : Int) = 0 := by unfold fz6; rw [if_neg (by omega), if_neg (by omega)]
  rw [hfz] at HFT
  obtain ⟨ap, hap⟩ : ∃ ap, ap = (1 + size) % (p : Int) := ⟨_, rfl⟩
  have HOF : Hid (∀ W : World, Calls Tryz.prog 75 #[.int .i64 p, .int .i64 (1 + size)] W fun e w' => e = .returned (.int .i64 ap) ∧ w' = W) := fun W => by rw [hap]; exact rof_any p _ W hp3 hp4 (by omega) (by omega)
  have HAP := hid hap
  have hsw : IntKind.i64.wrap (1 + size) = 1 + size := by rw [IntKind.wrap_i64]; omega
  have HB0 := hid hb0
  have x0 : W0.cell? ⟨w.heap.size, 0, none⟩ = some (.int .i64 size) := by simp [World.cell?, HC0.out]
  have x1 : W0.cell? ⟨w.heap.size, 1, none⟩ = some (.slice aL nL cL) := by simp [World.cell?, HC0.out]
  clear hL hB hnL hX hb0 hfz hap
  subst hW0
  go_enter Tryz.func52, Tryz.ntmps52
  go_wp2_with fail
  refine HFT.out.mono ?_
  rintro e w1 ⟨rfl, hb1⟩
  have HC1 := hid ((hb1.block _ (Array.getElem?_eq_some_iff.1 HC0.out).1).trans HC0.out)
  have HB1 := hid (HB0.out.trans (hb1.mono HB0.out.size))
  clear hb1 HFT HC0 HB0 x0 x1
  obtain ⟨W1, hW1⟩ : ∃ W1, W1 = w1.alloc (.cells #[.int .i64 0, .int .i64 0] 149) := ⟨_, rfl⟩
  obtain ⟨W2, hW2⟩ : ∃ W2, W2 = W1.alloc (.cells #[.int .i64 p, .slice (some ⟨w1.heap.size, 0, none⟩) 1 1, .int .i64 0, .int .i64 0, .int .i64 0, .int .i64 0, .int .i64 0, .int .i64 0, .int .i64 0, .int .i64 0, .int .i64 0, .int .i64 0, .int .i64 0, .int .i64 0] 207) := ⟨_, rfl⟩
  have b1 : Below w1.heap.size w1 W1 := by rw [hW1]; exact (Below.refl _ _).alloc (Nat.le_refl _) _
  have b2 : Below W1.heap.size W1 W2 := by rw [hW2]; exact (Below.refl _ _).alloc (Nat.le_refl _) _
  have hk1 : W2.heap[w.heap.size]? = some (.cells #[.int .i64 size, .slice aL nL cL] 47 (0, 0)) := by
    have hlt := (Array.getElem?_eq_some_iff.1 HC1.out).1
    exact (b2.block _ (Nat.lt_of_lt_of_le hlt b1.size)).trans ((b1.block _ hlt).trans HC1.out)
  have x0 : W2.cell? ⟨w.heap.size, 0, none⟩ = some (.int .i64 size) := by simp [World.cell?, hk1]
  have x1 : W2.cell? ⟨w.heap.size, 1, none⟩ = some (.slice aL nL cL) := by simp [World.cell?, hk1]
  have HK1 := hid hk1
  clear hk1
  subst hW2
  subst hW1
  go_wp2_with fail
  refine (HOF.out _).mono ?_
  rintro e w2 ⟨rfl, hw2⟩
  rw [hw2]
  clear hw2 w2
  go_wp2_with fail
  obtain ⟨V1, hV1⟩ : ∃ V1, V1 = w1.alloc (.cells #[.int .i64 0, .int .i64 0] 149) := ⟨_, rfl⟩
  obtain ⟨V2, hV2⟩ : ∃ V2, V2 = V1.alloc (.cells #[.int .i64 p, .slice (some ⟨w1.heap.size, 0, none⟩) 1 1, .int .i64 0, .int .i64 1, .int .i64 ap, .int .i64 0, .int .i64 0, .int .i64 0, .int .i64 0, .int .i64 0, .int .i64 0, .int .i64 0, .int .i64 0, .int .i64 0] 207) := ⟨_, rfl⟩
  have b1 : Below w1.heap.size w1 V1 := by rw [hV1]; exact (Below.refl _ _).alloc (Nat.le_refl _) _
  have b2 : Below V1.heap.size V1 V2 := by rw [hV2]; exact (Below.refl _ _).alloc (Nat.le_refl _) _
  have z1 : V1.heap.size = w1.heap.size + 1 := by rw [hV1]; simp
  have hwl : w.heap.size < w1.heap.size := (Array.getElem?_eq_some_iff.1 HC1.out).1
  have HS0 : Hid (WkS w.heap.size (w1.heap.size + 1) w.heap.size p (freshM [(0, 0)] ⟨0, 1, ap, 0⟩) size aL nL cL (.slice none 0 0) [] w V2) := by
    refine ⟨⟨?_, .slice (some ⟨w1.heap.size, 0, none⟩) 1 1, ?_, by simp [celv, freshM], .inr ⟨w1.heap.size, 1, #[.int .i64 0, .int .i64 0], rfl, by omega, ?_, Nat.le_refl _, by unfold maxLen; omega, rfl, by simp [celv, freshM]⟩⟩, (b2.block _ (by omega)).trans ((b1.block _ hwl).trans HC1.out), World.ownsRow_nil _ _ _ _, HB1.out.trans ((b1.mono (by omega)).trans (b2.mono (by omega))), rfl, Nat.le_refl _, by omega⟩
    · have := b2.size; omega
    · rw [← z1, hV2]
      exact row_newM V1 _ _ 14 _ rfl (fun i hi => by rcases fourteen hi with rfl | rfl | rfl | rfl | rfl | rfl | rfl | rfl | rfl | rfl | rfl | rfl | rfl | rfl <;> rfl)
    · exact (b2.block _ (by omega)).trans (by rw [hV1]; exact heap_alloc_new w1 _)
  rw [← hV1, ← hV2]
  obtain ⟨M, hM⟩ : ∃ M, M = w1.heap.size + 1 := ⟨_, rfl⟩
  obtain ⟨N, hN⟩ : ∃ N, N = w.heap.size := ⟨_, rfl⟩
  rw [← hM, ← hN] at HS0
  have HRB : Hid (RgB p ⟨0, 1, ap, 0⟩) := by
    have e := emod_bounds (1 + size) p hp3
    refine ⟨⟨?_, ?_⟩, ⟨?_, ?_⟩, ⟨?_, ?_⟩, ⟨?_, ?_⟩⟩
    · show (0 : Int) ≤ 0; omega
    · show (0 : Int) < p; omega
    · show (0 : Int) ≤ 1; omega
    · show (1 : Int) < p; omega
    · show 0 ≤ ap; rw [HAP.out]; exact e.1
    · show ap < p; rw [HAP.out]; exact e.2
    · show (0 : Int) ≤ 0; omega
    · show (0 : Int) < p; omega
  have HI0 : Hid (WkI p limit L X (freshM [(0, 0)] ⟨0, 1, ap, 0⟩) [] (limit + 1)) := by
    refine ⟨?_, by simp, by omega, fun j hj => ?_, by simp [freshM], HRB.out, rfl⟩
    · rw [HX.out, mwalk, ← HAP.out]; rfl
    · have : j = 0 := by simp [freshM] at hj; omega
      subst this
      show (0 : Int) ≤ 0 ∧ (0 : Int) < p
      omega
  rw [← hM]
  have HNN := hid hN
  have HWN : Hid (Below w.heap.size w V2) := by have := HS0.out.bel; rw [hN] at this; exact this
  clear b1 b2 z1 hwl hV1 hV2 hM HK1 x0 x1 HC1 HB1 HRB hN
  go_loopw [12] (fun lv wr => ∃ (s : RM) (l : List (List Int)) (f : Nat), lenW lv = l.length ∧ Hid (WkI p limit L X s l f ∧ WkS N M w.heap.size p s size aL nL cL lv l w wr)) (fun lv _ => limit + 1 - lenW lv)
  case atStart => exact ⟨freshM [(0, 0)] ⟨0, 1, ap, 0⟩, [], limit + 1, rfl, HI0.out, by rw [← HNN.out]; exact HS0.out⟩
  case round =>
    obtain ⟨s, l, f, hlv, hI⟩ := hrel
    obtain ⟨a, cap, hv⟩ : ∃ a c, u12 = .slice a l.length c := by
      rcases hI.out.2.stp.2 with ⟨h1, h2⟩ | ⟨g, c, cur, h1, _⟩
      · exact ⟨none, 0, by rw [h1, h2]⟩
      · exact ⟨_, _, h1⟩
    subst hv
    have HNN2 : Hid (Below w.heap.size w wr) := by have := hI.out.2.bel; rw [HNN.out] at this; exact this
    obtain ⟨nl, hnl⟩ : ∃ nl, nl = l.length := ⟨_, rfl⟩
    have HNl := hid hnl
    rw [← hnl]
    have hI2 := hI
    obtain ⟨hW, hS⟩ := hI.out
    obtain ⟨k, hk⟩ := Int.eq_ofNat_of_zero_le hW.rg.1.1
    change s.pc = (k : Int) at hk
    have hkp : k < p := by have := hW.rg.1.2; change s.pc < (p : Int) at this; omega
    have hnll : nl ≤ limit := by have := hW.fuel; have := hW.pos; omega
    have c2 := hS.mac.get.2.1
    rw [hk] at c2
    have k1 := hS.code
    have HK := hid hk
    clear hI hW hS hk hnl hlv
    by_cases hpc : nL ≤ k
    · have hpc2 : (nL : Int) ≤ (k : Int) := by omega
      have HBad : Hid (X = .bad 7) := by
        unfold Hid
        have h1 := hI2.out.1
        obtain ⟨f', hf'⟩ : ∃ f', f = f' + 1 := ⟨f - 1, by have := h1.pos; omega⟩
        rw [h1.is, hf', mgo, if_pos (by show (L.length : Int) ≤ s.pc; rw [HK.out, ← HNL.out]; omega)]
      clear hpc
      go_wp2_with fail
      go_quiet (fail)
      go_wp2_with fail
      go_ret3
      rw [HBad.out]
      exact ⟨HNN2.out.trans (belM wr nq |>.mono HNN2.out.size), rfl⟩
    · have hpc2 : ¬ (nL : Int) ≤ (k : Int) := by omega
      go_wp2_with fail
      go_quiet (fail)
      have HI3 : Hid (WkI p limit L X s l f ∧ WkS N M w.heap.size p s size aL nL cL (.slice a nl cap) l w (wr.drewN nq)) := ⟨hI2.out.1, by rw [HNl.out]; exact hI2.out.2.step (belM wr nq)⟩
      clear hI2 c2 k1 HNN2
      generalize wr.drewN nq = wq at *
      have c2 := HI3.out.2.mac.get.2.1
      rw [HK.out] at c2
      have k1 := HI3.out.2.code
      have hbl : Below w.heap.size w wq := by have := HI3.out.2.bel; rw [HNN.out] at this; exact this
      obtain ⟨bL, oL, rfl, hbL, e0, e1, e2, e3⟩ := (HL.out.below hbl).row k (by rw [← HNL.out]; omega)
      have HIk := hid (HIB.out k (by rw [← HNL.out]; omega))
      obtain ⟨o, ho⟩ : ∃ o, o = insat L k := ⟨_, rfl⟩
      rw [← ho] at e0 e1 e2 e3 HIk
      have HOk := hid ho
      obtain ⟨op, ia, ib, ic⟩ := o
      have hkn : (k : Int) < (nL : Int) := by omega
      have e0' : wq.cell? ⟨bL, oL + k * 4, none⟩ = some (.int .i64 op) := e0
      have e1' : wq.cell? ⟨bL, oL + k * 4 + 1, none⟩ = some (.int .i64 ia) := e1
      have e2' : wq.cell? ⟨bL, oL + k * 4 + 2, none⟩ = some (.int .i64 ib) := e2
      have e3' : wq.cell? ⟨bL, oL + k * 4 + 3, none⟩ = some (.int .i64 ic) := e3
      have HKP : Hid (∀ W, Below wq.heap.size wq W → W.cell? ⟨w.heap.size, 1, none⟩ = some (.slice (some ⟨bL, oL, none⟩) nL cL) ∧ W.cell? ⟨M, 2, none⟩ = some (.int .i64 (k : Int)) ∧ W.cell? ⟨bL, oL + k * 4, none⟩ = some (.int .i64 op) ∧ W.cell? ⟨bL, oL + k * 4 + 1, none⟩ = some (.int .i64 ia) ∧ W.cell? ⟨bL, oL + k * 4 + 2, none⟩ = some (.int .i64 ib) ∧ W.cell? ⟨bL, oL + k * 4 + 3, none⟩ = some (.int .i64 ic)) := fun W hb => ⟨(hb.cell (World.block_lt_of_cell? _ _ k1)).trans k1, (hb.cell (World.block_lt_of_cell? _ _ c2)).trans c2, (hb.cell (World.block_lt_of_cell? _ _ e0')).trans e0', (hb.cell (World.block_lt_of_cell? _ _ e1')).trans e1', (hb.cell (World.block_lt_of_cell? _ _ e2')).trans e2', (hb.cell (World.block_lt_of_cell? _ _ e3')).trans e3'⟩
      have hdd : Below wq.heap.size wq wq.drew := (Below.refl _ _).drew
      clear ho e0 e1 e2 e3 hbl
      go_wp2_with fail
      refine wp_region_held_drew (S := (fun W => W.cell? ⟨w.heap.size, 1, none⟩ = some (.slice (some ⟨bL, oL, none⟩) nL cL) ∧ W.cell? ⟨M, 2, none⟩ = some (.int .i64 (k : Int)) ∧ W.cell? ⟨bL, oL + k * 4, none⟩ = some (.int .i64 op) ∧ W.cell? ⟨bL, oL + k * 4 + 1, none⟩ = some (.int .i64 ia) ∧ W.cell? ⟨bL, oL + k * 4 + 2, none⟩ = some (.int .i64 ib) ∧ W.cell? ⟨bL, oL + k * 4 + 3, none⟩ = some (.int .i64 ic))) (by kernel_rfl) ⟨k1, c2, e0', e1', e2', e3'⟩ (fun hHeld => ?_)
      refine wpAnyH_takeM (i := 0) (v := .pointer (some ⟨w.heap.size, 1, none⟩)) rfl (by kernel_rfl) (by kernel_rfl) (by kernel_rfl) (fun _ _ _ h => h) (by rfl) (fun W hC => by (obtain ⟨y0, y1, y2, y3, y4, y5⟩ := hC); go_simp) hHeld ?_
      simp only [Act.put, List.setIfInBounds_toArray, List.set_cons_zero, List.set_cons_succ]
      refine wpAnyH_takeM (i := 1) (v := .slice (some ⟨bL, oL, none⟩) nL cL) rfl (by kernel_rfl) (by kernel_rfl) (by kernel_rfl) (fun _ _ _ h => h) (by rfl) (fun W hC => by (obtain ⟨y0, y1, y2, y3, y4, y5⟩ := hC); go_simp) hHeld ?_
      simp only [Act.put, List.setIfInBounds_toArray, List.set_cons_zero, List.set_cons_succ]
      refine wpAnyH_takeM (i := 2) (v := .pointer (some ⟨M, 0, none⟩)) rfl (by kernel_rfl) (by kernel_rfl) (by kernel_rfl) (fun _ _ _ h => h) (by rfl) (fun W hC => by (obtain ⟨y0, y1, y2, y3, y4, y5⟩ := hC); go_simp) hHeld ?_
      simp only [Act.put, List.setIfInBounds_toArray, List.set_cons_zero, List.set_cons_succ]
      refine wpAnyH_takeM (i := 3) (v := .pointer (some ⟨M, 0, none⟩)) rfl (by kernel_rfl) (by kernel_rfl) (by kernel_rfl) (fun _ _ _ h => h) (by rfl) (fun W hC => by (obtain ⟨y0, y1, y2, y3, y4, y5⟩ := hC); go_simp) hHeld ?_
      simp only [Act.put, List.setIfInBounds_toArray, List.set_cons_zero, List.set_cons_succ]
      refine wpAnyH_takeM (i := 4) (v := .pointer (some ⟨M, 2, none⟩)) rfl (by kernel_rfl) (by kernel_rfl) (by kernel_rfl) (fun _ _ _ h => h) (by rfl) (fun W hC => by (obtain ⟨y0, y1, y2, y3, y4, y5⟩ := hC); go_simp) hHeld ?_
      simp only [Act.put, List.setIfInBounds_toArray, List.set_cons_zero, List.set_cons_succ]
      refine wpAnyH_takeM (i := 5) (v := .pointer (some ⟨M, 2, none⟩)) rfl (by kernel_rfl) (by kernel_rfl) (by kernel_rfl) (fun _ _ _ h => h) (by rfl) (fun W hC => by (obtain ⟨y0, y1, y2, y3, y4, y5⟩ := hC); go_simp) hHeld ?_
      simp only [Act.put, List.setIfInBounds_toArray, List.set_cons_zero, List.set_cons_succ]
      refine wpAnyH_takeM (i := 6) (v := .int .i64 (k : Int)) rfl (by kernel_rfl) (by kernel_rfl) (by kernel_rfl) (fun _ _ _ h => h) (by rfl) (fun W hC => by (obtain ⟨y0, y1, y2, y3, y4, y5⟩ := hC); go_simp) hHeld ?_
      simp only [Act.put, List.setIfInBounds_toArray, List.set_cons_zero, List.set_cons_succ]
      refine wpAnyH_takeM (i := 7) (v := .pointer (some ⟨bL, oL + k * 4, none⟩)) rfl (by kernel_rfl) (by kernel_rfl) (by kernel_rfl) (fun _ _ _ h => h) (by rfl) (fun W hC => by (obtain ⟨y0, y1, y2, y3, y4, y5⟩ := hC); go_simp) hHeld ?_
      simp only [Act.put, List.setIfInBounds_toArray, List.set_cons_zero, List.set_cons_succ]
      refine wpAnyH_takeM (i := 8) (v := .agg #[.int .i64 op, .int .i64 ia, .int .i64 ib, .int .i64 ic]) rfl (by kernel_rfl) (by kernel_rfl) (by kernel_rfl) (fun _ _ _ h => h) (by rfl) (fun W hC => by (obtain ⟨y0, y1, y2, y3, y4, y5⟩ := hC); go_simp) hHeld ?_
      simp only [Act.put, List.setIfInBounds_toArray, List.set_cons_zero, List.set_cons_succ]
      refine wpAnyH_ready (rs := [9]) (by kernel_rfl) (by simp) ?_
      refine AllReadyH.consM rfl (fun K hK => ?_) AllReadyH.nil
      go_simp
      refine hK.out _ _ (HKP.out _ (hdd.alloc (Nat.le_refl _) _)) (fun hHeld => ?_)
      clear hK K
      refine wpAnyH_ready (rs := [10]) (by kernel_rfl) (by simp) ?_
      refine AllReadyH.consM rfl (fun K hK => ?_) AllReadyH.nil
      go_simp
      refine hK.out _ _ (HKP.out _ (hdd.alloc (Nat.le_refl _) _)) (fun hHeld => ?_)
      clear hK K
      refine wpAnyH_done (by kernel_rfl) ?_ _
      have hbI : Below wq.heap.size wq ((wq.alloc (.cells #[.int .i64 op, .int .i64 ia, .int .i64 ib, .int .i64 ic] 52)).drew) := ((Below.refl _ _).alloc (Nat.le_refl _) _).drew
      have HIN : Hid ((wq.alloc (.cells #[.int .i64 op, .int .i64 ia, .int .i64 ib, .int .i64 ic] 52)).drew.heap[wq.heap.size]? = some (.cells #[.int .i64 op, .int .i64 ia, .int .i64 ib, .int .i64 ic] 52 (0, 0))) := heap_alloc_new wq _
      have HI4 : Hid (WkI p limit L X s l f ∧ WkS N M w.heap.size p s size (some ⟨bL, oL, none⟩) nL cL (.slice a nl cap) l w ((wq.alloc (.cells #[.int .i64 op, .int .i64 ia, .int .i64 ib, .int .i64 ic] 52)).drew)) := ⟨HI3.out.1, HI3.out.2.step hbI⟩
      clear hHeld HKP hdd hbI HI3 c2 k1 e0' e1' e2' e3'
      generalize (wq.alloc (.cells #[.int .i64 op, .int .i64 ia, .int .i64 ib, .int .i64 ic] 52)).drew = wi at *
      generalize wq.heap.size = G at *
      have g0 := fourM0 HIN.out
      have g1 := fourM1 HIN.out
      have g2 := fourM2 HIN.out
      have g3 := fourM3 HIN.out
      by_cases hlim : nl = limit ∧ op ≠ 0
      · have hb1 : ((nl : Int) == (limit : Int)) = true := by rw [hlim.1]; simp
        have hb2 : (op != 0) = true := by simp [hlim.2]
        have HBad : Hid (X = .bad 8) := by
          unfold Hid
          have h1 := HI4.out.1
          obtain ⟨f', hf'⟩ : ∃ f', f = f' + 1 := ⟨f - 1, by have := h1.pos; omega⟩
          have hpk : s.pc.toNat = k := by rw [HK.out]; rfl
          rw [h1.is, hf', mgo, if_neg (by show ¬ (L.length : Int) ≤ s.pc; rw [HK.out, ← HNL.out]; omega), if_pos ⟨by rw [← HNl.out]; exact hlim.1, by show (insat L s.pc.toNat).op ≠ 0; rw [hpk, ← HOk.out]; exact hlim.2⟩]
        have HBE : Hid (Below w.heap.size w wi) := by have := HI4.out.2.bel; rw [HNN.out] at this; exact this
        clear hlim HI4 HIN
        go_wp2_with fail
        go_ret3
        rw [HBad.out]
        exact ⟨HBE.out, rfl⟩
      · have HLim := hid hlim
        obtain ⟨s0, hs0⟩ : ∃ s0 : RM, s0 = { s with slot := 0 } := ⟨_, rfl⟩
        have HS0' := hid hs0
        have hHM : wi.rowIs M 207 14 (rmv p HI4.out.2.mac.2.choose s) := HI4.out.2.mac.2.choose_spec.1
        obtain ⟨vm, hvm, hcm⟩ := HI4.out.2.mac.2
        have hfm := hvm.frozen
        have hc12 : wi.cell? ⟨M, 12, none⟩ = some (.int .i64 (s.slot : Int)) := hvm.cell (i := 12) (by decide)
        have HGM : Hid (wi.grownBy (wi.setCell ⟨M, 12, none⟩ (.int .i64 0)) (some M)) := gbM (gb_same wi M)
        have HMM : Hid (MacAt M N p s0 (wi.setCell ⟨M, 12, none⟩ (.int .i64 0)) ∧ FrM N wi (wi.setCell ⟨M, 12, none⟩ (.int .i64 0))) := ⟨⟨by have := HI4.out.2.mac.1; simpa [World.setCell] using this, vm, by rw [hs0]; exact (hvm.set 12 _).congr (rmv_slot p vm s 0), by rw [hs0]; exact hcm.kept hvm HGM.out⟩, FrM.gb HGM.out HI4.out.2.hM hvm⟩
        have HI5 : Hid (WkS N M w.heap.size p s0 size (some ⟨bL, oL, none⟩) nL cL (.slice a nl cap) l w (wi.setCell ⟨M, 12, none⟩ (.int .i64 0))) := HI4.out.2.fr HMM.out.1 HMM.out.2
        have HW5 := hid HI4.out.1
        have HIN5 := hid ((HMM.out.2.2.2 _ _ _ _ HIN.out (by decide) (by decide)).trans HIN.out)
        have HDP : Hid (DoP N M N p s0 (wi.setCell ⟨M, 12, none⟩ (.int .i64 0))) := by
          have h1 := HI4.out.1
          exact ⟨HMM.out.1, HI4.out.2.hM, Nat.le_refl _, hp3, hp4, by rw [hs0]; exact h1.rg.1, by rw [hs0]; exact h1.rg.2.1, by rw [hs0]; exact h1.rg.2.2.1, by rw [hs0]; exact h1.rg.2.2.2, by rw [hs0]; exact h1.cs, by rw [hs0]; have h2 := h1.len; have h3 := h1.fuel; show s.cs.length ≤ 900000; omega, by rw [hs0], by rw [hs0]; exact h1.err⟩
        have HDO := hid (rdo_any N M N p s0 op ia ib ic (wi.setCell ⟨M, 12, none⟩ (.int .i64 0)) HDP.out HIk.out.2.1.1 HIk.out.2.1.2 HIk.out.2.2.1.1 HIk.out.2.2.1.2 HIk.out.2.2.2.1 HIk.out.2.2.2.2)
        have q0 := fourM0 HIN5.out
        have q1 := fourM1 HIN5.out
        have q2 := fourM2 HIN5.out
        have q3 := fourM3 HIN5.out
        have hor : ((nl : Int) == (limit : Int)) = false ∨ (((nl : Int) == (limit : Int)) = true ∧ (op != 0) = false) := by
          by_cases h1 : nl = limit
          · refine .inr ⟨by rw [h1]; simp, ?_⟩
            have : op = 0 := Decidable.byContradiction fun h => hlim ⟨h1, h⟩
            simp [this]
          · exact .inl (by rw [beq_eq_false_iff_ne]; omega)
        clear hlim hs0 hHM hvm hcm HGM HMM HI4 HIN HDP
        rcases hor with hb1 | ⟨hb1, hb2⟩
        all_goals
          go_wp2_with fail
          refine HDO.out.mono ?_
          rintro e wd ⟨rfl, hmd, hfd⟩
          obtain ⟨s1, hs1⟩ : ∃ s1, s1 = (s0.step p op ia ib ic).1 := ⟨_, rfl⟩
          obtain ⟨n1, hn1'⟩ : ∃ n1, n1 = (s0.step p op ia ib ic).2 := ⟨_, rfl⟩
          rw [← hs1] at hmd
          rw [← hn1']
          have HST : Hid (SOk p (s.cs.length + 2) 3 s1 ∧ RgB p n1) := by
            unfold Hid
            rw [hs1, hn1']
            refine step_ok hp3 ?_ ?_ op ia ib ic
            · rw [HS0'.out]; exact ⟨HW5.out.cs, Nat.le_refl _, fun _ => Nat.le_refl _⟩
            · rw [HS0'.out]; exact HW5.out.rg
          have HR1 := hid (⟨hs1, hn1'⟩ : s1 = (s0.step p op ia ib ic).1 ∧ n1 = (s0.step p op ia ib ic).2)
          have HI6 := hid (HI5.out.fr hmd hfd)
          have HN06 : Hid (N ≤ wd.heap.size ∧ N ≤ M ∧ M < wd.heap.size) := ⟨HI6.out.mac.1, HI6.out.hM, World.block_lt_of_cell? _ _ HI6.out.mac.get.2.1⟩
          have HIN6 := hid ((hfd.2.2 _ _ _ _ HIN5.out (by decide) (by decide)).trans HIN5.out)
          have HOB : Hid (∀ g, (Value.slice a nl cap).ownBlock = some g → N ≤ g ∧ g < wd.heap.size ∧ ∃ cs, wd.heap[g]? = some (.cells cs 135 (0, 0))) := fun g hg => by
            rcases HI6.out.stp.2 with ⟨h1, _⟩ | ⟨g', cap', cur, h1, hb, hgb, _⟩
            · rw [h1] at hg; cases hg
            · rw [h1] at hg
              cases hg
              exact ⟨hb, (Array.getElem?_eq_some_iff.1 hgb).1, cur, hgb⟩
          obtain ⟨npc, nfp, nap, nrv⟩ := n1
          obtain ⟨y0, hy0⟩ : ∃ y, y = s0.at' 0 := ⟨_, rfl⟩
          obtain ⟨y1, hy1⟩ : ∃ y, y = s0.at' 1 := ⟨_, rfl⟩
          obtain ⟨y2, hy2⟩ : ∃ y, y = s0.at' 2 := ⟨_, rfl⟩
          obtain ⟨y3, hy3⟩ : ∃ y, y = s0.is' 0 := ⟨_, rfl⟩
          obtain ⟨y4, hy4⟩ : ∃ y, y = s0.is' 1 := ⟨_, rfl⟩
          obtain ⟨y5, hy5⟩ : ∃ y, y = s0.is' 2 := ⟨_, rfl⟩
          rw [← hy0, ← hy1, ← hy2, ← hy3, ← hy4, ← hy5]
          have hba : Below wd.heap.size wd (wd.alloc (.cells #[.int .i64 npc, .int .i64 nfp, .int .i64 nap, .int .i64 nrv, .int .i64 y0, .int .i64 y1, .int .i64 y2, .int .i64 y3, .int .i64 y4, .int .i64 y5] 135)) := (Below.refl _ _).alloc (Nat.le_refl _) _
          have HI7 := hid (HI6.out.step hba)
          have HIN7 := hid ((hba.block _ (Array.getElem?_eq_some_iff.1 HIN6.out).1).trans HIN6.out)
          have HT7 : Hid ((wd.alloc (.cells #[.int .i64 npc, .int .i64 nfp, .int .i64 nap, .int .i64 nrv, .int .i64 y0, .int .i64 y1, .int .i64 y2, .int .i64 y3, .int .i64 y4, .int .i64 y5] 135)).heap[wd.heap.size]? = some (.cells #[.int .i64 npc, .int .i64 nfp, .int .i64 nap, .int .i64 nrv, .int .i64 y0, .int .i64 y1, .int .i64 y2, .int .i64 y3, .int .i64 y4, .int .i64 y5] 135 (0, 0))) := heap_alloc_new wd _
          have c13 := HI7.out.mac.get.2.2.2.2.2.1
          obtain ⟨er, her⟩ : ∃ er, er = s1.err := ⟨_, rfl⟩
          rw [← her] at c13
          have HER := hid her
          have HPK : Hid (s.pc.toNat = k ∧ ({ s with slot := 0 } : RM).pc.toNat = k) := by unfold Hid; constructor <;> (show s.pc.toNat = k; rw [HK.out]; rfl)
          have HXX : Hid (∃ f', f = f' + 1 ∧ X = if s1.err ≠ 0 then .bad s1.err else if op = 0 then .good (l ++ [s1.now]) s1.cs else mgo p L limit f' (freshM s1.cs ⟨npc, nfp, nap, nrv⟩) (l ++ [s1.now])) := by
            have h1 := HW5.out
            refine ⟨f - 1, by have := h1.pos; omega, ?_⟩
            obtain ⟨f', hf'⟩ : ∃ f', f = f' + 1 := ⟨f - 1, by have := h1.pos; omega⟩
            have hp0 : ({ s with slot := 0 } : RM).pc = s.pc := rfl
            rw [h1.is, hf', mgo, if_neg (by rw [hp0, HK.out, ← HNL.out]; omega), if_neg (by rw [HPK.out.2, ← HOk.out, ← HNl.out]; exact HLim.out), HPK.out.2, ← HOk.out, ← HS0'.out]
            show (if (s0.step p op ia ib ic).1.err ≠ 0 then _ else _) = _
            rw [← HR1.out.1, ← HR1.out.2, Nat.add_sub_cancel]
          clear hmd hfd HDO HI5 HI6 HIN5 HIN6 q0 q1 q2 q3 hba hs1 hn1' her hy0 hy1 hy2 hy3 hy4 hy5 g0 g1 g2 g3
          by_cases he0 : er = 0
          · subst he0
            have HN0 := hid HN06.out
            obtain ⟨vm1, hvm1, hcm1⟩ := HI7.out.mac.2
            obtain ⟨z0, hz0'⟩ : ∃ z, z = s1.pc := ⟨_, rfl⟩
            obtain ⟨z1, hz1'⟩ : ∃ z, z = s1.fp := ⟨_, rfl⟩
            obtain ⟨z2, hz2'⟩ : ∃ z, z = s1.ap := ⟨_, rfl⟩
            obtain ⟨z3, hz3'⟩ : ∃ z, z = s1.rv := ⟨_, rfl⟩
            obtain ⟨z4, hz4'⟩ : ∃ z, z = s1.at' 0 := ⟨_, rfl⟩
            obtain ⟨z5, hz5'⟩ : ∃ z, z = s1.at' 1 := ⟨_, rfl⟩
            obtain ⟨z6, hz6'⟩ : ∃ z, z = s1.at' 2 := ⟨_, rfl⟩
            obtain ⟨z7, hz7'⟩ : ∃ z, z = s1.is' 0 := ⟨_, rfl⟩
            obtain ⟨z8, hz8'⟩ : ∃ z, z = s1.is' 1 := ⟨_, rfl⟩
            obtain ⟨z9, hz9'⟩ : ∃ z, z = s1.is' 2 := ⟨_, rfl⟩
            have HNOW : Hid (s1.now = [z0, z1, z2, z3, z4, z5, z6, z7, z8, z9]) := by unfold Hid; rw [hz0', hz1', hz2', hz3', hz4', hz5', hz6', hz7', hz8', hz9']; rfl
            have m2 : (wd.alloc (.cells #[.int .i64 npc, .int .i64 nfp, .int .i64 nap, .int .i64 nrv, .int .i64 y0, .int .i64 y1, .int .i64 y2, .int .i64 y3, .int .i64 y4, .int .i64 y5] 135)).cell? ⟨M, 2, none⟩ = some (.int .i64 z0) := by rw [hz0']; exact hvm1.cell (i := 2) (by decide)
            have m3 : (wd.alloc (.cells #[.int .i64 npc, .int .i64 nfp, .int .i64 nap, .int .i64 nrv, .int .i64 y0, .int .i64 y1, .int .i64 y2, .int .i64 y3, .int .i64 y4, .int .i64 y5] 135)).cell? ⟨M, 3, none⟩ = some (.int .i64 z1) := by rw [hz1']; exact hvm1.cell (i := 3) (by decide)
            have m4 : (wd.alloc (.cells #[.int .i64 npc, .int .i64 nfp, .int .i64 nap, .int .i64 nrv, .int .i64 y0, .int .i64 y1, .int .i64 y2, .int .i64 y3, .int .i64 y4, .int .i64 y5] 135)).cell? ⟨M, 4, none⟩ = some (.int .i64 z2) := by rw [hz2']; exact hvm1.cell (i := 4) (by decide)
            have m5 : (wd.alloc (.cells #[.int .i64 npc, .int .i64 nfp, .int .i64 nap, .int .i64 nrv, .int .i64 y0, .int .i64 y1, .int .i64 y2, .int .i64 y3, .int .i64 y4, .int .i64 y5] 135)).cell? ⟨M, 5, none⟩ = some (.int .i64 z3) := by rw [hz3']; exact hvm1.cell (i := 5) (by decide)
            have m6 : (wd.alloc (.cells #[.int .i64 npc, .int .i64 nfp, .int .i64 nap, .int .i64 nrv, .int .i64 y0, .int .i64 y1, .int .i64 y2, .int .i64 y3, .int .i64 y4, .int .i64 y5] 135)).cell? ⟨M, 6, none⟩ = some (.int .i64 z4) := by rw [hz4']; exact hvm1.cell (i := 6) (by decide)
            have m7 : (wd.alloc (.cells #[.int .i64 npc, .int .i64 nfp, .int .i64 nap, .int .i64 nrv, .int .i64 y0, .int .i64 y1, .int .i64 y2, .int .i64 y3, .int .i64 y4, .int .i64 y5] 135)).cell? ⟨M, 7, none⟩ = some (.int .i64 z5) := by rw [hz5']; exact hvm1.cell (i := 7) (by decide)
            have m8 : (wd.alloc (.cells #[.int .i64 npc, .int .i64 nfp, .int .i64 nap, .int .i64 nrv, .int .i64 y0, .int .i64 y1, .int .i64 y2, .int .i64 y3, .int .i64 y4, .int .i64 y5] 135)).cell? ⟨M, 8, none⟩ = some (.int .i64 z6) := by rw [hz6']; exact hvm1.cell (i := 8) (by decide)
            have m9 : (wd.alloc (.cells #[.int .i64 npc, .int .i64 nfp, .int .i64 nap, .int .i64 nrv, .int .i64 y0, .int .i64 y1, .int .i64 y2, .int .i64 y3, .int .i64 y4, .int .i64 y5] 135)).cell? ⟨M, 9, none⟩ = some (.int .i64 z7) := by rw [hz7']; exact hvm1.cell (i := 9) (by decide)
            have m10 : (wd.alloc (.cells #[.int .i64 npc, .int .i64 nfp, .int .i64 nap, .int .i64 nrv, .int .i64 y0, .int .i64 y1, .int .i64 y2, .int .i64 y3, .int .i64 y4, .int .i64 y5] 135)).cell? ⟨M, 10, none⟩ = some (.int .i64 z8) := by rw [hz8']; exact hvm1.cell (i := 10) (by decide)
            have m11 : (wd.alloc (.cells #[.int .i64 npc, .int .i64 nfp, .int .i64 nap, .int .i64 nrv, .int .i64 y0, .int .i64 y1, .int .i64 y2, .int .i64 y3, .int .i64 y4, .int .i64 y5] 135)).cell? ⟨M, 11, none⟩ = some (.int .i64 z9) := by rw [hz9']; exact hvm1.cell (i := 11) (by decide)
            have HNL9 : Hid (nl ≤ 20000) := by unfold Hid; omega
            have HO2 : Hid (StR N (wd.alloc (.cells #[.int .i64 npc, .int .i64 nfp, .int .i64 nap, .int .i64 nrv, .int .i64 y0, .int .i64 y1, .int .i64 y2, .int .i64 y3, .int .i64 y4, .int .i64 y5] 135)) (.slice a nl cap) l) := HI7.out.stp
            clear hz0' hz1' hz2' hz3' hz4' hz5' hz6' hz7' hz8' hz9' hvm1 hcm1
            go_wp2_with (at_builtin; refine wpList_stp _ rfl _ _ rfl _ N l z0 z1 z2 z3 z4 z5 z6 z7 z8 z9 HO2.out rfl ?_ (by rw [← HNl.out]; exact HNL9.out) ?_ ?_)
            · rw [show (wd.alloc (.cells #[.int .i64 npc, .int .i64 nfp, .int .i64 nap, .int .i64 nrv, .int .i64 y0, .int .i64 y1, .int .i64 y2, .int .i64 y3, .int .i64 y4, .int .i64 y5] 135)).heap.size = wd.heap.size + 1 by simp]
              rfl
            · have := HN0.out.1
              simp
              omega
            intro v2 w2 hst2 hb2 hgb2
            have hK7 : ∀ (b : Nat) (c : Array Value) (t : TypeId) (f : Nat × Nat), (wd.alloc (.cells #[.int .i64 npc, .int .i64 nfp, .int .i64 nap, .int .i64 nrv, .int .i64 y0, .int .i64 y1, .int .i64 y2, .int .i64 y3, .int .i64 y4, .int .i64 y5] 135)).heap[b]? = some (.cells c t f) → (t ≠ 135 ∨ b = wd.heap.size) → w2.heap[b]? = (wd.alloc (.cells #[.int .i64 npc, .int .i64 nfp, .int .i64 nap, .int .i64 nrv, .int .i64 y0, .int .i64 y1, .int .i64 y2, .int .i64 y3, .int .i64 y4, .int .i64 y5] 135)).heap[b]? := fun b c t f hb ht => by
              refine hgb2.block b (Array.getElem?_eq_some_iff.1 hb).1 (fun hg => ?_)
              obtain ⟨g1, g2, cs', g3⟩ := HOB.out b hg.symm
              rcases ht with ht | ht
              · rw [heap_alloc_old _ _ g2, g3] at hb
                injection hb with hb
                injection hb with _ h2 _
                exact ht h2.symm
              · omega
            have HM2 : Hid (MacAt M N p s1 w2) := HI7.out.mac.blocks hgb2.size (fun b c t f hb ht => hK7 b c t f hb (.inl ht))
            have HC2 := hid ((hK7 _ _ _ _ HI7.out.cod (.inl (by decide))).trans HI7.out.cod)
            have HIN8 := hid ((hK7 _ _ _ _ HIN7.out (.inl (by decide))).trans HIN7.out)
            have HT8 := hid ((hK7 _ _ _ _ HT7.out (.inr rfl)).trans HT7.out)
            have HS2 : Hid (StR N w2 v2 (l ++ [s1.now])) := by rw [HNOW.out]; exact hst2
            have HB2 : Hid (Below N w w2) := HI7.out.bel.trans hb2
            have HHM := hid HI7.out.hM
            have HHK := hid HI7.out.hK
            have g0 := fourM0 HIN8.out
            clear hst2 hb2 hgb2 hK7 m2 m3 m4 m5 m6 m7 m8 m9 m10 m11 c13 HI7 HIN7 HT7 HO2 HN06 HOB HNL9
            by_cases hop : op = 0
            · subst hop
              obtain ⟨vm2, hvm2, hcm2⟩ := HM2.out.2
              have hc1 : w2.cell? ⟨M, 1, none⟩ = some vm2 := hvm2.cell (i := 1) (by decide)
              have HEND : Hid (∀ nq, WkR w.heap.size X w (.returned (.tuple #[v2, vm2, .int .i64 0])) (w2.drewN nq)) := fun nq => by
                obtain ⟨f', _, h2⟩ := HXX.out
                have hbn := HB2.out.trans ((belM w2 nq).mono HM2.out.1)
                rw [h2, if_neg (by rw [← HER.out]; exact fun h => h rfl), if_pos rfl, ← HNN.out]
                refine ⟨by rw [← HNN.out]; exact hbn, v2, vm2, rfl, World.ownsRow.kept HS2.out (gb_noneM (belM w2 nq)) ?_, World.ownsRow.kept hcm2 (gb_noneM (belM w2 nq)) ?_⟩
                · cases Value.ownBlock v2 with
                  | none => exact .inl rfl
                  | some k => exact .inr (by simp)
                · cases Value.ownBlock vm2 with
                  | none => exact .inl rfl
                  | some k => exact .inr (by simp)
              clear HXX hvm2 hcm2 HM2 HS2 HB2 HT8 HIN8 HC2
              go_wp2_with fail
              go_quiet (fail)
              go_wp2_with fail
              go_ret3
              exact HEND.out _
            · have hop2 : (op == 0) = false := by simp [hop]
              have t0 : w2.cell? ⟨wd.heap.size, 0, none⟩ = some (.int .i64 npc) := by simp [World.cell?, HT8.out]
              have t1 : w2.cell? ⟨wd.heap.size, 1, none⟩ = some (.int .i64 nfp) := by simp [World.cell?, HT8.out]
              have t2 : w2.cell? ⟨wd.heap.size, 2, none⟩ = some (.int .i64 nap) := by simp [World.cell?, HT8.out]
              have t3 : w2.cell? ⟨wd.heap.size, 3, none⟩ = some (.int .i64 nrv) := by simp [World.cell?, HT8.out]
              obtain ⟨vm2, hvm2, hcm2⟩ := HM2.out.2
              have hfr := hvm2.frozen
              have u2 := hvm2.cell (i := 2) (by decide)
              have u3 := hvm2.cell (i := 3) (by decide)
              have u4 := hvm2.cell (i := 4) (by decide)
              have u5 := hvm2.cell (i := 5) (by decide)
              have u6' := hvm2.cell (i := 6) (by decide)
              have u7' := hvm2.cell (i := 7) (by decide)
              have u8' := hvm2.cell (i := 8) (by decide)
              have u9' := hvm2.cell (i := 9) (by decide)
              have u10' := hvm2.cell (i := 10) (by decide)
              have u11' := hvm2.cell (i := 11) (by decide)
              simp only [rmv] at u2 u3 u4 u5 u6' u7' u8' u9' u10' u11'
              go_wp2_with fail
              have hlv2 : lenW v2 = (l ++ [s1.now]).length := by
                rcases HS2.out.2 with ⟨h1, h2⟩ | ⟨g, c, cur, h1, _⟩
                · rw [h1, h2]; rfl
                · rw [h1]; rfl
              obtain ⟨f', hff, h2⟩ := HXX.out
              have he1 : s1.err = 0 := HER.out.symm
              have hlt : nl < limit := by
                have h3 := HLim.out
                have h4 : nl ≠ limit := fun h => h3 ⟨h, hop⟩
                omega
              have hfu := HW5.out.fuel
              have hln := HW5.out.len
              have hnl' := HNl.out
              have hst := HST.out.1
              have hrow := putNow_row hvm2 ⟨npc, nfp, nap, nrv⟩
              rw [he1] at hrow
              have hKM : w.heap.size ≠ M := by
                rintro h
                obtain ⟨cs, hc, _⟩ := hvm2
                have h3 := HC2.out
                rw [h, hc] at h3
                injection h3 with h3
                injection h3 with _ h3 _
                exact absurd h3 (by decide)
              refine ⟨⟨{ freshM s1.cs ⟨npc, nfp, nap, nrv⟩ with slot := s1.slot, err := 0 }, l ++ [s1.now], f', hlv2, ⟨?_, ?_, ?_, hst.1, ?_, HST.out.2, rfl⟩, ⟨⟨?_, vm2, hrow, hcm2.kept hvm2 (putNow_gb w2 M npc nfp nap nrv)⟩, (putNow_oth w2 M npc nfp nap nrv _ hKM).trans HC2.out, ⟨HS2.out.1, ?_⟩, HB2.out.trans (gb_toM (putNow_gb w2 M npc nfp nap nrv) HHM.out HM2.out.1), HNN.out.symm, HHK.out, HHM.out⟩⟩, ?_⟩
              · rw [h2, if_neg (by rw [he1]; exact fun h => h rfl), if_neg hop]
                rfl
              · rw [List.length_append]; simp; omega
              · omega
              · rw [List.length_append]
                have := hst.2.1
                show s1.cs.length ≤ _
                simp
                omega
              · exact Nat.le_trans HM2.out.1 (putNow_gb w2 M npc nfp nap nrv).size
              · rcases HS2.out.2 with hn | ⟨g, cap', cur, hv2, hb', hg, rest⟩
                · exact .inl hn
                · refine .inr ⟨g, cap', cur, hv2, hb', (putNow_oth w2 M npc nfp nap nrv _ ?_).trans hg, rest⟩
                  rintro rfl
                  obtain ⟨cs, hc, _⟩ := hvm2
                  rw [hc] at hg
                  injection hg with hg
                  injection hg with _ h3 _
                  exact absurd h3 (by decide)
              · rw [hlv2, List.length_append]
                show _ < limit + 1 - nl
                simp
                omega
          · have hen : (er != 0) = true := by simp [he0]
            have HBad : Hid (X = .bad er) := by
              obtain ⟨f', _, h2⟩ := HXX.out
              unfold Hid
              rw [h2, if_pos (by rw [← HER.out]; exact he0), ← HER.out]
            have HBE : Hid (Below w.heap.size w (wd.alloc (.cells #[.int .i64 npc, .int .i64 nfp, .int .i64 nap, .int .i64 nrv, .int .i64 y0, .int .i64 y1, .int .i64 y2, .int .i64 y3, .int .i64 y4, .int .i64 y5] 135))) := by have := HI7.out.bel; rw [HNN.out] at this; exact this
            clear he0 HI7 HIN7 HT7 HXX
            go_wp2_with fail
            go_quiet (fail)
            go_wp2_with fail
            go_ret3
            rw [HBad.out]
            exact ⟨HBE.out.trans ((belM _ nq).mono HBE.out.size), rfl⟩

end Go.Proofs.YtaibngnabhmabajGreatDoor

namespace Go.Proofs.YtaibngnabhmabajGreatDoor
open Go.RowKit Go.Maps

/-- what Walk gives -/
def WlR (p : Nat) (size : Int) (L : List InsZ) (limit : Int) (w : World) (e : Ending) (w' : World) : Prop := Below w.heap.size w w' ∧
  if fz6 (p : Int) size L.length limit ≠ 0 then e = .returned (.tuple #[.slice none 0 0, errV (fz6 (p : Int) size L.length limit)])
  else match mwalk p size L limit.toNat with
    | .bad z => e = .returned (.tuple #[.slice none 0 0, errV z])
    | .good l _ => ∃ v, e = .returned (.tuple #[v, .nilIface]) ∧ StR w.heap.size w' v l

theorem StR.mono {base base' : Nat} {w : World} {v : Value} {l : List (List Int)} (h : StR base w v l) (e : base' ≤ base) : StR base' w v l := by
  refine ⟨h.1, ?_⟩
  rcases h.2 with hn | ⟨g, cap, cur, h1, hb, rest⟩
  · exact .inl hn
  · exact .inr ⟨g, cap, cur, h1, Nat.le_trans e hb, rest⟩
theorem wdR_wlR {p : Nat} {size : Int} {L : List InsZ} {limit : Int} {w W W' : World} {e : Ending} (hb : Below w.heap.size w W) (h : WdR p size L limit W e W') : ∃ v1 v2 v3, e = .returned (.tuple #[v1, v2, v3]) ∧ WlR p size L limit w (.returned (.tuple #[v1, v3])) W' := by
  obtain ⟨h1, h2⟩ := h
  have hbb := hb.trans (h1.mono hb.size)
  by_cases hz : fz6 (p : Int) size L.length limit ≠ 0
  · rw [if_pos hz] at h2
    exact ⟨_, _, _, h2, hbb, by rw [if_pos hz]⟩
  · rw [if_neg hz] at h2
    cases hX : mwalk p size L limit.toNat with
    | bad z =>
      rw [hX] at h2
      exact ⟨_, _, _, h2, hbb, by rw [if_neg hz, hX]⟩
    | good l cs =>
      rw [hX] at h2
      obtain ⟨v, B, h3, h4, _⟩ := h2
      exact ⟨_, _, _, h3, hbb, by rw [if_neg hz, hX]; exact ⟨v, rfl, h4.mono hb.size⟩⟩

set_option maxRecDepth 100000 in
set_option maxHeartbeats 1000000 in
theorem pwalk_of (p b : Nat) (size limit : Int) (aL : Option Addr) (cL : Nat) (L : List InsZ) (w : World) (h : ∀ W, Below w.heap.size w W → Calls Tryz.prog 46 #[.pointer (some ⟨b, 0, none⟩), .agg #[.int .i64 size, .slice aL L.length cL], .int .i64 limit] W (WdR p size L limit W)) :
    Calls Tryz.prog 48 #[.pointer (some ⟨b, 0, none⟩), .agg #[.int .i64 size, .slice aL L.length cL], .int .i64 limit] w (WlR p size L limit w) := by
  have HH := hid h
  obtain ⟨nL, hnL⟩ : ∃ nL, nL = L.length := ⟨_, rfl⟩
  rw [← hnL] at HH ⊢
  clear h hnL
  go_enter Tryz.func48, Tryz.ntmps48
  go_wp2_with fail
  refine (HH.out _ ((Below.refl _ _).alloc (Nat.le_refl _) _)).mono ?_
  rintro e w1 hr1
  obtain ⟨v1, v2, v3, rfl, hE⟩ := wdR_wlR ((Below.refl w.heap.size w).alloc (Nat.le_refl _) _) hr1
  have HE := hid hE
  clear hr1 hE HH
  go_wp2_with fail
  go_ret2
  exact HE.out
/-- whatever the code and the limit -/
theorem pwalked_any (p b : Nat) (size limit : Int) (aL : Option Addr) (cL : Nat) (L : List InsZ) (w : World) (h3 : 3 ≤ p) (h4 : p ≤ 2147483647) (hpr : Num.Prime p) (hp : w.cell? ⟨b, 0, none⟩ = some (.int .i64 p)) (hn : L.length ≤ 281474976710656) (hL : LstI w.heap.size w aL cL L) (hIB : InsB L) :
    Calls Tryz.prog 46 #[.pointer (some ⟨b, 0, none⟩), .agg #[.int .i64 size, .slice aL L.length cL], .int .i64 limit] w (WdR p size L limit w) := by
  by_cases hz : fz6 (p : Int) size L.length limit = 0
  · have hl : 0 ≤ limit := by
      unfold fz6 at hz
      split at hz
      · omega
      · split at hz <;> omega
    obtain ⟨m, rfl⟩ := Int.eq_ofNat_of_zero_le hl
    exact pwalked_good p b size m aL cL L w h3 h4 hpr hp hz hL hIB
  · exact pwalked_bad p b size limit aL cL L w hp hn hz
theorem pwalk_any (p b : Nat) (size limit : Int) (aL : Option Addr) (cL : Nat) (L : List InsZ) (w : World) (h3 : 3 ≤ p) (h4 : p ≤ 2147483647) (hpr : Num.Prime p) (hp : w.cell? ⟨b, 0, none⟩ = some (.int .i64 p)) (hn : L.length ≤ 281474976710656) (hL : LstI w.heap.size w aL cL L) (hIB : InsB L) :
    Calls Tryz.prog 48 #[.pointer (some ⟨b, 0, none⟩), .agg #[.int .i64 size, .slice aL L.length cL], .int .i64 limit] w (WlR p size L limit w) :=
  pwalk_of p b size limit aL cL L w (fun W hb => pwalked_any p b size limit aL cL L W h3 h4 hpr ((hb.cell (p := ⟨b, 0, none⟩) (World.block_lt_of_cell? _ _ hp)).trans hp) hn ((hL.below hb).mono hb.size) hIB)

set_option maxRecDepth 100000 in
set_option maxHeartbeats 1000000 in
theorem rwalk_bad (p : Nat) (size limit : Int) (aL : Option Addr) (nL cL : Nat) (w : World) (hn : nL ≤ 281474976710656) (hz : fz6 (p : Int) size nL limit ≠ 0) :
    Calls Tryz.prog 52 #[.int .i64 p, .agg #[.int .i64 size, .slice aL nL cL], .int .i64 limit] w fun e w' => e = .returned (.tuple #[.slice none 0 0, .slice none 0 0, .int .i64 (fz6 (p : Int) size nL limit)]) ∧ Below w.heap.size w w' := by
  obtain ⟨W0, hW0⟩ : ∃ W0, W0 = w.alloc (.cells #[.int .i64 size, .slice aL nL cL] 47) := ⟨_, rfl⟩
  have hb0 : Below w.heap.size w W0 := by rw [hW0]; exact (Below.refl _ _).alloc (Nat.le_refl _) _
  have HC0 : Hid (W0.heap[w.heap.size]? = some (.cells #[.int .i64 size, .slice aL nL cL] 47 (0, 0))) := by unfold Hid; rw [hW0]; exact heap_alloc_new w _
  have HFT := hid (rfault6_any (p : Int) size limit nL cL aL W0 hn)
  have x0 : W0.cell? ⟨w.heap.size, 0, none⟩ = some (.int .i64 size) := by simp [World.cell?, HC0.out]
  have x1 : W0.cell? ⟨w.heap.size, 1, none⟩ = some (.slice aL nL cL) := by simp [World.cell?, HC0.out]
  have HB0 := hid hb0
  obtain ⟨z, hzz⟩ : ∃ z, z = fz6 (p : Int) size nL limit := ⟨_, rfl⟩
  rw [← hzz] at hz HFT ⊢
  have hq : (z != 0) = true := by simp [hz]
  clear hb0 hzz hz
  subst hW0
  go_enter Tryz.func52, Tryz.ntmps52
  go_wp2_with fail
  refine HFT.out.mono ?_
  rintro e w1 ⟨rfl, hb1⟩
  have HB1 := hid (HB0.out.trans (hb1.mono HB0.out.size))
  clear hb1 HFT HC0 HB0 x0 x1
  go_wp2_with fail
  go_ret3
  exact ⟨rfl, HB1.out⟩

end Go.Proofs.YtaibngnabhmabajGreatDoor
