/- Package rules: rowOf. Package rules: shown. Package rules: fillSorted. Package rules: Table. -/
import Derived.Test.YtdpdmgmeieijaaaGreatDoorSndAW
import Derived.Test.YtdpdmgmeieijaaaGreatDoorSndAS
import Derived.Test.YtdpdmgmeieijaaaGreatDoorSndAR
import Derived.Test.YtdpdmgmeieijaaaGreatDoorSndAM
namespace Go.Proofs.YtdpdmgmeieijaaaGreatDoor
open Go.RowKit Go.Maps

set_option maxRecDepth 100000 in
set_option maxHeartbeats 4000000 in
theorem prowOf_any (p b cL : Nat) (size : Int) (aL : Option Addr) (L : List InsZ) (s : List Int) (w : World) (hpr : Num.Prime p) (h3 : 3 ≤ p) (h4 : p ≤ 2147483647) (hp : w.cell? ⟨b, 0, none⟩ = some (.int .i64 p)) (hnL : L.length ≤ 64) (hl : LstI w.heap.size w aL cL L) (hs : StB p L.length s) :
    Calls Tryz.prog 44 #[.pointer (some ⟨b, 0, none⟩), .agg #[.int .i64 size, .slice aL L.length cL], .agg #[.int .i64 (zat s 0), .int .i64 (zat s 1), .int .i64 (zat s 2), .int .i64 (zat s 3), .int .i64 (zat s 4), .int .i64 (zat s 5), .int .i64 (zat s 6), .int .i64 (zat s 7), .int .i64 (zat s 8), .int .i64 (zat s 9)]] w
      fun e w' => ∃ K, e = .returned (.slice (some ⟨K, 0, none⟩) (20 + L.length) (20 + L.length)) ∧ w.heap.size ≤ K ∧ BRow K w' (srow p L.length (insat L (zat s 0).toNat).op s) ∧ Below w.heap.size w w' := by
  have hmx : Tryz.prog.follows .mixedOrders = true := by kernel_rfl
  obtain ⟨i0, hi, hz0, hz1, hz2⟩ := info_parts (show (Tryz.prog.info? 3).map (fun i => (i.zero, i.size, i.bytes)) = some (some (.int .i64 0), 1, 8) by kernel_rfl)
  obtain ⟨hs10, hsb, hs0⟩ := hs
  obtain ⟨k, hk⟩ : ∃ k : Nat, zat s 0 = (k : Int) := ⟨(zat s 0).toNat, by have := (hsb 0 (by omega)).1; omega⟩
  have hkL : k < L.length := by omega
  have b7 := hsb 7 (by omega)
  have b8 := hsb 8 (by omega)
  obtain ⟨W0, hW0⟩ : ∃ W0, W0 = w.alloc (.cells #[.int .i64 size, .slice aL L.length cL] 24) := ⟨_, rfl⟩
  obtain ⟨W1, hW1⟩ : ∃ W1, W1 = W0.alloc (.cells #[.int .i64 (zat s 0), .int .i64 (zat s 1), .int .i64 (zat s 2), .int .i64 (zat s 3), .int .i64 (zat s 4), .int .i64 (zat s 5), .int .i64 (zat s 6), .int .i64 (zat s 7), .int .i64 (zat s 8), .int .i64 (zat s 9)] 66) := ⟨_, rfl⟩
  have hb0 : Below w.heap.size w W0 := by rw [hW0]; exact (Below.refl _ _).alloc (Nat.le_refl _) _
  have hb1 : Below w.heap.size w W1 := by rw [hW1]; exact hb0.alloc hb0.size _
  have hz : W0.heap.size = w.heap.size + 1 := by rw [hW0]; simp
  have hz' : W1.heap.size = w.heap.size + 2 := by rw [hW1]; simp [hz]
  have hc0 : W1.heap[w.heap.size]? = some (.cells #[.int .i64 size, .slice aL L.length cL] 24 (0, 0)) := by
    rw [hW1, heap_alloc_old _ _ (by omega), hW0]; exact heap_alloc_new w _
  have hc1 : W1.heap[w.heap.size + 1]? = some (.cells #[.int .i64 (zat s 0), .int .i64 (zat s 1), .int .i64 (zat s 2), .int .i64 (zat s 3), .int .i64 (zat s 4), .int .i64 (zat s 5), .int .i64 (zat s 6), .int .i64 (zat s 7), .int .i64 (zat s 8), .int .i64 (zat s 9)] 66 (0, 0)) := by
    rw [hW1, ← hz]; exact heap_alloc_new W0 _
  have k0 : W1.cell? ⟨w.heap.size, 0, none⟩ = some (.int .i64 size) := by simp [World.cell?, hc0]
  have k1 : W1.cell? ⟨w.heap.size, 1, none⟩ = some (.slice aL L.length cL) := by simp [World.cell?, hc0]
  have HPW := hid (pwidth_any size aL L.length cL W1 (by omega))
  have HB1 := hid hb1
  have HC0 := hid hc0
  have HC1 := hid hc1
  have HZ := hid hz'
  have hlp1 : ∀ W, Below w.heap.size w W → W.cell? ⟨b, 0, none⟩ = some (.int .i64 p) := fun W h => (h.cell (p := ⟨b, 0, none⟩) (World.block_lt_of_cell? _ _ hp)).trans hp
  have HHP := hid (fun W h => phelp_any p b (insat L k).op (zat s 7) (zat s 8) (zat s 9) W hpr h3 h4 (hlp1 W h) (by omega) (by omega) (by omega) (by omega))
  obtain ⟨bL, oL, rfl, hbL, e0, _, _, _⟩ := hl.row k hkL
  have HLI : Hid (∀ W, Below w.heap.size w W → W.cell? ⟨bL, oL + k * 4, none⟩ = some (.int .i64 (insat L k).op)) := fun W h => (h.cell (p := ⟨bL, oL + k * 4, none⟩) hbL).trans e0
  have HRS : Hid (srow p L.length (insat L (zat s 0).toNat).op s = (((((((((((List.replicate (20 + L.length) (0 : Int)).set 0 (zat s 1)).set 1 (zat s 2)).set 2 (zat s 3)).set 3 (zat s 4)).set (3 + 1) (zat s 5)).set (3 + 2) (zat s 6)).set 7 (zat s 7)).set (7 + 1) (zat s 8)).set (7 + 2) (zat s 9)).set 11 (hlp p (insat L k).op (zat s 7) (zat s 8))).set (20 + k) 1) := by
    unfold Hid srow
    rw [hk, Int.toNat_natCast]
  rw [HRS.out]
  rw [hk] at HC1 hW1 ⊢
  clear hl hb0 hb1 hz hz' hc0 hc1 hlp1 e0 hp hsb hs10 hpr hs0 hk HRS
  generalize hlp p (insat L k).op (zat s 7) (zat s 8) = hv at *
  generalize (insat L k).op = op at *
  generalize zat s 1 = s1 at *
  generalize zat s 2 = s2 at *
  generalize zat s 3 = s3 at *
  generalize zat s 4 = s4 at *
  generalize zat s 5 = s5 at *
  generalize zat s 6 = s6 at *
  generalize zat s 7 = s7 at *
  generalize zat s 8 = s8 at *
  generalize zat s 9 = s9 at *
  generalize L.length = nL at *
  go_enter Tryz.func44, Tryz.ntmps44
  go_wp2_with fail
  rw [← hW0, ← hW1]
  clear hW0 hW1 W0
  refine HPW.out.mono ?_
  rintro e w2 ⟨rfl, hb2⟩
  have HB2 := hid (HB1.out.trans (hb2.mono HB1.out.size))
  have HC2 : Hid (w2.heap[w.heap.size]? = some (.cells #[.int .i64 size, .slice (some ⟨bL, oL, none⟩) nL cL] 24 (0, 0))) := (hb2.block _ (by have := HZ.out; omega)).trans HC0.out
  have HS2 : Hid (w2.heap[w.heap.size + 1]? = some (.cells #[.int .i64 (k : Int), .int .i64 s1, .int .i64 s2, .int .i64 s3, .int .i64 s4, .int .i64 s5, .int .i64 s6, .int .i64 s7, .int .i64 s8, .int .i64 s9] 66 (0, 0))) := (hb2.block _ (by have := HZ.out; omega)).trans HC1.out
  have HG2 : Hid (w.heap.size + 2 ≤ w2.heap.size) := by unfold Hid; rw [← HZ.out]; exact hb2.size
  clear hb2 HPW HB1 HC0 HC1 HZ k0 k1 W1
  go_wp2_with (refine wpList_make_full _ rfl _ _ _ rfl w.heap.size 3 i0 _ 1 Tryz.underlying49 hi hz0 hz1 .i64 .i64 _ _ (20 + nL) rfl rfl rfl rfl (by rw [hz2]; omega) (by unfold maxLen; omega) (by have := HG2.out; omega) ?_)
  intro w3 hown hgr
  have hb3 : Below w2.heap.size w2 w3 := ⟨hgr.os, hgr.tape, hgr.output, hgr.size, fun k hk => hgr.block k hk (by simp)⟩
  have HR3 := hid (brow_made (base := w.heap.size) (g := w2.heap.size) (n := 20 + nL) (w := w3) (by rw [Nat.mul_one]; exact hown))
  have HB3 := hid (HB2.out.trans (hb3.mono HB2.out.size))
  have hg2 := HG2.out
  have HC3 := hid ((hb3.block _ (by omega)).trans HC2.out)
  have HS3 := hid ((hb3.block _ (by omega)).trans HS2.out)
  obtain ⟨Kb, hKb⟩ : ∃ Kb, Kb = w2.heap.size := ⟨_, rfl⟩
  rw [← hKb] at HR3 hg2 ⊢
  obtain ⟨C, hC⟩ : ∃ C, C = w.heap.size := ⟨_, rfl⟩
  have HCw := hid hC
  rw [← hC] at HC3 HS3 hg2 ⊢
  have c1 : w3.cell? ⟨C + 1, 1, none⟩ = some (.int .i64 s1) := by simp [World.cell?, HS3.out]
  have c2 : w3.cell? ⟨C + 1, 2, none⟩ = some (.int .i64 s2) := by simp [World.cell?, HS3.out]
  have c3 : w3.cell? ⟨C + 1, 3, none⟩ = some (.int .i64 s3) := by simp [World.cell?, HS3.out]
  have hlen : (List.replicate (20 + nL) (0 : Int)).length = 20 + nL := by simp
  have q0 := HR3.out.row.cells 0 (by rw [hlen]; omega)
  have q1 := HR3.out.row.cells 1 (by rw [hlen]; omega)
  have q2 := HR3.out.row.cells 2 (by rw [hlen]; omega)
  have f0 := HR3.out.row.soft
  have HR4 := hid (((HR3.out.set (k := 0) s1 (by rw [hlen]; omega)).set (k := 1) s2 (by rw [List.length_set, hlen]; omega)).set (k := 2) s3 (by rw [List.length_set, List.length_set, hlen]; omega))
  clear hown hgr hb3 hKb hC HB2 HC2 HS2 HG2
  have l0 : (0 : Int) < ((20 + nL : Nat) : Int) := by omega
  have l1 : (1 : Int) < ((20 + nL : Nat) : Int) := by omega
  have l2 : (2 : Int) < ((20 + nL : Nat) : Int) := by omega
  generalize zat (List.replicate (20 + nL) (0 : Int)) 0 = z0 at *
  generalize zat (List.replicate (20 + nL) (0 : Int)) 1 = z1 at *
  generalize zat (List.replicate (20 + nL) (0 : Int)) 2 = z2 at *
  go_wp2_with fail
  obtain ⟨w4, hw4⟩ : ∃ w4, w4 = ((w3.setCell ⟨Kb, 0, none⟩ (.int .i64 s1)).setCell ⟨Kb, 1, none⟩ (.int .i64 s2)).setCell ⟨Kb, 2, none⟩ (.int .i64 s3) := ⟨_, rfl⟩
  have hoth : ∀ j, j ≠ Kb → w4.heap[j]? = w3.heap[j]? := fun j hj => by rw [hw4, Below.heap_setCell _ _ _ _ hj, Below.heap_setCell _ _ _ _ hj, Below.heap_setCell _ _ _ _ hj]
  have hKw : w.heap.size ≤ Kb := by have := HCw.out; omega
  have HB4 : Hid (Below w.heap.size w w4) := by unfold Hid; rw [hw4]; exact ((HB3.out.setCell (p := ⟨Kb, 0, none⟩) hKw _).setCell (p := ⟨Kb, 1, none⟩) hKw _).setCell (p := ⟨Kb, 2, none⟩) hKw _
  have HC4 := hid ((hoth C (by omega)).trans HC3.out)
  have HS4 := hid ((hoth (C + 1) (by omega)).trans HS3.out)
  rw [← hw4] at HR4 ⊢
  have HKw := hid hKw
  clear hw4 hoth hKw HB3 HC3 HS3 HR3 q0 q1 q2 f0 c1 c2 c3 w3 l0 l1 l2
  have hl4 : ((((List.replicate (20 + nL) (0 : Int)).set 0 s1).set 1 s2).set 2 s3).length = 20 + nL := by simp
  obtain ⟨r4, hr4⟩ : ∃ r4, r4 = (((List.replicate (20 + nL) (0 : Int)).set 0 s1).set 1 s2).set 2 s3 := ⟨_, rfl⟩
  rw [← hr4] at HR4 hl4
  have HE4 := hid hr4
  clear hr4
  have hsz1 : (Tryz.prog.info? 3).map (·.size) = some 1 := by rw [hi]; simp [hz1]
  have HSR : Hid (∀ (j : Nat) (v : Value), [Value.int .i64 s4, .int .i64 s5, .int .i64 s6][j]? = some v → ∀ d, ({ w4 with drawn := d } : World).cell? ((⟨C + 1, 4, none⟩ : Addr).add j) = some v) := fun j v hj d => by
    match j, hj with
    | 0, hj => simp at hj; subst hj; simp [World.cell?, Addr.add, HS4.out]
    | 1, hj => simp at hj; subst hj; simp [World.cell?, Addr.add, HS4.out]
    | 2, hj => simp at hj; subst hj; simp [World.cell?, Addr.add, HS4.out]
  have l3 : (3 : Int) ≤ 20 + (nL : Int) := by omega
  have l7 : (7 : Int) ≤ 20 + (nL : Int) := by omega
  have n3 : ¬ (20 + nL = 3) := by omega
  have n7 : ¬ (20 + nL = 7) := by omega
  go_region_law (refine step_copy_splice rfl (.tmp 24) (.tmp 26) 49 49 rfl 3 Tryz.underlying49 hsz1 _ _ _ _ _ _ rfl rfl Kb 3 (r4.map (Value.int .i64)) 3 HR4.out [.int .i64 s4, .int .i64 s5, .int .i64 s6] (Nat.min_eq_left (show 3 ≤ 20 + nL - 3 by omega)).symm (fun _ => ⟨rfl, _, rfl, fun j v hj => HSR.out j v hj _⟩) (by simp; omega) (by simp; exact ⟨rfl, rfl, rfl⟩) Kb w4 (Below.refl _ _).drew (Nat.le_refl _) ?_; intro w5 hg5 hb5)
  have HR5 := hid (brow_spl hg5.out (by omega))
  have HB5 := hid (HB4.out.trans (hb5.mono HKw.out))
  have HC5 := hid ((hb5.block C (by omega)).trans HC4.out)
  have HS5 := hid ((hb5.block (C + 1) (by omega)).trans HS4.out)
  have hl5 : (((r4.set 3 s4).set (3 + 1) s5).set (3 + 2) s6).length = 20 + nL := by simp [hl4]
  clear hg5 hb5 HSR HR4 HB4 HC4 HS4 w4 hl4
  obtain ⟨r5, hr5⟩ : ∃ r5, r5 = ((r4.set 3 s4).set (3 + 1) s5).set (3 + 2) s6 := ⟨_, rfl⟩
  rw [← hr5] at HR5 hl5
  have HE5 := hid hr5
  clear hr5
  have HSR : Hid (∀ (j : Nat) (v : Value), [Value.int .i64 s7, .int .i64 s8, .int .i64 s9][j]? = some v → ∀ d, ({ w5 with drawn := d } : World).cell? ((⟨C + 1, 7, none⟩ : Addr).add j) = some v) := fun j v hj d => by
    match j, hj with
    | 0, hj => simp at hj; subst hj; simp [World.cell?, Addr.add, HS5.out]
    | 1, hj => simp at hj; subst hj; simp [World.cell?, Addr.add, HS5.out]
    | 2, hj => simp at hj; subst hj; simp [World.cell?, Addr.add, HS5.out]
  go_wp2_with fail
  go_region_law (refine step_copy_splice rfl (.tmp 29) (.tmp 31) 49 49 rfl 3 Tryz.underlying49 hsz1 _ _ _ _ _ _ rfl rfl Kb 7 (r5.map (Value.int .i64)) 3 HR5.out [.int .i64 s7, .int .i64 s8, .int .i64 s9] (Nat.min_eq_left (show 3 ≤ 20 + nL - 7 by omega)).symm (fun _ => ⟨rfl, _, rfl, fun j v hj => HSR.out j v hj _⟩) (by simp; omega) (by simp; exact ⟨rfl, rfl, rfl⟩) Kb w5 (Below.refl _ _).drew (Nat.le_refl _) ?_; intro w6 hg6 hb6)
  have hr6 := brow_spl hg6.out (by omega)
  have hb6' := HB5.out.trans (hb6.mono HKw.out)
  have hc6 := (hb6.block C (by omega)).trans HC5.out
  have hs6 := (hb6.block (C + 1) (by omega)).trans HS5.out
  have hl6 : (((r5.set 7 s7).set (7 + 1) s8).set (7 + 2) s9).length = 20 + nL := by simp [hl5]
  clear hg6 hb6 HSR HR5 HB5 HC5 HS5 w5 hl5
  obtain ⟨r6, hr6e⟩ : ∃ r6, r6 = ((r5.set 7 s7).set (7 + 1) s8).set (7 + 2) s9 := ⟨_, rfl⟩
  rw [← hr6e] at hr6 hl6
  have HE6 := hid hr6e
  clear hr6e
  have HK2 : Hid (∀ W, Below w.heap.size w W → W.heap[C]? = some (.cells #[.int .i64 size, .slice (some ⟨bL, oL, none⟩) nL cL] 24 (0, 0)) → W.heap[C + 1]? = some (.cells #[.int .i64 (k : Int), .int .i64 s1, .int .i64 s2, .int .i64 s3, .int .i64 s4, .int .i64 s5, .int .i64 s6, .int .i64 s7, .int .i64 s8, .int .i64 s9] 66 (0, 0)) →
      W.cell? ⟨C, 1, none⟩ = some (.slice (some ⟨bL, oL, none⟩) nL cL) ∧ W.cell? ⟨C + 1, 0, none⟩ = some (.int .i64 (k : Int)) ∧ W.cell? ⟨bL, oL + k * 4, none⟩ = some (.int .i64 op) ∧ W.cell? ⟨C + 1, 7, none⟩ = some (.int .i64 s7) ∧ W.cell? ⟨C + 1, 8, none⟩ = some (.int .i64 s8) ∧ W.cell? ⟨C + 1, 9, none⟩ = some (.int .i64 s9)) := fun W h1 h2 h3 =>
    ⟨by simp [World.cell?, h2], by simp [World.cell?, h3], HLI.out W h1, by simp [World.cell?, h3], by simp [World.cell?, h3], by simp [World.cell?, h3]⟩
  have hkl : (k : Int) < (nL : Int) := by omega
  have l11 : (11 : Int) < 20 + (nL : Int) := by omega
  obtain ⟨u1, u2, u3, u4, u5, u6⟩ := HK2.out w6 hb6' hc6 hs6
  have HR6 := hid hr6
  have HB6 := hid hb6'
  have HC6 := hid hc6
  have HS6 := hid hs6
  clear hr6 hb6' hc6 hs6
  go_wp2_with fail
  refine wp_region_held_drew (S := (fun W => W.cell? ⟨C, 1, none⟩ = some (.slice (some ⟨bL, oL, none⟩) nL cL) ∧ W.cell? ⟨C + 1, 0, none⟩ = some (.int .i64 (k : Int)) ∧ W.cell? ⟨bL, oL + k * 4, none⟩ = some (.int .i64 op) ∧ W.cell? ⟨C + 1, 7, none⟩ = some (.int .i64 s7) ∧ W.cell? ⟨C + 1, 8, none⟩ = some (.int .i64 s8) ∧ W.cell? ⟨C + 1, 9, none⟩ = some (.int .i64 s9) ∧ True)) (by kernel_rfl) ⟨u1, u2, u3, u4, u5, u6, trivial⟩ (fun hHeld => ?_)
  refine wpAnyH_takeU (i := 0) (v := .slice (some ⟨Kb, 0, none⟩) (20 + nL) (20 + nL)) rfl (by kernel_rfl) (by kernel_rfl) (by kernel_rfl) (fun _ _ _ h => h) (by rfl) (fun W hC => by go_simp) hHeld ?_
  simp only [Act.put, List.setIfInBounds_toArray, List.set_cons_zero, List.set_cons_succ]
  refine wpAnyH_takeU (i := 1) (v := .pointer (some ⟨b, 0, none⟩)) rfl (by kernel_rfl) (by kernel_rfl) (by kernel_rfl) (fun _ _ _ h => h) (by rfl) (fun W hC => by go_simp) hHeld ?_
  simp only [Act.put, List.setIfInBounds_toArray, List.set_cons_zero, List.set_cons_succ]
  refine wpAnyH_takeU (i := 2) (v := .pointer (some ⟨C, 1, none⟩)) rfl (by kernel_rfl) (by kernel_rfl) (by kernel_rfl) (fun _ _ _ h => h) (by rfl) (fun W hC => by go_simp) hHeld ?_
  simp only [Act.put, List.setIfInBounds_toArray, List.set_cons_zero, List.set_cons_succ]
  refine wpAnyH_takeU (i := 3) (v := .slice (some ⟨bL, oL, none⟩) nL cL) rfl (by kernel_rfl) (by kernel_rfl) (by kernel_rfl) (fun _ _ _ h => h) (by rfl) (fun W hC => by (obtain ⟨y0, y1, y2, y3, y4, y5, y6⟩ := hC); go_simp) hHeld ?_
  simp only [Act.put, List.setIfInBounds_toArray, List.set_cons_zero, List.set_cons_succ]
  refine wpAnyH_takeU (i := 4) (v := .pointer (some ⟨C + 1, 0, none⟩)) rfl (by kernel_rfl) (by kernel_rfl) (by kernel_rfl) (fun _ _ _ h => h) (by rfl) (fun W hC => by go_simp) hHeld ?_
  simp only [Act.put, List.setIfInBounds_toArray, List.set_cons_zero, List.set_cons_succ]
  refine wpAnyH_takeU (i := 5) (v := .int .i64 (k : Int)) rfl (by kernel_rfl) (by kernel_rfl) (by kernel_rfl) (fun _ _ _ h => h) (by rfl) (fun W hC => by (obtain ⟨y0, y1, y2, y3, y4, y5, y6⟩ := hC); go_simp) hHeld ?_
  simp only [Act.put, List.setIfInBounds_toArray, List.set_cons_zero, List.set_cons_succ]
  refine wpAnyH_takeU (i := 6) (v := .pointer (some ⟨bL, oL + k * 4, none⟩)) rfl (by kernel_rfl) (by kernel_rfl) (by kernel_rfl) (fun _ _ _ h => h) (by rfl) (fun W hC => by go_simp) hHeld ?_
  simp only [Act.put, List.setIfInBounds_toArray, List.set_cons_zero, List.set_cons_succ]
  refine wpAnyH_takeU (i := 7) (v := .pointer (some ⟨bL, oL + k * 4, none⟩)) rfl (by kernel_rfl) (by kernel_rfl) (by kernel_rfl) (fun _ _ _ h => h) (by rfl) (fun W hC => by go_simp) hHeld ?_
  simp only [Act.put, List.setIfInBounds_toArray, List.set_cons_zero, List.set_cons_succ]
  refine wpAnyH_takeU (i := 8) (v := .int .i64 op) rfl (by kernel_rfl) (by kernel_rfl) (by kernel_rfl) (fun _ _ _ h => h) (by rfl) (fun W hC => by (obtain ⟨y0, y1, y2, y3, y4, y5, y6⟩ := hC); go_simp) hHeld ?_
  simp only [Act.put, List.setIfInBounds_toArray, List.set_cons_zero, List.set_cons_succ]
  refine wpAnyH_takeU (i := 9) (v := .pointer (some ⟨C + 1, 7, none⟩)) rfl (by kernel_rfl) (by kernel_rfl) (by kernel_rfl) (fun _ _ _ h => h) (by rfl) (fun W hC => by go_simp) hHeld ?_
  simp only [Act.put, List.setIfInBounds_toArray, List.set_cons_zero, List.set_cons_succ]
  refine wpAnyH_takeU (i := 10) (v := .agg #[.int .i64 s7, .int .i64 s8, .int .i64 s9]) rfl (by kernel_rfl) (by kernel_rfl) (by kernel_rfl) (fun _ _ _ h => h) (by rfl) (fun W hC => by (obtain ⟨y0, y1, y2, y3, y4, y5, y6⟩ := hC); go_simp) hHeld ?_
  simp only [Act.put, List.setIfInBounds_toArray, List.set_cons_zero, List.set_cons_succ]
  refine wpAnyH_ready (rs := [11]) (by kernel_rfl) (by simp) ?_
  refine AllReadyH.consU rfl (fun K' hK' => ?_) AllReadyH.nil
  go_simp
  refine (HHP.out _ HB6.out.drew).mono ?_
  rintro e w7 ⟨rfl, hb7⟩
  have hb67 : Below w6.heap.size w6 w7 := ⟨hb7.os, hb7.tape, hb7.output, hb7.size, hb7.block⟩
  have HR7 : Hid (BRow Kb w7 r6) := HR6.out.block (hb67.block _ HR6.out.row.lt)
  have HB7 := hid (HB6.out.trans (hb67.mono HB6.out.size))
  have HC7 := hid ((hb67.block C (Array.getElem?_eq_some_iff.1 HC6.out).1).trans HC6.out)
  have HS7 := hid ((hb67.block (C + 1) (Array.getElem?_eq_some_iff.1 HS6.out).1).trans HS6.out)
  obtain ⟨t1, t2, t3, t4, t5, t6⟩ := HK2.out w7 HB7.out HC7.out HS7.out
  refine hK'.out _ _ ⟨t1, t2, t3, t4, t5, t6, trivial⟩ (fun hHeld => ?_)
  clear hK' K' hb7 hb67 HR6 HB6 HC6 HS6 u1 u2 u3 u4 u5 u6 t1 t3 t4 t5 t6
  refine wpAnyH_takeU (i := 12) (v := .pointer (some ⟨Kb, 11, none⟩)) rfl (by kernel_rfl) (by kernel_rfl) (by kernel_rfl) (fun _ _ _ h => h) (by rfl) (fun W hC => by go_simp) hHeld ?_
  simp only [Act.put, List.setIfInBounds_toArray, List.set_cons_zero, List.set_cons_succ]
  refine wpAnyH_ready (rs := [13]) (by kernel_rfl) (by simp) ?_
  refine AllReadyH.consU rfl (fun K' hK' => ?_) AllReadyH.nil
  have q11 := HR7.out.row.cells 11 (by rw [hl6]; omega)
  have f11 := HR7.out.row.soft 11
  have HR8 := hid (HR7.out.set (k := 11) hv (by rw [hl6]; omega))
  have HB8 := hid (HB7.out.setCell (p := ⟨Kb, 11, none⟩) HKw.out (.int .i64 hv))
  have hoC : (w7.setCell ⟨Kb, 11, none⟩ (.int .i64 hv)).heap[C]? = w7.heap[C]? := Below.heap_setCell _ _ _ _ (by show C ≠ Kb; omega)
  have hoS : (w7.setCell ⟨Kb, 11, none⟩ (.int .i64 hv)).heap[C + 1]? = w7.heap[C + 1]? := Below.heap_setCell _ _ _ _ (by show C + 1 ≠ Kb; omega)
  have HC8 := hid (hoC.trans HC7.out)
  have HS8 := hid (hoS.trans HS7.out)
  generalize zat r6 11 = z11 at *
  go_simp
  obtain ⟨t1, t2, t3, t4, t5, t6⟩ := HK2.out _ HB8.out HC8.out HS8.out
  refine hK'.out _ _ ⟨t1, t2, t3, t4, t5, t6, trivial⟩ (fun hHeld => ?_)
  clear hK' K' hHeld q11 f11 HR7 HB7 HC7 HS7 hoC hoS t1 t3 t4 t5 t6
  refine wpAnyH_done (by kernel_rfl) ?_ _
  have hl8 : (r6.set 11 hv).length = 20 + nL := by simp [hl6]
  generalize w7.setCell ⟨Kb, 11, none⟩ (.int .i64 hv) = w8 at *
  obtain ⟨r8, hr8⟩ : ∃ r8, r8 = r6.set 11 hv := ⟨_, rfl⟩
  rw [← hr8] at HR8 hl8
  have HE8 := hid hr8
  clear hr8
  obtain ⟨m, hm⟩ : ∃ m, m = 20 + k := ⟨_, rfl⟩
  have e20 : (20 : Int) + (k : Int) = (m : Int) := by omega
  have hw20 : IntKind.i64.wrap (m : Int) = (m : Int) := by rw [IntKind.wrap_i64]; omega
  have l20 : (m : Int) < 20 + (nL : Int) := by omega
  have q20 := HR8.out.row.cells m (by rw [hl8]; omega)
  have f20 := HR8.out.row.soft m
  have HR9 := hid (HR8.out.set (k := m) 1 (by rw [hl8]; omega))
  have HB9 := hid (HB8.out.setCell (p := ⟨Kb, m, none⟩) HKw.out (.int .i64 1))
  have c20 : w8.cell? ⟨C + 1, 0, none⟩ = some (.int .i64 (k : Int)) := by simp [World.cell?, HS8.out]
  have HM := hid hm
  clear hm
  generalize zat r8 m = z20 at *
  clear HC8 HS8 HR8 HB8 HK2 HHP HLI
  go_wp2_with fail
  go_ret
  refine ⟨Kb, rfl, HKw.out, ?_, HB9.out⟩
  have h := HR9.out
  rw [HE8.out, HE6.out, HE5.out, HE4.out] at h
  rw [HM.out] at h ⊢
  exact h

end Go.Proofs.YtdpdmgmeieijaaaGreatDoor

namespace Go.Proofs.YtdpdmgmeieijaaaGreatDoor
open Go.RowKit Go.Maps

/-- the row numbered i of a run's table, holes and sorted pairs aside -/
def shn (p : Nat) (L : List InsZ) (st : List (List Int)) (i : Nat) : List Int := srow p L.length (insat L (zat (rat st (min i (st.length - 1))) 0).toNat).op (rat st (min i (st.length - 1)))
def shns (p : Nat) (L : List InsZ) (st : List (List Int)) (n : Nat) : List (List Int) := (List.range n).map (shn p L st)
theorem shns_len (p : Nat) (L : List InsZ) (st : List (List Int)) (n : Nat) : (shns p L st n).length = n := by simp [shns]
theorem shns_rat (p : Nat) (L : List InsZ) (st : List (List Int)) {n k : Nat} (h : k < n) : rat (shns p L st n) k = shn p L st k := by simp [shns, rat, h]
theorem shn_len (p : Nat) (L : List InsZ) (st : List (List Int)) (i : Nat) : (shn p L st i).length = 20 + L.length := srow_len _ _ _ _

/-- the ten cells of a step in a row of steps -/
theorem stvs_at : ∀ (l : List (List Int)), (∀ s, s ∈ l → s.length = 10) → ∀ (i j : Nat), i < l.length → j < 10 → (stvs l)[i * 10 + j]? = some (.int .i64 (zat (rat l i) j))
  | [], _, i, j, h, _ => absurd h (Nat.not_lt_zero _)
  | s :: l, h, 0, j, _, hj => by
    have hs := h s (by simp)
    unfold stvs
    rw [List.flatMap_cons, List.getElem?_append_left (by simp; omega)]
    simp [rat, zat, hs, hj]
  | s :: l, h, i + 1, j, hi, hj => by
    have hs := h s (by simp)
    have ih := stvs_at l (fun x hx => h x (by simp [hx])) i j (by simpa using hi) hj
    unfold stvs at ih ⊢
    rw [List.flatMap_cons, List.getElem?_append_right (by simp; omega)]
    have e : (i + 1) * 10 + j - (s.map (Value.int .i64)).length = i * 10 + j := by simp; omega
    rw [e, ih]
    simp [rat]
theorem rat_mem {l : List (List Int)} {i : Nat} (h : i < l.length) : rat l i ∈ l := by
  simp [rat, h]

theorem take_rat {R : List (List Int)} {i : Nat} (h : i < R.length) : R.take (i + 1) = R.take i ++ [rat R i] := by
  rw [List.take_succ_eq_append_getElem h]
  simp [rat, h]
theorem Tbl.more {base G Kn : Nat} {K : Nat → Nat} {w : World} {R : List (List Int)} {r : List Int} {v0 : Value} (h : Tbl base G K w R) (hr : IRow Kn w r) (hb : base ≤ Kn) (hG : Kn ≠ G) (hK : ∀ k, k < R.length → K k ≠ Kn) (hc : w.cell? ⟨G, R.length, none⟩ = some v0) :
    Tbl base G (fun k => if k = R.length then Kn else K k) (w.setCell ⟨G, R.length, none⟩ (.slice (some ⟨Kn, 0, none⟩) r.length r.length)) (R ++ [r]) := by
  have hoth : ∀ g, g ≠ G → (w.setCell ⟨G, R.length, none⟩ (.slice (some ⟨Kn, 0, none⟩) r.length r.length)).heap[g]? = w.heap[g]? := fun g hg => Below.heap_setCell _ _ _ _ hg
  have hrat : ∀ k, k < R.length → rat (R ++ [r]) k = rat R k := fun k hk => by simp [rat, List.getElem?_append_left hk, hk]
  have hlast : rat (R ++ [r]) R.length = r := by simp [rat]
  refine ⟨by simpa using h.lt, fun k hk => ?_, fun k hk => ?_, fun j k hj hk e => ?_, ⟨h.new.1, fun k hk => ?_⟩, fun j => by rw [World.frozen?_setCell]; exact h.soft j⟩
  · rw [List.length_append, List.length_singleton] at hk
    by_cases e : k = R.length
    · subst e
      rw [if_pos rfl, hlast]
      exact World.cell?_setCell_same _ _ _ hc
    · rw [if_neg e, hrat k (by omega), World.cell?_setCell_other _ _ _ _ (by intro e1; injection e1 with _ h2 _; omega)]
      exact h.out k (by omega)
  · rw [List.length_append, List.length_singleton] at hk
    by_cases e : k = R.length
    · subst e
      rw [if_pos rfl, hlast]
      exact hr.block (hoth Kn hG)
    · rw [if_neg e, hrat k (by omega)]
      exact (h.row k (by omega)).block (hoth _ (h.new.2 k (by omega)).2)
  · rw [List.length_append, List.length_singleton] at hj hk
    by_cases e1 : j = R.length
    · by_cases e2 : k = R.length
      · omega
      · rw [if_pos e1, if_neg e2] at e; exact absurd e.symm (hK k (by omega))
    · by_cases e2 : k = R.length
      · rw [if_neg e1, if_pos e2] at e; exact absurd e (hK j (by omega))
      · rw [if_neg e1, if_neg e2] at e; exact h.inj j k (by omega) (by omega) e
  · rw [List.length_append, List.length_singleton] at hk
    by_cases e : k = R.length
    · rw [if_pos e]; exact ⟨hb, hG⟩
    · rw [if_neg e]; exact h.new.2 k (by omega)

/-- how far shown has come -/
structure ShI (G C n i : Nat) (size : Int) (aL : Option Addr) (nL cL : Nat) (R : List (List Int)) (w wr : World) : Prop where
  tbl : ∃ K, Tbl w.heap.size G K wr (R.take i)
  out : ∀ j, j < n → ∃ v, wr.cell? ⟨G, j, none⟩ = some v
  code : wr.heap[C]? = some (.cells #[.int .i64 size, .slice aL nL cL] 24 (0, 0))
  bel : Below w.heap.size w wr

set_option maxRecDepth 100000 in
set_option maxHeartbeats 4000000 in
theorem pshown_any (p b cL g cap n : Nat) (size : Int) (aL : Option Addr) (L : List InsZ) (st : List (List Int)) (w : World) (hpr : Num.Prime p) (h3 : 3 ≤ p) (h4 : p ≤ 2147483647) (hp : w.cell? ⟨b, 0, none⟩ = some (.int .i64 p)) (hnL : L.length ≤ 64) (hl : LstI w.heap.size w aL cL L)
    (hst : ∀ s, s ∈ st → StB p L.length s) (h0 : 0 < st.length) (hsl : st.length ≤ maxLen) (hcells : ∀ i j, i < st.length → j < 10 → w.cell? ⟨g, i * 10 + j, none⟩ = some (.int .i64 (zat (rat st i) j))) (hn1 : 1 ≤ n) (hn : n ≤ 512) :
    Calls Tryz.prog 25 #[.pointer (some ⟨b, 0, none⟩), .agg #[.int .i64 size, .slice aL L.length cL], .slice (some ⟨g, 0, none⟩) st.length cap, .int .i64 (n : Int)] w
      fun e w' => ∃ G K, e = .returned (.slice (some ⟨G, 0, none⟩) n n) ∧ Tbl w.heap.size G K w' (shns p L st n) ∧ Below w.heap.size w w' := by
  have hmx : Tryz.prog.follows .mixedOrders = true := by kernel_rfl
  obtain ⟨i0, hi, hz0, hz1, hz2⟩ := info_parts (show (Tryz.prog.info? 49).map (fun i => (i.zero, i.size, i.bytes)) = some (some (.slice none 0 0), 1, 24) by kernel_rfl)
  obtain ⟨W0, hW0⟩ : ∃ W0, W0 = w.alloc (.cells #[.int .i64 size, .slice aL L.length cL] 24) := ⟨_, rfl⟩
  have hb0 : Below w.heap.size w W0 := by rw [hW0]; exact (Below.refl _ _).alloc (Nat.le_refl _) _
  have hz : W0.heap.size = w.heap.size + 1 := by rw [hW0]; simp
  have hc0 : W0.heap[w.heap.size]? = some (.cells #[.int .i64 size, .slice aL L.length cL] 24 (0, 0)) := by rw [hW0]; exact heap_alloc_new w _
  have hgl : g < w.heap.size := World.block_lt_of_cell? _ _ (hcells 0 0 h0 (by omega))
  have HRO : Hid (∀ W s, Below w.heap.size w W → StB p L.length s → Calls Tryz.prog 44 #[.pointer (some ⟨b, 0, none⟩), .agg #[.int .i64 size, .slice aL L.length cL], .agg #[.int .i64 (zat s 0), .int .i64 (zat s 1), .int .i64 (zat s 2), .int .i64 (zat s 3), .int .i64 (zat s 4), .int .i64 (zat s 5), .int .i64 (zat s 6), .int .i64 (zat s 7), .int .i64 (zat s 8), .int .i64 (zat s 9)]] W
      fun e w' => ∃ K, e = .returned (.slice (some ⟨K, 0, none⟩) (20 + L.length) (20 + L.length)) ∧ W.heap.size ≤ K ∧ BRow K w' (srow p L.length (insat L (zat s 0).toNat).op s) ∧ Below W.heap.size W w') := fun W s hW hs =>
    prowOf_any p b cL size aL L s W hpr h3 h4 ((hW.cell (p := ⟨b, 0, none⟩) (World.block_lt_of_cell? _ _ hp)).trans hp) hnL ((hl.below hW).mono hW.size) hs
  have HCE := hid hcells
  have HST := hid hst
  obtain ⟨ns, hns⟩ : ∃ ns, ns = st.length := ⟨_, rfl⟩
  have HNS := hid hns
  rw [← hns] at h0 hsl ⊢
  have HB0 := hid hb0
  have HC0 := hid hc0
  have HZ := hid hz
  obtain ⟨nL, hnl⟩ : ∃ nL, nL = L.length := ⟨_, rfl⟩
  have HNL := hid hnl
  rw [← hnl] at hnL hW0 ⊢
  have HC0' : Hid (W0.heap[w.heap.size]? = some (.cells #[.int .i64 size, .slice aL nL cL] 24 (0, 0))) := by unfold Hid; rw [HNL.out]; exact HC0.out
  clear hb0 hc0 hz hl hp hcells hst hns HC0 hnl
  go_enter Tryz.func25, Tryz.ntmps25
  go_wp2_with (refine wpList_make_full _ rfl _ _ _ rfl w.heap.size 49 i0 _ 1 Tryz.underlying25 hi hz0 hz1 .i64 .i64 _ _ n rfl rfl rfl rfl (by rw [hz2]; omega) (by unfold maxLen; omega) (by simp) ?_)
  intro w1 hown hgr
  rw [← hW0] at hgr
  have hb1 : Below W0.heap.size W0 w1 := ⟨hgr.os, hgr.tape, hgr.output, hgr.size, fun k hk => hgr.block k hk (by simp)⟩
  obtain ⟨C, hC⟩ : ∃ C, C = w.heap.size := ⟨_, rfl⟩
  obtain ⟨G, hG⟩ : ∃ G, G = w.heap.size + 1 := ⟨_, rfl⟩
  have HI0 : Hid (ShI G C n 0 size aL nL cL (shns p L st n) w w1) := by
    rcases hown.2 with ⟨e, _⟩ | ⟨g', cp', cur, e1, _, hgg, _, _, hs, _⟩
    · cases e
    · injection e1 with e1 _ e3
      injection e1 with e1
      injection e1 with e1
      rw [← e1, ← hG] at hgg
      refine ⟨⟨fun _ => 0, (Array.getElem?_eq_some_iff.1 hgg).1, fun k hk => by simp at hk, fun k hk => by simp at hk, fun j k hj => by simp at hj, ⟨by omega, fun k hk => by simp at hk⟩, fun j => by simp [World.frozen?, hgg]⟩, fun j hj => ?_, ?_, HB0.out.trans (hb1.mono HB0.out.size)⟩
      · have hj2 : j < cur.size := by rw [hs]; omega
        exact ⟨cur[j], by simp [World.cell?, hgg, hj2]⟩
      · rw [hC]; exact (hb1.block _ (by rw [HZ.out]; omega)).trans HC0'.out
  rw [← hG, ← hC]
  have HG := hid hG
  have HC := hid hC
  clear hown hgr hb1 hW0 HB0 HC0' HZ hC hG W0
  go_wp2_with fail
  go_loopw [15] (fun iv wr => ∃ i : Nat, i ≤ n ∧ iv = .int .i64 i ∧ Hid (ShI G C n i size aL nL cL (shns p L st n) w wr)) (fun iv _ => n - (intOf iv).toNat)
  case atStart => exact ⟨0, Nat.zero_le _, rfl, HI0⟩
  case round =>
    obtain ⟨i, hin, rfl, HI⟩ := hrel
    by_cases hlt : i < n
    · have hlt2 : (i : Int) < (n : Int) := by omega
      have his : IntKind.i64.wrap ((i : Int) + 1) = (i : Int) + 1 := by rw [IntKind.wrap_i64]; omega
      obtain ⟨m, hm⟩ : ∃ m, m = min i (ns - 1) := ⟨_, rfl⟩
      obtain ⟨nm, hnm⟩ : ∃ nm, nm = ns - 1 := ⟨_, rfl⟩
      have e1 : (ns : Int) - 1 = (nm : Int) := by omega
      have w1 : IntKind.i64.wrap (nm : Int) = (nm : Int) := by unfold maxLen at hsl; rw [IntKind.wrap_i64]; omega
      have e2 : min (i : Int) (nm : Int) = (m : Int) := by omega
      have hmn : m < ns := by omega
      have hmi : (m : Int) < (ns : Int) := by omega
      have hmem : rat st m ∈ st := rat_mem (by have := HNS.out; omega)
      have hSB := HST.out _ hmem
      have hcel : ∀ j, j < 10 → ∀ W, Below w.heap.size w W → W.cell? ⟨g, m * 10 + j, none⟩ = some (.int .i64 (zat (rat st m) j)) := fun j hj W h => (h.cell (p := ⟨g, m * 10 + j, none⟩) hgl).trans (HCE.out m j (by have := HNS.out; omega) hj)
      have HRO1 := hid (fun W hW => HRO.out W (rat st m) hW hSB)
      have HSH : Hid (rat (shns p L st n) i = srow p L.length (insat L (zat (rat st m) 0).toNat).op (rat st m)) := by
        unfold Hid
        rw [shns_rat _ _ _ hlt, shn, hm, HNS.out]
      have HTK : Hid ((shns p L st n).take (i + 1) = (shns p L st n).take i ++ [srow p L.length (insat L (zat (rat st m) 0).toNat).op (rat st m)]) := by
        unfold Hid
        rw [take_rat (by rw [shns_len]; exact hlt), HSH.out]
      have HTL : Hid (((shns p L st n).take i).length = i) := by unfold Hid; rw [List.length_take, shns_len]; omega
      have HRL : Hid ((srow p L.length (insat L (zat (rat st m) 0).toNat).op (rat st m)).length = 20 + nL) := by unfold Hid; rw [srow_len, HNL.out]
      rw [← HNL.out] at HRO1 HTK HRL
      have HHD : Hid (∀ W, Below w.heap.size w W → W.heap[C]? = some (.cells #[.int .i64 size, .slice aL nL cL] 24 (0, 0)) → W.cell? ⟨C, 0, none⟩ = some (.int .i64 size) ∧ W.cell? ⟨C, 1, none⟩ = some (.slice aL nL cL) ∧ W.cell? ⟨g, m * 10, none⟩ = some (.int .i64 (zat (rat st m) 0)) ∧ W.cell? ⟨g, m * 10 + 1, none⟩ = some (.int .i64 (zat (rat st m) 1)) ∧ W.cell? ⟨g, m * 10 + 2, none⟩ = some (.int .i64 (zat (rat st m) 2)) ∧ W.cell? ⟨g, m * 10 + 3, none⟩ = some (.int .i64 (zat (rat st m) 3)) ∧ W.cell? ⟨g, m * 10 + 4, none⟩ = some (.int .i64 (zat (rat st m) 4)) ∧ W.cell? ⟨g, m * 10 + 5, none⟩ = some (.int .i64 (zat (rat st m) 5)) ∧ W.cell? ⟨g, m * 10 + 6, none⟩ = some (.int .i64 (zat (rat st m) 6)) ∧ W.cell? ⟨g, m * 10 + 7, none⟩ = some (.int .i64 (zat (rat st m) 7)) ∧ W.cell? ⟨g, m * 10 + 8, none⟩ = some (.int .i64 (zat (rat st m) 8)) ∧ W.cell? ⟨g, m * 10 + 9, none⟩ = some (.int .i64 (zat (rat st m) 9))) := fun W hW h2 =>
        ⟨by simp [World.cell?, h2], by simp [World.cell?, h2], hcel 0 (by omega) W hW, hcel 1 (by omega) W hW, hcel 2 (by omega) W hW, hcel 3 (by omega) W hW, hcel 4 (by omega) W hW, hcel 5 (by omega) W hW, hcel 6 (by omega) W hW, hcel 7 (by omega) W hW, hcel 8 (by omega) W hW, hcel 9 (by omega) W hW⟩
      clear hmem hSB hcel hm hnm HSH
      generalize srow p nL (insat L (zat (rat st m) 0).toNat).op (rat st m) = rr at *
      generalize zat (rat st m) 0 = x0 at *
      generalize zat (rat st m) 1 = x1 at *
      generalize zat (rat st m) 2 = x2 at *
      generalize zat (rat st m) 3 = x3 at *
      generalize zat (rat st m) 4 = x4 at *
      generalize zat (rat st m) 5 = x5 at *
      generalize zat (rat st m) 6 = x6 at *
      generalize zat (rat st m) 7 = x7 at *
      generalize zat (rat st m) 8 = x8 at *
      generalize zat (rat st m) 9 = x9 at *
      have u0 := HHD.out wr HI.out.bel HI.out.code
      go_wp2_with fail
      refine wp_region_held_drew (S := (fun W => W.cell? ⟨C, 0, none⟩ = some (.int .i64 size) ∧ W.cell? ⟨C, 1, none⟩ = some (.slice aL nL cL) ∧ W.cell? ⟨g, m * 10, none⟩ = some (.int .i64 x0) ∧ W.cell? ⟨g, m * 10 + 1, none⟩ = some (.int .i64 x1) ∧ W.cell? ⟨g, m * 10 + 2, none⟩ = some (.int .i64 x2) ∧ W.cell? ⟨g, m * 10 + 3, none⟩ = some (.int .i64 x3) ∧ W.cell? ⟨g, m * 10 + 4, none⟩ = some (.int .i64 x4) ∧ W.cell? ⟨g, m * 10 + 5, none⟩ = some (.int .i64 x5) ∧ W.cell? ⟨g, m * 10 + 6, none⟩ = some (.int .i64 x6) ∧ W.cell? ⟨g, m * 10 + 7, none⟩ = some (.int .i64 x7) ∧ W.cell? ⟨g, m * 10 + 8, none⟩ = some (.int .i64 x8) ∧ W.cell? ⟨g, m * 10 + 9, none⟩ = some (.int .i64 x9))) (by kernel_rfl) u0 (fun hHeld => ?_)
      refine wpAnyH_takeU (i := 0) (v := .slice (some ⟨G, 0, none⟩) n n) rfl (by kernel_rfl) (by kernel_rfl) (by kernel_rfl) (fun _ _ _ h => h) (by rfl) (fun W hC => by go_simp) hHeld ?_
      simp only [Act.put, List.setIfInBounds_toArray, List.set_cons_zero, List.set_cons_succ]
      refine wpAnyH_takeU (i := 1) (v := .int .i64 (i : Int)) rfl (by kernel_rfl) (by kernel_rfl) (by kernel_rfl) (fun _ _ _ h => h) (by rfl) (fun W hC => by go_simp) hHeld ?_
      simp only [Act.put, List.setIfInBounds_toArray, List.set_cons_zero, List.set_cons_succ]
      refine wpAnyH_takeU (i := 2) (v := .pointer (some ⟨b, 0, none⟩)) rfl (by kernel_rfl) (by kernel_rfl) (by kernel_rfl) (fun _ _ _ h => h) (by rfl) (fun W hC => by go_simp) hHeld ?_
      simp only [Act.put, List.setIfInBounds_toArray, List.set_cons_zero, List.set_cons_succ]
      refine wpAnyH_takeU (i := 3) (v := .agg #[.int .i64 size, .slice aL nL cL]) rfl (by kernel_rfl) (by kernel_rfl) (by kernel_rfl) (fun _ _ _ h => h) (by rfl) (fun W hC => by (obtain ⟨y0, y1, z0, z1, z2, z3, z4, z5, z6, z7, z8, z9⟩ := hC); go_simp) hHeld ?_
      simp only [Act.put, List.setIfInBounds_toArray, List.set_cons_zero, List.set_cons_succ]
      refine wpAnyH_takeU (i := 4) (v := .slice (some ⟨g, 0, none⟩) ns cap) rfl (by kernel_rfl) (by kernel_rfl) (by kernel_rfl) (fun _ _ _ h => h) (by rfl) (fun W hC => by go_simp) hHeld ?_
      simp only [Act.put, List.setIfInBounds_toArray, List.set_cons_zero, List.set_cons_succ]
      refine wpAnyH_takeU (i := 5) (v := .int .i64 (i : Int)) rfl (by kernel_rfl) (by kernel_rfl) (by kernel_rfl) (fun _ _ _ h => h) (by rfl) (fun W hC => by go_simp) hHeld ?_
      simp only [Act.put, List.setIfInBounds_toArray, List.set_cons_zero, List.set_cons_succ]
      refine wpAnyH_takeU (i := 6) (v := .slice (some ⟨g, 0, none⟩) ns cap) rfl (by kernel_rfl) (by kernel_rfl) (by kernel_rfl) (fun _ _ _ h => h) (by rfl) (fun W hC => by go_simp) hHeld ?_
      simp only [Act.put, List.setIfInBounds_toArray, List.set_cons_zero, List.set_cons_succ]
      refine wpAnyH_takeU (i := 7) (v := .int .i64 (ns : Int)) rfl (by kernel_rfl) (by kernel_rfl) (by kernel_rfl) (fun _ _ _ h => h) (by rfl) (fun W hC => by go_simp) hHeld ?_
      simp only [Act.put, List.setIfInBounds_toArray, List.set_cons_zero, List.set_cons_succ]
      refine wpAnyH_takeU (i := 8) (v := .int .i64 (nm : Int)) rfl (by kernel_rfl) (by kernel_rfl) (by kernel_rfl) (fun _ _ _ h => h) (by rfl) (fun W hC => by go_simp) hHeld ?_
      simp only [Act.put, List.setIfInBounds_toArray, List.set_cons_zero, List.set_cons_succ]
      refine wpAnyH_takeU (i := 9) (v := .int .i64 (m : Int)) rfl (by kernel_rfl) (by kernel_rfl) (by kernel_rfl) (fun _ _ _ h => h) (by rfl) (fun W hC => by go_simp) hHeld ?_
      simp only [Act.put, List.setIfInBounds_toArray, List.set_cons_zero, List.set_cons_succ]
      refine wpAnyH_takeU (i := 10) (v := .pointer (some ⟨g, m * 10, none⟩)) rfl (by kernel_rfl) (by kernel_rfl) (by kernel_rfl) (fun _ _ _ h => h) (by rfl) (fun W hC => by go_simp) hHeld ?_
      simp only [Act.put, List.setIfInBounds_toArray, List.set_cons_zero, List.set_cons_succ]
      refine wpAnyH_takeU (i := 11) (v := .agg #[.int .i64 x0, .int .i64 x1, .int .i64 x2, .int .i64 x3, .int .i64 x4, .int .i64 x5, .int .i64 x6, .int .i64 x7, .int .i64 x8, .int .i64 x9]) rfl (by kernel_rfl) (by kernel_rfl) (by kernel_rfl) (fun _ _ _ h => h) (by rfl) (fun W hC => by (obtain ⟨y0, y1, z0, z1, z2, z3, z4, z5, z6, z7, z8, z9⟩ := hC); go_simp) hHeld ?_
      simp only [Act.put, List.setIfInBounds_toArray, List.set_cons_zero, List.set_cons_succ]
      refine wpAnyH_ready (rs := [12]) (by kernel_rfl) (by simp) ?_
      refine AllReadyH.consU rfl (fun K' hK' => ?_) AllReadyH.nil
      go_simp
      refine (HRO1.out _ HI.out.bel.drew).mono ?_
      rintro e w7 ⟨Kn, rfl, hKn, hrow, hb7⟩
      have hb67 : Below wr.heap.size wr w7 := ⟨hb7.os, hb7.tape, hb7.output, hb7.size, hb7.block⟩
      replace hKn : wr.heap.size ≤ Kn := hKn
      obtain ⟨KK, hT⟩ := HI.out.tbl
      have hT7 := hT.below hb67 (Nat.le_refl _)
      have hsz := HI.out.bel.size
      have hrl := HRL.out
      have hTL := HTL.out
      obtain ⟨v0, hv0⟩ := HI.out.out i hlt
      have hv7 := (hb67.cell (p := ⟨G, i, none⟩) hT.lt).trans hv0
      have hmo := Tbl.more hT7 hrow.row (Nat.le_trans hsz hKn) (by have := hT.lt; omega) (fun k hk => by have := (hT.row k hk).lt; omega) (v0 := v0) (by rw [hTL]; exact hv7)
      rw [hTL, hrl, ← HTK.out] at hmo
      have hsoft := hT7.soft i
      have HI8 : Hid (ShI G C n (i + 1) size aL nL cL (shns p L st n) w (w7.setCell ⟨G, i, none⟩ (.slice (some ⟨Kn, 0, none⟩) (20 + nL) (20 + nL)))) := by
        refine ⟨⟨_, hmo⟩, fun j hj => ?_, ?_, ?_⟩
        · by_cases e : j = i
          · subst e; exact ⟨_, World.cell?_setCell_same _ _ _ hv7⟩
          · obtain ⟨v, hv⟩ := HI.out.out j hj
            exact ⟨v, by rw [World.cell?_setCell_other _ _ _ _ (by intro e1; injection e1 with _ h2 _; omega)]; exact (hb67.cell (p := ⟨G, j, none⟩) hT.lt).trans hv⟩
        · rw [Below.heap_setCell _ _ _ _ (by show C ≠ G; have := HC.out; have := HG.out; omega)]
          exact (hb67.block C (Array.getElem?_eq_some_iff.1 HI.out.code).1).trans HI.out.code
        · exact (HI.out.bel.trans (hb67.mono hsz)).setCell (p := ⟨G, i, none⟩) (by show w.heap.size ≤ G; have := HG.out; omega) _
      have hS7 := HHD.out w7 (HI.out.bel.trans (hb67.mono hsz)) ((hb67.block C (Array.getElem?_eq_some_iff.1 HI.out.code).1).trans HI.out.code)
      refine hK'.out _ _ hS7 (fun hHeld => ?_)
      clear hK' K' hb7 hb67 hT hT7 hsz hrl hTL hmo hrow hKn hS7 hv0 KK u0 HI
      refine wpAnyH_takeU (i := 13) (v := .pointer (some ⟨G, i, none⟩)) rfl (by kernel_rfl) (by kernel_rfl) (by kernel_rfl) (fun _ _ _ h => h) (by rfl) (fun W hC => by go_simp) hHeld ?_
      simp only [Act.put, List.setIfInBounds_toArray, List.set_cons_zero, List.set_cons_succ]
      refine wpAnyH_ready (rs := [14]) (by kernel_rfl) (by simp) ?_
      refine AllReadyH.consU rfl (fun K' hK' => ?_) AllReadyH.nil
      go_simp
      refine hK'.out _ _ (HHD.out _ HI8.out.bel HI8.out.code) (fun hHeld => ?_)
      clear hK' K' hHeld hv7 hsoft
      refine wpAnyH_done (by kernel_rfl) ?_ _
      go_wp2_with fail
      go_roundw
      case rel => exact ⟨i + 1, by omega, by go_num, HI8⟩
      case measure => simp [intOf]; omega
    · obtain rfl : i = n := by omega
      go_wp2_with fail
      go_ret
      obtain ⟨K, hT⟩ := HI.out.tbl
      rw [List.take_of_length_le (by rw [shns_len]; exact Nat.le_refl _)] at hT
      exact ⟨G, K, rfl, hT, HI.out.bel⟩

end Go.Proofs.YtdpdmgmeieijaaaGreatDoor

namespace Go.Proofs.YtdpdmgmeieijaaaGreatDoor
open Go.RowKit

/-- the first m of pairs written into rows -/
def fS (R : List (List Int)) (ps : List (Int × Int)) : Nat → List (List Int)
  | 0 => R
  | m + 1 => put (put (fS R ps m) (m / 4) (12 + m % 4) (cat ps m).1) (m / 4) (16 + m % 4) (cat ps m).2
theorem fS_len (R : List (List Int)) (ps : List (Int × Int)) : ∀ m, (fS R ps m).length = R.length
  | 0 => rfl
  | m + 1 => by rw [fS, put_len, put_len, fS_len]
theorem fS_row_len (R : List (List Int)) (ps : List (Int × Int)) (k : Nat) : ∀ m, m ≤ 4 * R.length → (rat (fS R ps m) k).length = (rat R k).length
  | 0, _ => rfl
  | m + 1, h => by rw [fS, put_row_len (by rw [put_len, fS_len]; omega), put_row_len (by rw [fS_len]; omega), fS_row_len R ps k m (by omega)]
/-- the pairs that rows show, sorted: one list -/
def SrtOf (q : Nat) (R : List (List Int)) (ps : List (Int × Int)) : Prop := ps.Perm (pr4 q R 3 7) ∧ ps.Pairwise cle
theorem SrtOf.one {q : Nat} {R : List (List Int)} {ps qs : List (Int × Int)} (h : SrtOf q R ps) (k : SrtOf q R qs) : ps = qs := sorted_one h.2 k.2 (h.1.trans k.1.symm)
theorem SrtOf.len {q : Nat} {R : List (List Int)} {ps : List (Int × Int)} (h : SrtOf q R ps) : ps.length = 4 * R.length := h.1.length_eq.trans (pr4_len _ _ _ _)

set_option maxRecDepth 100000 in
set_option maxHeartbeats 4000000 in
theorem psorted_any (q b base G : Nat) (K : Nat → Nat) (R : List (List Int)) (w : World) (h3 : 3 ≤ q) (h4 : q ≤ 2147483647) (hp : w.cell? ⟨b, 0, none⟩ = some (.int .i64 q)) (hn : R.length ≤ 100000) (h20 : ∀ k, k < R.length → 20 ≤ (rat R k).length ∧ (rat R k).length ≤ 100000) (hF : FitsR R) (hb : base ≤ w.heap.size) (hT : Tbl base G K w R) :
    Calls Tryz.prog 27 #[.pointer (some ⟨b, 0, none⟩), .slice (some ⟨G, 0, none⟩) R.length R.length] w fun e w' => ∃ ps, e = .returned (.tuple #[]) ∧ SrtOf q R ps ∧ Tbl base G K w' (fS R ps (4 * R.length)) ∧ Below base w w' := by
  have hmx : Tryz.prog.follows .mixedOrders = true := by kernel_rfl
  have HSP := hid (sortedPairs_any q b R.length 3 7 (some ⟨G, 0, none⟩) R w h3 h4 hp (hT.lst (Nat.le_refl _)) hF (by omega) (fun k hk => (h20 k hk).1) (by omega) (by omega))
  have HT := hid hT
  have H20 := hid h20
  have HBS := hid hb
  have HKW : Hid (∀ k, k < R.length → K k < w.heap.size) := fun k hk => (hT.row k hk).lt
  obtain ⟨n, hn'⟩ : ∃ n, n = R.length := ⟨_, rfl⟩
  have HN := hid hn'
  rw [← hn'] at hn HSP ⊢
  clear hT h20 hn' hb hF hp
  go_enter Tryz.func27, Tryz.ntmps27
  go_wp2_with fail
  refine HSP.out.mono ?_
  rintro e w1 ⟨uv, ps, rfl, hpm, hpw, hcl, hb1⟩
  have HSO : Hid (SrtOf q R ps) := ⟨hpm, hpw⟩
  have hpl : ps.length = 4 * n := by rw [HSO.out.len, HN.out]
  obtain ⟨ap, cp, huv, hlp⟩ := lstC_of_owns hcl
  have HV : Hid (∀ i, i < ps.length → ∃ g, ap = some ⟨g, 0, none⟩ ∧ w.heap.size ≤ g ∧ g < w1.heap.size ∧ w1.cell? ⟨g, i * 2, none⟩ = some (.int .i64 (cat ps i).1) ∧ w1.cell? ⟨g, i * 2 + 1, none⟩ = some (.int .i64 (cat ps i).2)) := fun i hi => by
    rcases crow_of_owns hcl with ⟨_, h0⟩ | ⟨g, cap, e1, h2, _, h4⟩
    · rw [h0] at hi; exact absurd hi (Nat.not_lt_zero _)
    · rw [huv] at e1
      injection e1 with e1
      exact ⟨g, e1, h2, h4.lt, (h4.cells i hi).1, (h4.cells i hi).2⟩
  subst huv
  rw [hpl]
  have HPL := hid hpl
  have HT1 : Hid (Tbl base G K w1 (fS R ps 0)) := HT.out.below hb1 (Nat.le_refl _)
  have HB1 : Hid (Below base w w1) := hb1.mono HBS.out
  clear hcl hlp hpm hpw hpl hb1 HSP HT
  obtain ⟨N, hN⟩ : ∃ N, N = 4 * n := ⟨_, rfl⟩
  rw [← hN]
  have HNN := hid hN
  have hN4 : N ≤ 400000 := by omega
  clear hN
  go_wp2_with fail
  go_loopw [4, 5, 6, 7, 12] (fun _ _ _ _ iv wr => ∃ i : Nat, i ≤ N ∧ iv = .int .i64 i ∧ Hid (Tbl base G K wr (fS R ps i)) ∧ Hid (Below base w wr) ∧ Hid (∀ g, w.heap.size ≤ g → g < w1.heap.size → wr.heap[g]? = w1.heap[g]?) ∧ Hid (w1.heap.size ≤ wr.heap.size)) (fun _ _ _ _ iv _ => N - (intOf iv).toNat)
  case atStart => exact ⟨0, Nat.zero_le _, rfl, HT1, HB1, fun _ _ _ => rfl, Nat.le_refl _⟩
  case round =>
    obtain ⟨i, hi, rfl, HTw, HBw, HKg, HSz⟩ := hrel
    by_cases hlt : i < N
    · have hlt2 : (i : Int) < (N : Int) := by omega
      have his : IntKind.i64.wrap ((i : Int) + 1) = (i : Int) + 1 := by rw [IntKind.wrap_i64]; omega
      obtain ⟨g, rfl, hg1, hg2, c0, c1⟩ := HV.out i (by have := HPL.out; have := HNN.out; omega)
      replace c0 := (World.cell?_of_block (w := w1) (a := ⟨g, i * 2, none⟩) (HKg.out g hg1 hg2)).trans c0
      replace c1 := (World.cell?_of_block (w := w1) (a := ⟨g, i * 2 + 1, none⟩) (HKg.out g hg1 hg2)).trans c1
      obtain ⟨r, hr⟩ : ∃ r, r = i / 4 := ⟨_, rfl⟩
      obtain ⟨m, hm⟩ : ∃ m, m = i % 4 := ⟨_, rfl⟩
      have e1 : (i : Int) / 4 = (r : Int) := by omega
      have e1t : Int.tdiv (i : Int) 4 = (r : Int) := by rw [Int.tdiv_eq_ediv_of_nonneg (by omega)]; exact e1
      have e2 : (i : Int) % 4 = (m : Int) := by omega
      have e2t : Int.tmod (i : Int) 4 = (m : Int) := by rw [Int.tmod_eq_emod_of_nonneg (by omega)]; exact e2
      have wr1 : IntKind.i64.wrap (r : Int) = (r : Int) := by rw [IntKind.wrap_i64]; omega
      have wm1 : IntKind.i64.wrap (m : Int) = (m : Int) := by rw [IntKind.wrap_i64]; omega
      have hrn : r < n := by have := HNN.out; omega
      have hrR : r < R.length := by have := HN.out; omega
      have hrn2 : (r : Int) < (n : Int) := by omega
      have hm4 : m < 4 := by omega
      have h20 := H20.out r hrR
      have hrl := fS_row_len R ps r i (by have := HNN.out; have := HN.out; omega)
      have hrf : r < (fS R ps i).length := by rw [fS_len]; exact hrR
      have o1 := HTw.out.out r hrf
      rw [hrl] at o1
      obtain ⟨W1, hW1⟩ : ∃ W1, W1 = wr.alloc (.cells #[.int .i64 (cat ps i).1, .int .i64 (cat ps i).2] 58) := ⟨_, rfl⟩
      have hbA : Below wr.heap.size wr W1 := by rw [hW1]; exact (Below.refl _ _).alloc (Nat.le_refl _) _
      have hT1 : Tbl base G K W1 (fS R ps i) := HTw.out.below hbA (Nat.le_refl _)
      have hTd : Tbl base G K W1.drew (fS R ps i) := hT1.keep rfl (fun _ _ => rfl)
      have hbW : Below base w W1.drew := (HBw.out.trans (hbA.mono (Nat.le_trans HBS.out HBw.out.size))).drew
      obtain ⟨j0, hj0⟩ : ∃ j0, j0 = 12 + m := ⟨_, rfl⟩
      obtain ⟨j1, hj1⟩ : ∃ j1, j1 = 16 + m := ⟨_, rfl⟩
      have hrow := hTd.row r hrf
      have q0 := hrow.cells j0 (by rw [hrl]; omega)
      have q1 := hrow.cells j1 (by rw [hrl]; omega)
      have f0 := hrow.soft j0
      have f1 := hrow.soft j1
      have q0' : ∀ d, ({ W1 with drawn := d } : World).cell? ⟨K r, j0, none⟩ = some (.int .i64 (zat (rat (fS R ps i) r) j0)) := fun _ => q0
      have q1' : ∀ d, ({ W1 with drawn := d } : World).cell? ⟨K r, j1, none⟩ = some (.int .i64 (zat (rat (fS R ps i) r) j1)) := fun _ => q1
      have f0' : ∀ d, ({ W1 with drawn := d } : World).frozen? ⟨K r, j0, none⟩ = false := fun _ => f0
      have f1' : ∀ d, ({ W1 with drawn := d } : World).frozen? ⟨K r, j1, none⟩ = false := fun _ => f1
      have hT2 := (hTd.put (cat ps i).1 hrf (by rw [hrl]; omega : j0 < _)).put (k := r) (j := j1) (cat ps i).2 (by rw [put_len]; exact hrf) (by rw [put_row_len hrf, hrl]; omega)
      have hfs : fS R ps (i + 1) = put (put (fS R ps i) r j0 (cat ps i).1) r j1 (cat ps i).2 := by rw [hr, hj0, hj1, hm]; rfl
      have HT2 : Hid (Tbl base G K ((W1.drew.setCell ⟨K r, j0, none⟩ (.int .i64 (cat ps i).1)).setCell ⟨K r, j1, none⟩ (.int .i64 (cat ps i).2)) (fS R ps (i + 1))) := by unfold Hid; rw [hfs]; exact hT2
      have hKb : base ≤ K r := (hTd.new.2 r hrf).1
      have HB2 : Hid (Below base w ((W1.drew.setCell ⟨K r, j0, none⟩ (.int .i64 (cat ps i).1)).setCell ⟨K r, j1, none⟩ (.int .i64 (cat ps i).2))) := (hbW.setCell (p := ⟨K r, j0, none⟩) hKb _).setCell (p := ⟨K r, j1, none⟩) hKb _
      have hKr := HKW.out r hrR
      have HK2 : Hid (∀ g, w.heap.size ≤ g → g < w1.heap.size → ((W1.drew.setCell ⟨K r, j0, none⟩ (.int .i64 (cat ps i).1)).setCell ⟨K r, j1, none⟩ (.int .i64 (cat ps i).2)).heap[g]? = w1.heap[g]?) := fun g h1 h2 => by
        rw [Below.heap_setCell _ _ _ _ (Nat.ne_of_gt (Nat.lt_of_lt_of_le hKr h1)), Below.heap_setCell _ _ _ _ (Nat.ne_of_gt (Nat.lt_of_lt_of_le hKr h1))]
        exact (hbA.block g (Nat.lt_of_lt_of_le h2 HSz.out)).trans (HKg.out g h1 h2)
      have HS2 : Hid (w1.heap.size ≤ ((W1.drew.setCell ⟨K r, j0, none⟩ (.int .i64 (cat ps i).1)).setCell ⟨K r, j1, none⟩ (.int .i64 (cat ps i).2)).heap.size) := by
        have h1 : W1.heap.size ≤ ((W1.drew.setCell ⟨K r, j0, none⟩ (.int .i64 (cat ps i).1)).setCell ⟨K r, j1, none⟩ (.int .i64 (cat ps i).2)).heap.size := by simp [World.setCell]
        have h2 := hbA.size
        have h3 := HSz.out
        exact Nat.le_trans h3 (Nat.le_trans h2 h1)
      have o1' := (hbA.cell (p := ⟨G, r, none⟩) HTw.out.lt).trans o1
      have ej0 : (12 : Int) + (m : Int) = (j0 : Int) := by omega
      have ej1 : (16 : Int) + (m : Int) = (j1 : Int) := by omega
      have wj0 : IntKind.i64.wrap (j0 : Int) = (j0 : Int) := by rw [IntKind.wrap_i64]; omega
      have wj1 : IntKind.i64.wrap (j1 : Int) = (j1 : Int) := by rw [IntKind.wrap_i64]; omega
      have lj0 : (j0 : Int) < ((rat R r).length : Int) := by omega
      have lj1 : (j1 : Int) < ((rat R r).length : Int) := by omega
      have hj01 : j0 ≠ j1 := by omega
      have hbk : W1.heap[wr.heap.size]? = some (.cells #[.int .i64 (cat ps i).1, .int .i64 (cat ps i).2] 58 (0, 0)) := by rw [hW1]; exact heap_alloc_new wr _
      have x0 : W1.cell? ⟨wr.heap.size, 0, none⟩ = some (.int .i64 (cat ps i).1) := by simp [World.cell?, hbk]
      have x1 : W1.cell? ⟨wr.heap.size, 1, none⟩ = some (.int .i64 (cat ps i).2) := by simp [World.cell?, hbk]
      have HPK : Hid (K r < wr.heap.size) := (HTw.out.row r hrf).lt
      generalize (cat ps i).1 = z0 at *
      generalize (cat ps i).2 = z1 at *
      generalize zat (rat (fS R ps i) r) j0 = y0 at *
      generalize zat (rat (fS R ps i) r) j1 = y1 at *
      generalize (rat R r).length = rl at *
      generalize K r = kr at *
      clear hr hm hrl hrf h20 hrR hbA hT1 hTd hbW hrow hT2 hfs hKb hKr hbk HTw HBw HKg HSz o1 hj0 hj1 q0 q1 f0 f1
      have o2 : (wr.alloc (.cells #[.int .i64 z0, .int .i64 z1] 58)).cell? ⟨G, r, none⟩ = some (.slice (some ⟨kr, 0, none⟩) rl rl) := by rw [← hW1]; exact o1'
      go_wp2_with fail
      rw [← hW1]
      clear hW1 c0 c1 o2
      obtain ⟨PB, hPB⟩ : ∃ PB, PB = wr.heap.size := ⟨_, rfl⟩
      have hPk : PB ≠ kr := by have := HPK.out; omega
      rw [← hPB] at x0 x1 ⊢
      clear hPB
      refine wp_region_held_drew (S := (fun W => W.cell? ⟨PB, 0, none⟩ = some (.int .i64 z0) ∧ W.cell? ⟨PB, 1, none⟩ = some (.int .i64 z1))) (by kernel_rfl) ⟨x0, x1⟩ (fun hHeld => ?_)
      refine wpAnyH_takeU (i := 0) (v := .slice (some ⟨kr, 0, none⟩) rl rl) rfl (by kernel_rfl) (by kernel_rfl) (by kernel_rfl) (fun _ _ _ h => h) (by rfl) (fun W hC => by go_simp) hHeld ?_
      simp only [Act.put, List.setIfInBounds_toArray, List.set_cons_zero, List.set_cons_succ]
      refine wpAnyH_takeU (i := 1) (v := .int .i64 (m : Int)) rfl (by kernel_rfl) (by kernel_rfl) (by kernel_rfl) (fun _ _ _ h => h) (by rfl) (fun W hC => by go_simp) hHeld ?_
      simp only [Act.put, List.setIfInBounds_toArray, List.set_cons_zero, List.set_cons_succ]
      refine wpAnyH_takeU (i := 2) (v := .int .i64 (j0 : Int)) rfl (by kernel_rfl) (by kernel_rfl) (by kernel_rfl) (fun _ _ _ h => h) (by rfl) (fun W hC => by go_simp) hHeld ?_
      simp only [Act.put, List.setIfInBounds_toArray, List.set_cons_zero, List.set_cons_succ]
      refine wpAnyH_takeU (i := 3) (v := .slice (some ⟨kr, 0, none⟩) rl rl) rfl (by kernel_rfl) (by kernel_rfl) (by kernel_rfl) (fun _ _ _ h => h) (by rfl) (fun W hC => by go_simp) hHeld ?_
      simp only [Act.put, List.setIfInBounds_toArray, List.set_cons_zero, List.set_cons_succ]
      refine wpAnyH_takeU (i := 4) (v := .int .i64 (m : Int)) rfl (by kernel_rfl) (by kernel_rfl) (by kernel_rfl) (fun _ _ _ h => h) (by rfl) (fun W hC => by go_simp) hHeld ?_
      simp only [Act.put, List.setIfInBounds_toArray, List.set_cons_zero, List.set_cons_succ]
      refine wpAnyH_takeU (i := 5) (v := .int .i64 (j1 : Int)) rfl (by kernel_rfl) (by kernel_rfl) (by kernel_rfl) (fun _ _ _ h => h) (by rfl) (fun W hC => by go_simp) hHeld ?_
      simp only [Act.put, List.setIfInBounds_toArray, List.set_cons_zero, List.set_cons_succ]
      refine wpAnyH_takeU (i := 6) (v := .pointer (some ⟨PB, 0, none⟩)) rfl (by kernel_rfl) (by kernel_rfl) (by kernel_rfl) (fun _ _ _ h => h) (by rfl) (fun W hC => by go_simp) hHeld ?_
      simp only [Act.put, List.setIfInBounds_toArray, List.set_cons_zero, List.set_cons_succ]
      refine wpAnyH_takeU (i := 7) (v := .int .i64 z0) rfl (by kernel_rfl) (by kernel_rfl) (by kernel_rfl) (fun _ _ _ h => h) (by rfl) (fun W hC => by (obtain ⟨y0h, y1h⟩ := hC); go_simp) hHeld ?_
      simp only [Act.put, List.setIfInBounds_toArray, List.set_cons_zero, List.set_cons_succ]
      refine wpAnyH_takeU (i := 8) (v := .pointer (some ⟨PB, 1, none⟩)) rfl (by kernel_rfl) (by kernel_rfl) (by kernel_rfl) (fun _ _ _ h => h) (by rfl) (fun W hC => by go_simp) hHeld ?_
      simp only [Act.put, List.setIfInBounds_toArray, List.set_cons_zero, List.set_cons_succ]
      refine wpAnyH_takeU (i := 9) (v := .int .i64 z1) rfl (by kernel_rfl) (by kernel_rfl) (by kernel_rfl) (fun _ _ _ h => h) (by rfl) (fun W hC => by (obtain ⟨y0h, y1h⟩ := hC); go_simp) hHeld ?_
      simp only [Act.put, List.setIfInBounds_toArray, List.set_cons_zero, List.set_cons_succ]
      refine wpAnyH_takeU (i := 10) (v := .pointer (some ⟨kr, j0, none⟩)) rfl (by kernel_rfl) (by kernel_rfl) (by kernel_rfl) (fun _ _ _ h => h) (by rfl) (fun W hC => by go_simp) hHeld ?_
      simp only [Act.put, List.setIfInBounds_toArray, List.set_cons_zero, List.set_cons_succ]
      refine wpAnyH_ready (rs := [11]) (by kernel_rfl) (by simp) ?_
      refine AllReadyH.consU rfl (fun K' hK' => ?_) AllReadyH.nil
      go_simp
      have xo : ∀ (W : World) (j o : Nat) (v : Value), (W.setCell ⟨kr, j, none⟩ v).cell? ⟨PB, o, none⟩ = W.cell? ⟨PB, o, none⟩ := fun W j o v => World.cell?_setCell_other _ _ _ _ (by intro e1; injection e1 with h2 _ _; exact hPk h2.symm)
      refine hK'.out _ _ ⟨(xo _ _ _ _).trans hHeld.1, (xo _ _ _ _).trans hHeld.2⟩ (fun hHeld => ?_)
      clear hK' K'
      refine wpAnyH_takeU (i := 12) (v := .pointer (some ⟨kr, j1, none⟩)) rfl (by kernel_rfl) (by kernel_rfl) (by kernel_rfl) (fun _ _ _ h => h) (by rfl) (fun W hC => by go_simp) hHeld ?_
      simp only [Act.put, List.setIfInBounds_toArray, List.set_cons_zero, List.set_cons_succ]
      refine wpAnyH_ready (rs := [13]) (by kernel_rfl) (by simp) ?_
      refine AllReadyH.consU rfl (fun K' hK' => ?_) AllReadyH.nil
      have q1s : (W1.drew.setCell ⟨kr, j0, none⟩ (.int .i64 z0)).cell? ⟨kr, j1, none⟩ = some (.int .i64 y1) := by rw [World.cell?_setCell_other _ _ _ _ (by intro e1; injection e1 with _ h2 _; omega)]; exact q1' _
      have f1s : (W1.drew.setCell ⟨kr, j0, none⟩ (.int .i64 z0)).frozen? ⟨kr, j1, none⟩ = false := by rw [World.frozen?_setCell]; exact f1' _
      go_simp
      refine hK'.out _ _ ⟨(xo _ _ _ _).trans hHeld.1, (xo _ _ _ _).trans hHeld.2⟩ (fun hHeld => ?_)
      clear hK' K' hHeld q1s f1s
      refine wpAnyH_done (by kernel_rfl) ?_ _
      go_wp2_with fail
      go_roundw
      case rel => exact ⟨i + 1, by omega, by go_num, HT2, HB2, HK2, HS2⟩
      case measure => simp [intOf]; omega
    · obtain rfl : i = N := by omega
      have HE : Hid (Tbl base G K wr (fS R ps (4 * n))) := by unfold Hid; rw [← HNN.out]; exact HTw.out
      go_wp2_with fail
      go_end0
      exact ⟨ps, rfl, HSO.out, HE.out, HBw.out⟩

end Go.Proofs.YtdpdmgmeieijaaaGreatDoor

namespace Go.Proofs.YtdpdmgmeieijaaaGreatDoor
open Go.RowKit Go.Maps

/-- the holes of a table of steps -/
def tho (p : Nat) (L : List InsZ) (st : List (List Int)) (n : Nat) : List Int := hol (ascC (shns p L st n)) 0
/-- a table's rows -/
def TabG (p : Nat) (L : List InsZ) (st : List (List Int)) (n : Nat) (T : List (List Int)) : Prop := (tho p L st n).length ≤ n ∧ ∃ ps, SrtOf p (fillH (shns p L st n) (tho p L st n)) ps ∧ T = fS (fillH (shns p L st n) (tho p L st n)) ps (4 * n)
theorem TabG.one {p : Nat} {L : List InsZ} {st : List (List Int)} {n : Nat} {T U : List (List Int)} (h : TabG p L st n T) (k : TabG p L st n U) : T = U := by
  obtain ⟨_, ps, h1, rfl⟩ := h
  obtain ⟨_, qs, k1, rfl⟩ := k
  rw [h1.one k1]
theorem TabG.len {p : Nat} {L : List InsZ} {st : List (List Int)} {n : Nat} {T : List (List Int)} (h : TabG p L st n T) : T.length = n := by
  obtain ⟨_, ps, h1, rfl⟩ := h
  rw [fS_len, fillH_len, shns_len]
theorem hlp_bd {p : Nat} (h3 : 3 ≤ p) (op i0 i1 : Int) : 0 ≤ hlp p op i0 i1 ∧ hlp p op i0 i1 < (p : Int) := by
  have e : ∀ x : Int, 0 ≤ ((invn p x : Nat) : Int) ∧ ((invn p x : Nat) : Int) < (p : Int) := fun x => by have := invn_lt p x h3; omega
  unfold hlp
  split
  · exact e _
  · split
    · exact e _
    · split
      · exact e _
      · omega
theorem zat_memR {l : List Int} {P : Int → Prop} (h0 : P 0) (h : ∀ x, x ∈ l → P x) (j : Nat) : P (zat l j) := by
  by_cases hj : j < l.length
  · rw [zat_getR l j hj]; exact h _ (List.getElem_mem hj)
  · have : zat l j = 0 := by simp [zat, List.getElem?_eq_none (Nat.not_lt.1 hj)]
    rw [this]; exact h0
theorem zat_set' (l : List Int) (k j : Nat) (x : Int) : zat (l.set k x) j = x ∨ zat (l.set k x) j = zat l j := by
  by_cases h : k < l.length
  · rw [zat_set h]; split <;> simp
  · rw [List.set_eq_of_length_le (Nat.not_lt.1 h)]; exact .inr rfl
/-- all of a row that shows a step is an element -/
theorem srow_bd {p nL : Nat} {op : Int} {s : List Int} (h3 : 3 ≤ p) (hs : StB p nL s) (j : Nat) : 0 ≤ zat (srow p nL op s) j ∧ zat (srow p nL op s) j < (p : Int) := by
  have hz : ∀ i, 0 ≤ zat s i ∧ zat s i < (p : Int) := fun i => by
    by_cases h : i < 10
    · exact hs.2.1 i h
    · have : zat s i = 0 := by simp [zat, List.getElem?_eq_none (show s.length ≤ i by have := hs.1; omega)]
      omega
  have h1 : ∀ (l : List Int) (k : Nat) (x : Int), (0 ≤ x ∧ x < (p : Int)) → (∀ j, 0 ≤ zat l j ∧ zat l j < (p : Int)) → ∀ j, 0 ≤ zat (l.set k x) j ∧ zat (l.set k x) j < (p : Int) := fun l k x hx hl j => by
    rcases zat_set' l k j x with e | e
    · rw [e]; exact hx
    · rw [e]; exact hl j
  have h0 : ∀ j, 0 ≤ zat (List.replicate (20 + nL) (0 : Int)) j ∧ zat (List.replicate (20 + nL) (0 : Int)) j < (p : Int) := fun j => by
    refine zat_memR (P := fun x => 0 ≤ x ∧ x < (p : Int)) (by omega) (fun x hx => ?_) j
    rw [List.eq_of_mem_replicate hx]; omega
  unfold srow
  exact h1 _ _ _ (by omega) (h1 _ _ _ (hlp_bd h3 _ _ _) (h1 _ _ _ (hz 9) (h1 _ _ _ (hz 8) (h1 _ _ _ (hz 7) (h1 _ _ _ (hz 6) (h1 _ _ _ (hz 5) (h1 _ _ _ (hz 4) (h1 _ _ _ (hz 3) (h1 _ _ _ (hz 2) (h1 _ _ _ (hz 1) h0)))))))))) j
theorem shn_bd {p : Nat} {L : List InsZ} {st : List (List Int)} (h3 : 3 ≤ p) (hst : ∀ s, s ∈ st → StB p L.length s) (h0 : 0 < st.length) (i j : Nat) : 0 ≤ zat (shn p L st i) j ∧ zat (shn p L st i) j < (p : Int) :=
  srow_bd h3 (hst _ (rat_mem (by omega))) j
theorem allc_shns {p : Nat} {L : List InsZ} {st : List (List Int)} {n : Nat} (h3 : 3 ≤ p) (hst : ∀ s, s ∈ st → StB p L.length s) (h0 : 0 < st.length) {x : Int} (hx : x ∈ allc (shns p L st n)) : 0 ≤ x ∧ x < (p : Int) := by
  unfold allc at hx
  obtain ⟨r, hr, hx⟩ := List.mem_flatMap.1 hx
  unfold shns at hr
  obtain ⟨i, _, rfl⟩ := List.mem_map.1 hr
  unfold rc3 at hx
  simp only [List.mem_cons, List.not_mem_nil, or_false] at hx
  rcases hx with rfl | rfl | rfl <;> exact shn_bd h3 hst h0 _ _
theorem hol_bd : ∀ (os : List Int) (x t : Int), (∀ a, a ∈ os → a < t) → ∀ y, y ∈ hol os x → x ≤ y ∧ y < t ∨ (∃ a, a ∈ os ∧ a < y ∧ y < t)
  | [], _, _, _, y, hy => by cases hy
  | a :: os, x, t, ht, y, hy => by
    rw [hol] at hy
    have ha := ht a (by simp)
    rcases List.mem_append.1 hy with h | h
    · have := gap_mem.1 h
      exact .inl ⟨this.1, by omega⟩
    · rcases hol_bd os (a + 1) t (fun b hb => ht b (by simp [hb])) y h with h2 | ⟨b, hb, h2⟩
      · exact .inr ⟨a, by simp, by omega, h2.2⟩
      · exact .inr ⟨b, by simp [hb], h2⟩
theorem tho_bd {p : Nat} {L : List InsZ} {st : List (List Int)} {n : Nat} (h3 : 3 ≤ p) (hst : ∀ s, s ∈ st → StB p L.length s) (h0 : 0 < st.length) {y : Int} (hy : y ∈ tho p L st n) : 0 ≤ y ∧ y < (p : Int) := by
  have hon := once_compact (allc (shns p L st n))
  have hb : ∀ a, a ∈ ascC (shns p L st n) → 0 ≤ a ∧ a < (p : Int) := fun a ha => allc_shns h3 hst h0 ((hon.2 a).1 ha)
  rcases hol_bd _ 0 (p : Int) (fun a ha => (hb a ha).2) y hy with h | ⟨a, ha, h1, h2⟩
  · exact h
  · have := (hb a ha).1
    exact ⟨by omega, h2⟩
theorem fits_tab {p : Nat} {L : List InsZ} {st : List (List Int)} {n : Nat} (h3 : 3 ≤ p) (h4 : p ≤ 2147483647) (hnL : L.length ≤ 64) (hst : ∀ s, s ∈ st → StB p L.length s) (h0 : 0 < st.length) : FitsR (fillH (shns p L st n) (tho p L st n)) := fun k hk => by
  rw [fillH_len, shns_len] at hk
  have hk' : k < (shns p L st n).length := by rw [shns_len]; exact hk
  refine ⟨fun j _ => ?_, by rw [fillH_row_len hk', shns_rat _ _ _ hk, shn_len]; omega⟩
  have hb := shn_bd h3 hst h0 k j
  rw [fillH_rat hk', shns_rat _ _ _ hk]
  split
  · have hz : 0 ≤ zat (tho p L st n) k ∧ zat (tho p L st n) k < (p : Int) := zat_memR (P := fun x => 0 ≤ x ∧ x < (p : Int)) (by omega) (fun x hx => tho_bd h3 hst h0 hx) k
    rcases zat_set' (shn p L st k) 6 j (zat (tho p L st n) k) with e | e
    · rw [e]; omega
    · rw [e]; omega
  · omega

end Go.Proofs.YtdpdmgmeieijaaaGreatDoor
