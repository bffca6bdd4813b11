/- Package pledge: shows. -/
import Derived.Test.YtmmlphdekeflfaaGreatDoorPgH
import Derived.Test.YtmmlphdekeflfaaGreatDoorPcAM
import Derived.Test.YtmmlphdekeflfaaGreatDoorPcAV
namespace Go.Proofs.YtmmlphdekeflfaaGreatDoor
open Go.RowKit

set_option maxRecDepth 100000 in
set_option maxHeartbeats 4000000 in
theorem pshows_any (q n dd b bd s d hi N c1 cp cr cn cpl : Nat) (r t : Int) (a1 ap ar an' apl : Option Addr) (x y z2 z3 : Value) (root ps pl : List Int) (rows nodes : List (List Int)) (w : World) (hhi : hi ≤ 12) (ok : SpgOk q n dd) (hs : SpgAt w s b q n dd) (hd : DomAt w d bd (N : Int) r t) (hN : N ≤ 65536)
    (hps : ps.length ≤ 281474976710656) (hrl : rows.length ≤ 281474976710656) (hnl : nodes.length ≤ 281474976710656) (hf4 : Fits root) (hfp : Fits ps) (hfr : FitsR rows) (hfn : FitsR nodes)
    (hl4 : Lst w.heap.size w a1 c1 root) (hp : Lst w.heap.size w ap cp ps) (hr : LstR w.heap.size w ar cr rows) (hn : LstR w.heap.size w an' cn nodes) (hpl : RowB w.heap.size w apl pl) :
    Calls Tryz.prog 66 #[.agg #[x, .pointer (some ⟨d, 0, none⟩), .int .i64 (hi : Int), y], .pointer (some ⟨s, 0, none⟩), .agg #[.slice a1 root.length c1, z2, z3, .slice ap ps.length cp, .slice ar rows.length cr, .slice an' nodes.length cn], .slice apl pl.length cpl] w fun e w' => e = .returned (.bool (decide (ps = pl) && (wiB (2 ^ hi) rows && chkf q n root (N : Int) ps rows nodes))) ∧ Below w.heap.size w w' := by
  obtain ⟨W1, hW1⟩ : ∃ W1, W1 = (w.alloc (.cells #[x, .pointer (some ⟨d, 0, none⟩), .int .i64 (hi : Int), y] 92)).alloc (.cells #[.slice a1 root.length c1, z2, z3, .slice ap ps.length cp, .slice ar rows.length cr, .slice an' nodes.length cn] 51) := ⟨_, rfl⟩
  have hb1 : Below w.heap.size w W1 := by rw [hW1]; exact ((Below.refl _ _).alloc (Nat.le_refl _) _).alloc (by simp) _
  have hs1 : W1.heap[w.heap.size]? = some (.cells #[x, .pointer (some ⟨d, 0, none⟩), .int .i64 (hi : Int), y] 92 (0, 0)) := by
    rw [hW1]
    have := heap_alloc_new w (.cells #[x, .pointer (some ⟨d, 0, none⟩), .int .i64 (hi : Int), y] 92)
    have hb := (Below.refl (w.alloc (.cells #[x, .pointer (some ⟨d, 0, none⟩), .int .i64 (hi : Int), y] 92)).heap.size (w.alloc (.cells #[x, .pointer (some ⟨d, 0, none⟩), .int .i64 (hi : Int), y] 92))).alloc (Nat.le_refl _) (.cells #[.slice a1 root.length c1, z2, z3, .slice ap ps.length cp, .slice ar rows.length cr, .slice an' nodes.length cn] 51)
    exact (hb.block _ (by simp)).trans this
  have hs2 : W1.heap[w.heap.size + 1]? = some (.cells #[.slice a1 root.length c1, z2, z3, .slice ap ps.length cp, .slice ar rows.length cr, .slice an' nodes.length cn] 51 (0, 0)) := by
    rw [hW1]
    have := heap_alloc_new (w.alloc (.cells #[x, .pointer (some ⟨d, 0, none⟩), .int .i64 (hi : Int), y] 92)) (.cells #[.slice a1 root.length c1, z2, z3, .slice ap ps.length cp, .slice ar rows.length cr, .slice an' nodes.length cn] 51)
    simpa using this
  obtain ⟨G, hG⟩ : ∃ G, G = w.heap.size := ⟨_, rfl⟩
  obtain ⟨P, hPP⟩ : ∃ P, P = w.heap.size + 1 := ⟨_, rfl⟩
  rw [← hG] at hs1
  rw [← hPP] at hs2
  have HT : Hid (∀ W, Below W1.heap.size W1 W → Below w.heap.size w W) := fun W hW => hb1.trans (hW.mono hb1.size)
  have HK : Hid (∀ W, Below W1.heap.size W1 W → (fun W => W.cell? ⟨G, 0, none⟩ = some x ∧ W.cell? ⟨G, 1, none⟩ = some (.pointer (some ⟨d, 0, none⟩)) ∧ W.cell? ⟨G, 2, none⟩ = some (.int .i64 (hi : Int)) ∧ W.cell? ⟨G, 3, none⟩ = some y ∧ W.cell? ⟨P, 0, none⟩ = some (.slice a1 root.length c1) ∧ W.cell? ⟨P, 3, none⟩ = some (.slice ap ps.length cp) ∧ W.cell? ⟨P, 4, none⟩ = some (.slice ar rows.length cr) ∧ W.cell? ⟨P, 5, none⟩ = some (.slice an' nodes.length cn)) W) := fun W hW => by
    have e1 := (hW.block G (Array.getElem?_eq_some_iff.1 hs1).1).trans hs1
    have e2 := (hW.block P (Array.getElem?_eq_some_iff.1 hs2).1).trans hs2
    refine ⟨?_, ?_, ?_, ?_, ?_, ?_, ?_, ?_⟩ <;> simp [World.cell?, e1, e2]
  obtain ⟨E1, hE1⟩ : ∃ E1, E1 = decide (ps = pl) := ⟨_, rfl⟩
  obtain ⟨E2, hE2⟩ : ∃ E2, E2 = wiB (2 ^ hi) rows := ⟨_, rfl⟩
  obtain ⟨E3, hE3⟩ : ∃ E3, E3 = chkf q n root (N : Int) ps rows nodes := ⟨_, rfl⟩
  obtain ⟨X, hX⟩ : ∃ X, X = 2 ^ hi := ⟨_, rfl⟩
  rw [← hE1, ← hE2, ← hE3]
  have HEQ : Hid (∀ W, Below W1.heap.size W1 W → Calls Tryz.prog 78 #[.slice ap ps.length cp, .slice apl pl.length cpl] W fun e w' => e = .returned (.bool E1) ∧ Below W1.heap.size W1 w') := fun W hW => by
    have hh := HT.out W hW
    rw [hE1]
    refine (equal_any cp cpl ap apl ps pl W hps ((hp.below hh).mono hh.size).row ((hpl.below hh).mono hh.size)).mono ?_
    rintro e w' ⟨rfl, h⟩
    exact ⟨rfl, hW.trans (h.mono hW.size)⟩
  have HTA : Hid (∀ W, Below W1.heap.size W1 W → Calls Tryz.prog 120 #[.agg #[x, .pointer (some ⟨d, 0, none⟩), .int .i64 (hi : Int), y]] W fun e w' => e = .returned (.int .i64 (X : Int)) ∧ Below W1.heap.size W1 w') := fun W hW => by
    rw [hX]
    refine (tall_any _ _ _ hi W hhi).mono ?_
    rintro e w' ⟨rfl, h⟩
    exact ⟨rfl, hW.trans (h.mono hW.size)⟩
  have HAW : Hid (∀ W, Below W1.heap.size W1 W → Calls Tryz.prog 34 #[.slice ar rows.length cr, .int .i64 (X : Int)] W fun e w' => e = .returned (.bool E2) ∧ Below W1.heap.size W1 w') := fun W hW => by
    have hh := HT.out W hW
    rw [hE2, ← hX]
    refine (areWide_any cr X ar rows W hrl ((hr.below hh).mono hh.size)).mono ?_
    rintro e w' ⟨rfl, h⟩
    exact ⟨rfl, hW.trans (h.mono hW.size)⟩
  have HSZ : Hid (∀ W, Below W1.heap.size W1 W → Calls Tryz.prog 101 #[.pointer (some ⟨d, 0, none⟩)] W fun e w' => e = .returned (.int .i64 (N : Int)) ∧ Below W1.heap.size W1 w') := fun W hW => by
    refine (size_any d bd (N : Int) r t W (hd.below (HT.out W hW) hd.lt)).mono ?_
    rintro e w' ⟨rfl, rfl⟩
    exact ⟨rfl, hW⟩
  have HCK : Hid (∀ W, Below W1.heap.size W1 W → Calls Tryz.prog 121 #[.pointer (some ⟨s, 0, none⟩), .slice a1 root.length c1, .int .i64 (N : Int), .agg #[.slice ap ps.length cp, .slice ar rows.length cr, .slice an' nodes.length cn]] W fun e w' => e = .returned (.bool E3) ∧ Below W1.heap.size W1 w') := fun W hW => by
    have hh := HT.out W hW
    rw [hE3]
    refine (check_any q n dd b s c1 cp cr cn a1 ap ar an' root (N : Int) ps rows nodes W ok (hs.keep hh) hps hnl (by omega) (by omega) hf4 hfp hfr hfn ((hl4.below hh).mono hh.size) ((hp.below hh).mono hh.size) ((hr.below hh).mono hh.size) ((hn.below hh).mono hh.size)).mono ?_
    rintro e w' ⟨rfl, h⟩
    exact ⟨rfl, hW.trans (h.mono hW.size)⟩
  have hdw : Below W1.heap.size W1 W1.drew := (Below.refl _ _).drew
  clear hs hd hf4 hfp hfr hfn hl4 hp hr hn hpl hs1 hs2 hb1 hE1 hE2 hE3 hX
  generalize root.length = n1 at *
  generalize ps.length = n2 at *
  generalize rows.length = n3 at *
  generalize nodes.length = n4 at *
  generalize pl.length = n5 at *
  have HW1 := hid hW1
  have HG := hid hG
  have HPP := hid hPP
  clear hW1 hG hPP hps hrl hnl
  cases E1 with
  | false =>
    go_enter Tryz.func66, Tryz.ntmps66
    go_wp2_with fail
    rw [← HPP.out, ← HG.out, ← HW1.out]
    clear HW1 HG HPP
    refine wp_region_held_drew (S := fun W => W.cell? ⟨G, 0, none⟩ = some x ∧ W.cell? ⟨G, 1, none⟩ = some (.pointer (some ⟨d, 0, none⟩)) ∧ W.cell? ⟨G, 2, none⟩ = some (.int .i64 (hi : Int)) ∧ W.cell? ⟨G, 3, none⟩ = some y ∧ W.cell? ⟨P, 0, none⟩ = some (.slice a1 n1 c1) ∧ W.cell? ⟨P, 3, none⟩ = some (.slice ap n2 cp) ∧ W.cell? ⟨P, 4, none⟩ = some (.slice ar n3 cr) ∧ W.cell? ⟨P, 5, none⟩ = some (.slice an' n4 cn)) (by kernel_rfl) (HK.out W1.drew hdw) (fun hHeld => ?_)
    refine wpAnyH_takeU (i := 0) (v := .pointer (some ⟨P, 3, none⟩)) rfl (by kernel_rfl) (by kernel_rfl) (by kernel_rfl) (fun _ _ _ h => h) (by rfl) (fun W hC => by go_simp) hHeld ?_
    simp only [Act.put, List.setIfInBounds_toArray, List.set_cons_zero, List.set_cons_succ]
    refine wpAnyH_takeU (i := 1) (v := .pointer (some ⟨P, 3, none⟩)) rfl (by kernel_rfl) (by kernel_rfl) (by kernel_rfl) (fun _ _ _ h => h) (by rfl) (fun W hC => by go_simp) hHeld ?_
    simp only [Act.put, List.setIfInBounds_toArray, List.set_cons_zero, List.set_cons_succ]
    refine wpAnyH_takeU (i := 2) (v := .slice ap n2 cp) rfl (by kernel_rfl) (by kernel_rfl) (by kernel_rfl) (fun _ _ _ h => h) (by rfl) (fun W hC => by (obtain ⟨y0, y1, y2, y3, y4, y5, y6, y7⟩ := hC); go_simp) hHeld ?_
    simp only [Act.put, List.setIfInBounds_toArray, List.set_cons_zero, List.set_cons_succ]
    refine wpAnyH_takeU (i := 3) (v := .slice apl n5 cpl) rfl (by kernel_rfl) (by kernel_rfl) (by kernel_rfl) (fun _ _ _ h => h) (by rfl) (fun W hC => by go_simp) hHeld ?_
    simp only [Act.put, List.setIfInBounds_toArray, List.set_cons_zero, List.set_cons_succ]
    refine wpAnyH_ready (rs := [4]) (by kernel_rfl) (by simp) ?_
    refine AllReadyH.consU rfl (fun K' hK' => ?_) AllReadyH.nil
    go_simp
    refine (HEQ.out _ hdw).mono ?_
    rintro e w4 ⟨rfl, hb4⟩
    refine hK'.out _ _ (HK.out w4 hb4) (fun hHeld => ?_)
    clear hK' K'
    refine wpAnyH_takeU (i := 5) (v := .bool false) rfl (by kernel_rfl) (by kernel_rfl) (by kernel_rfl) (fun _ _ _ h => h) (by rfl) (fun W hC => by go_simp) hHeld ?_
    simp only [Act.put, List.setIfInBounds_toArray, List.set_cons_zero, List.set_cons_succ]
    refine wpAnyH_skipV (i := 6) rfl (by kernel_rfl) (by kernel_rfl) (by kernel_rfl) (fun _ _ _ h => h) (by rfl) hHeld ?_
    simp only [Act.put, List.setIfInBounds_toArray, List.set_cons_zero, List.set_cons_succ]
    refine wpAnyH_skipV (i := 7) rfl (by kernel_rfl) (by kernel_rfl) (by kernel_rfl) (fun _ _ _ h => h) (by rfl) hHeld ?_
    simp only [Act.put, List.setIfInBounds_toArray, List.set_cons_zero, List.set_cons_succ]
    refine wpAnyH_skipV (i := 8) rfl (by kernel_rfl) (by kernel_rfl) (by kernel_rfl) (fun _ _ _ h => h) (by rfl) hHeld ?_
    simp only [Act.put, List.setIfInBounds_toArray, List.set_cons_zero, List.set_cons_succ]
    refine wpAnyH_skipV (i := 9) rfl (by kernel_rfl) (by kernel_rfl) (by kernel_rfl) (fun _ _ _ h => h) (by rfl) hHeld ?_
    simp only [Act.put, List.setIfInBounds_toArray, List.set_cons_zero, List.set_cons_succ]
    refine wpAnyH_skipV (i := 10) rfl (by kernel_rfl) (by kernel_rfl) (by kernel_rfl) (fun _ _ _ h => h) (by rfl) hHeld ?_
    simp only [Act.put, List.setIfInBounds_toArray, List.set_cons_zero, List.set_cons_succ]
    refine wpAnyH_skipV (i := 11) rfl (by kernel_rfl) (by kernel_rfl) (by kernel_rfl) (fun _ _ _ h => h) (by rfl) hHeld ?_
    simp only [Act.put, List.setIfInBounds_toArray, List.set_cons_zero, List.set_cons_succ]
    refine wpAnyH_takeU (i := 12) (v := .bool false) rfl (by kernel_rfl) (by kernel_rfl) (by kernel_rfl) (fun _ _ _ h => h) (by rfl) (fun W hC => by go_simp) hHeld ?_
    simp only [Act.put, List.setIfInBounds_toArray, List.set_cons_zero, List.set_cons_succ]
    refine wpAnyH_takeU (i := 13) (v := .bool false) rfl (by kernel_rfl) (by kernel_rfl) (by kernel_rfl) (fun _ _ _ h => h) (by rfl) (fun W hC => by go_simp) hHeld ?_
    simp only [Act.put, List.setIfInBounds_toArray, List.set_cons_zero, List.set_cons_succ]
    refine wpAnyH_skipV (i := 14) rfl (by kernel_rfl) (by kernel_rfl) (by kernel_rfl) (fun _ _ _ h => h) (by rfl) hHeld ?_
    simp only [Act.put, List.setIfInBounds_toArray, List.set_cons_zero, List.set_cons_succ]
    refine wpAnyH_skipV (i := 15) rfl (by kernel_rfl) (by kernel_rfl) (by kernel_rfl) (fun _ _ _ h => h) (by rfl) hHeld ?_
    simp only [Act.put, List.setIfInBounds_toArray, List.set_cons_zero, List.set_cons_succ]
    refine wpAnyH_skipV (i := 16) rfl (by kernel_rfl) (by kernel_rfl) (by kernel_rfl) (fun _ _ _ h => h) (by rfl) hHeld ?_
    simp only [Act.put, List.setIfInBounds_toArray, List.set_cons_zero, List.set_cons_succ]
    refine wpAnyH_skipV (i := 17) rfl (by kernel_rfl) (by kernel_rfl) (by kernel_rfl) (fun _ _ _ h => h) (by rfl) hHeld ?_
    simp only [Act.put, List.setIfInBounds_toArray, List.set_cons_zero, List.set_cons_succ]
    refine wpAnyH_skipV (i := 18) rfl (by kernel_rfl) (by kernel_rfl) (by kernel_rfl) (fun _ _ _ h => h) (by rfl) hHeld ?_
    simp only [Act.put, List.setIfInBounds_toArray, List.set_cons_zero, List.set_cons_succ]
    refine wpAnyH_skipV (i := 19) rfl (by kernel_rfl) (by kernel_rfl) (by kernel_rfl) (fun _ _ _ h => h) (by rfl) hHeld ?_
    simp only [Act.put, List.setIfInBounds_toArray, List.set_cons_zero, List.set_cons_succ]
    refine wpAnyH_skipV (i := 20) rfl (by kernel_rfl) (by kernel_rfl) (by kernel_rfl) (fun _ _ _ h => h) (by rfl) hHeld ?_
    simp only [Act.put, List.setIfInBounds_toArray, List.set_cons_zero, List.set_cons_succ]
    refine wpAnyH_skipV (i := 21) rfl (by kernel_rfl) (by kernel_rfl) (by kernel_rfl) (fun _ _ _ h => h) (by rfl) hHeld ?_
    simp only [Act.put, List.setIfInBounds_toArray, List.set_cons_zero, List.set_cons_succ]
    refine wpAnyH_skipV (i := 22) rfl (by kernel_rfl) (by kernel_rfl) (by kernel_rfl) (fun _ _ _ h => h) (by rfl) hHeld ?_
    simp only [Act.put, List.setIfInBounds_toArray, List.set_cons_zero, List.set_cons_succ]
    refine wpAnyH_takeU (i := 23) (v := .bool false) rfl (by kernel_rfl) (by kernel_rfl) (by kernel_rfl) (fun _ _ _ h => h) (by rfl) (fun W hC => by go_simp) hHeld ?_
    simp only [Act.put, List.setIfInBounds_toArray, List.set_cons_zero, List.set_cons_succ]
    refine wpAnyH_takeU (i := 24) (v := .bool false) rfl (by kernel_rfl) (by kernel_rfl) (by kernel_rfl) (fun _ _ _ h => h) (by rfl) (fun W hC => by go_simp) hHeld ?_
    simp only [Act.put, List.setIfInBounds_toArray, List.set_cons_zero, List.set_cons_succ]
    refine wpAnyH_done (by kernel_rfl) ?_ _
    go_wp2_with fail
    go_ret
    exact ⟨rfl, HT.out _ hb4⟩
  | true =>
    cases E2 with
    | false =>
      go_enter Tryz.func66, Tryz.ntmps66
      go_wp2_with fail
      rw [← HPP.out, ← HG.out, ← HW1.out]
      clear HW1 HG HPP
      refine wp_region_held_drew (S := fun W => W.cell? ⟨G, 0, none⟩ = some x ∧ W.cell? ⟨G, 1, none⟩ = some (.pointer (some ⟨d, 0, none⟩)) ∧ W.cell? ⟨G, 2, none⟩ = some (.int .i64 (hi : Int)) ∧ W.cell? ⟨G, 3, none⟩ = some y ∧ W.cell? ⟨P, 0, none⟩ = some (.slice a1 n1 c1) ∧ W.cell? ⟨P, 3, none⟩ = some (.slice ap n2 cp) ∧ W.cell? ⟨P, 4, none⟩ = some (.slice ar n3 cr) ∧ W.cell? ⟨P, 5, none⟩ = some (.slice an' n4 cn)) (by kernel_rfl) (HK.out W1.drew hdw) (fun hHeld => ?_)
      refine wpAnyH_takeU (i := 0) (v := .pointer (some ⟨P, 3, none⟩)) rfl (by kernel_rfl) (by kernel_rfl) (by kernel_rfl) (fun _ _ _ h => h) (by rfl) (fun W hC => by go_simp) hHeld ?_
      simp only [Act.put, List.setIfInBounds_toArray, List.set_cons_zero, List.set_cons_succ]
      refine wpAnyH_takeU (i := 1) (v := .pointer (some ⟨P, 3, none⟩)) rfl (by kernel_rfl) (by kernel_rfl) (by kernel_rfl) (fun _ _ _ h => h) (by rfl) (fun W hC => by go_simp) hHeld ?_
      simp only [Act.put, List.setIfInBounds_toArray, List.set_cons_zero, List.set_cons_succ]
      refine wpAnyH_takeU (i := 2) (v := .slice ap n2 cp) rfl (by kernel_rfl) (by kernel_rfl) (by kernel_rfl) (fun _ _ _ h => h) (by rfl) (fun W hC => by (obtain ⟨y0, y1, y2, y3, y4, y5, y6, y7⟩ := hC); go_simp) hHeld ?_
      simp only [Act.put, List.setIfInBounds_toArray, List.set_cons_zero, List.set_cons_succ]
      refine wpAnyH_takeU (i := 3) (v := .slice apl n5 cpl) rfl (by kernel_rfl) (by kernel_rfl) (by kernel_rfl) (fun _ _ _ h => h) (by rfl) (fun W hC => by go_simp) hHeld ?_
      simp only [Act.put, List.setIfInBounds_toArray, List.set_cons_zero, List.set_cons_succ]
      refine wpAnyH_ready (rs := [4]) (by kernel_rfl) (by simp) ?_
      refine AllReadyH.consU rfl (fun K' hK' => ?_) AllReadyH.nil
      go_simp
      refine (HEQ.out _ hdw).mono ?_
      rintro e w4 ⟨rfl, hb4⟩
      refine hK'.out _ _ (HK.out w4 hb4) (fun hHeld => ?_)
      clear hK' K'
      refine wpAnyH_takeU (i := 5) (v := .bool true) rfl (by kernel_rfl) (by kernel_rfl) (by kernel_rfl) (fun _ _ _ h => h) (by rfl) (fun W hC => by go_simp) hHeld ?_
      simp only [Act.put, List.setIfInBounds_toArray, List.set_cons_zero, List.set_cons_succ]
      refine wpAnyH_takeU (i := 6) (v := .pointer (some ⟨P, 3, none⟩)) rfl (by kernel_rfl) (by kernel_rfl) (by kernel_rfl) (fun _ _ _ h => h) (by rfl) (fun W hC => by go_simp) hHeld ?_
      simp only [Act.put, List.setIfInBounds_toArray, List.set_cons_zero, List.set_cons_succ]
      refine wpAnyH_takeU (i := 7) (v := .pointer (some ⟨P, 4, none⟩)) rfl (by kernel_rfl) (by kernel_rfl) (by kernel_rfl) (fun _ _ _ h => h) (by rfl) (fun W hC => by go_simp) hHeld ?_
      simp only [Act.put, List.setIfInBounds_toArray, List.set_cons_zero, List.set_cons_succ]
      refine wpAnyH_takeU (i := 8) (v := .slice ar n3 cr) rfl (by kernel_rfl) (by kernel_rfl) (by kernel_rfl) (fun _ _ _ h => h) (by rfl) (fun W hC => by (obtain ⟨y0, y1, y2, y3, y4, y5, y6, y7⟩ := hC); go_simp) hHeld ?_
      simp only [Act.put, List.setIfInBounds_toArray, List.set_cons_zero, List.set_cons_succ]
      refine wpAnyH_takeU (i := 9) (v := .agg #[x, .pointer (some ⟨d, 0, none⟩), .int .i64 (hi : Int), y]) rfl (by kernel_rfl) (by kernel_rfl) (by kernel_rfl) (fun _ _ _ h => h) (by rfl) (fun W hC => by (obtain ⟨y0, y1, y2, y3, y4, y5, y6, y7⟩ := hC); go_simp) hHeld ?_
      simp only [Act.put, List.setIfInBounds_toArray, List.set_cons_zero, List.set_cons_succ]
      refine wpAnyH_ready (rs := [10]) (by kernel_rfl) (by simp) ?_
      refine AllReadyH.consU rfl (fun K' hK' => ?_) AllReadyH.nil
      go_simp
      refine (HTA.out _ hb4).mono ?_
      rintro e w5 ⟨rfl, hb5⟩
      refine hK'.out _ _ (HK.out w5 hb5) (fun hHeld => ?_)
      clear hK' K'
      refine wpAnyH_ready (rs := [11]) (by kernel_rfl) (by simp) ?_
      refine AllReadyH.consU rfl (fun K' hK' => ?_) AllReadyH.nil
      go_simp
      refine (HAW.out _ hb5).mono ?_
      rintro e w6 ⟨rfl, hb6⟩
      refine hK'.out _ _ (HK.out w6 hb6) (fun hHeld => ?_)
      clear hK' K'
      refine wpAnyH_takeU (i := 12) (v := .bool false) rfl (by kernel_rfl) (by kernel_rfl) (by kernel_rfl) (fun _ _ _ h => h) (by rfl) (fun W hC => by go_simp) hHeld ?_
      simp only [Act.put, List.setIfInBounds_toArray, List.set_cons_zero, List.set_cons_succ]
      refine wpAnyH_takeU (i := 13) (v := .bool false) rfl (by kernel_rfl) (by kernel_rfl) (by kernel_rfl) (fun _ _ _ h => h) (by rfl) (fun W hC => by go_simp) hHeld ?_
      simp only [Act.put, List.setIfInBounds_toArray, List.set_cons_zero, List.set_cons_succ]
      refine wpAnyH_skipV (i := 14) rfl (by kernel_rfl) (by kernel_rfl) (by kernel_rfl) (fun _ _ _ h => h) (by rfl) hHeld ?_
      simp only [Act.put, List.setIfInBounds_toArray, List.set_cons_zero, List.set_cons_succ]
      refine wpAnyH_skipV (i := 15) rfl (by kernel_rfl) (by kernel_rfl) (by kernel_rfl) (fun _ _ _ h => h) (by rfl) hHeld ?_
      simp only [Act.put, List.setIfInBounds_toArray, List.set_cons_zero, List.set_cons_succ]
      refine wpAnyH_skipV (i := 16) rfl (by kernel_rfl) (by kernel_rfl) (by kernel_rfl) (fun _ _ _ h => h) (by rfl) hHeld ?_
      simp only [Act.put, List.setIfInBounds_toArray, List.set_cons_zero, List.set_cons_succ]
      refine wpAnyH_skipV (i := 17) rfl (by kernel_rfl) (by kernel_rfl) (by kernel_rfl) (fun _ _ _ h => h) (by rfl) hHeld ?_
      simp only [Act.put, List.setIfInBounds_toArray, List.set_cons_zero, List.set_cons_succ]
      refine wpAnyH_skipV (i := 18) rfl (by kernel_rfl) (by kernel_rfl) (by kernel_rfl) (fun _ _ _ h => h) (by rfl) hHeld ?_
      simp only [Act.put, List.setIfInBounds_toArray, List.set_cons_zero, List.set_cons_succ]
      refine wpAnyH_skipV (i := 19) rfl (by kernel_rfl) (by kernel_rfl) (by kernel_rfl) (fun _ _ _ h => h) (by rfl) hHeld ?_
      simp only [Act.put, List.setIfInBounds_toArray, List.set_cons_zero, List.set_cons_succ]
      refine wpAnyH_skipV (i := 20) rfl (by kernel_rfl) (by kernel_rfl) (by kernel_rfl) (fun _ _ _ h => h) (by rfl) hHeld ?_
      simp only [Act.put, List.setIfInBounds_toArray, List.set_cons_zero, List.set_cons_succ]
      refine wpAnyH_skipV (i := 21) rfl (by kernel_rfl) (by kernel_rfl) (by kernel_rfl) (fun _ _ _ h => h) (by rfl) hHeld ?_
      simp only [Act.put, List.setIfInBounds_toArray, List.set_cons_zero, List.set_cons_succ]
      refine wpAnyH_skipV (i := 22) rfl (by kernel_rfl) (by kernel_rfl) (by kernel_rfl) (fun _ _ _ h => h) (by rfl) hHeld ?_
      simp only [Act.put, List.setIfInBounds_toArray, List.set_cons_zero, List.set_cons_succ]
      refine wpAnyH_takeU (i := 23) (v := .bool false) rfl (by kernel_rfl) (by kernel_rfl) (by kernel_rfl) (fun _ _ _ h => h) (by rfl) (fun W hC => by go_simp) hHeld ?_
      simp only [Act.put, List.setIfInBounds_toArray, List.set_cons_zero, List.set_cons_succ]
      refine wpAnyH_takeU (i := 24) (v := .bool false) rfl (by kernel_rfl) (by kernel_rfl) (by kernel_rfl) (fun _ _ _ h => h) (by rfl) (fun W hC => by go_simp) hHeld ?_
      simp only [Act.put, List.setIfInBounds_toArray, List.set_cons_zero, List.set_cons_succ]
      refine wpAnyH_done (by kernel_rfl) ?_ _
      go_wp2_with fail
      go_ret
      exact ⟨rfl, HT.out _ hb6⟩
    | true =>
      go_enter Tryz.func66, Tryz.ntmps66
      go_wp2_with fail
      rw [← HPP.out, ← HG.out, ← HW1.out]
      clear HW1 HG HPP
      refine wp_region_held_drew (S := fun W => W.cell? ⟨G, 0, none⟩ = some x ∧ W.cell? ⟨G, 1, none⟩ = some (.pointer (some ⟨d, 0, none⟩)) ∧ W.cell? ⟨G, 2, none⟩ = some (.int .i64 (hi : Int)) ∧ W.cell? ⟨G, 3, none⟩ = some y ∧ W.cell? ⟨P, 0, none⟩ = some (.slice a1 n1 c1) ∧ W.cell? ⟨P, 3, none⟩ = some (.slice ap n2 cp) ∧ W.cell? ⟨P, 4, none⟩ = some (.slice ar n3 cr) ∧ W.cell? ⟨P, 5, none⟩ = some (.slice an' n4 cn)) (by kernel_rfl) (HK.out W1.drew hdw) (fun hHeld => ?_)
      refine wpAnyH_takeU (i := 0) (v := .pointer (some ⟨P, 3, none⟩)) rfl (by kernel_rfl) (by kernel_rfl) (by kernel_rfl) (fun _ _ _ h => h) (by rfl) (fun W hC => by go_simp) hHeld ?_
      simp only [Act.put, List.setIfInBounds_toArray, List.set_cons_zero, List.set_cons_succ]
      refine wpAnyH_takeU (i := 1) (v := .pointer (some ⟨P, 3, none⟩)) rfl (by kernel_rfl) (by kernel_rfl) (by kernel_rfl) (fun _ _ _ h => h) (by rfl) (fun W hC => by go_simp) hHeld ?_
      simp only [Act.put, List.setIfInBounds_toArray, List.set_cons_zero, List.set_cons_succ]
      refine wpAnyH_takeU (i := 2) (v := .slice ap n2 cp) rfl (by kernel_rfl) (by kernel_rfl) (by kernel_rfl) (fun _ _ _ h => h) (by rfl) (fun W hC => by (obtain ⟨y0, y1, y2, y3, y4, y5, y6, y7⟩ := hC); go_simp) hHeld ?_
      simp only [Act.put, List.setIfInBounds_toArray, List.set_cons_zero, List.set_cons_succ]
      refine wpAnyH_takeU (i := 3) (v := .slice apl n5 cpl) rfl (by kernel_rfl) (by kernel_rfl) (by kernel_rfl) (fun _ _ _ h => h) (by rfl) (fun W hC => by go_simp) hHeld ?_
      simp only [Act.put, List.setIfInBounds_toArray, List.set_cons_zero, List.set_cons_succ]
      refine wpAnyH_ready (rs := [4]) (by kernel_rfl) (by simp) ?_
      refine AllReadyH.consU rfl (fun K' hK' => ?_) AllReadyH.nil
      go_simp
      refine (HEQ.out _ hdw).mono ?_
      rintro e w4 ⟨rfl, hb4⟩
      refine hK'.out _ _ (HK.out w4 hb4) (fun hHeld => ?_)
      clear hK' K'
      refine wpAnyH_takeU (i := 5) (v := .bool true) rfl (by kernel_rfl) (by kernel_rfl) (by kernel_rfl) (fun _ _ _ h => h) (by rfl) (fun W hC => by go_simp) hHeld ?_
      simp only [Act.put, List.setIfInBounds_toArray, List.set_cons_zero, List.set_cons_succ]
      refine wpAnyH_takeU (i := 6) (v := .pointer (some ⟨P, 3, none⟩)) rfl (by kernel_rfl) (by kernel_rfl) (by kernel_rfl) (fun _ _ _ h => h) (by rfl) (fun W hC => by go_simp) hHeld ?_
      simp only [Act.put, List.setIfInBounds_toArray, List.set_cons_zero, List.set_cons_succ]
      refine wpAnyH_takeU (i := 7) (v := .pointer (some ⟨P, 4, none⟩)) rfl (by kernel_rfl) (by kernel_rfl) (by kernel_rfl) (fun _ _ _ h => h) (by rfl) (fun W hC => by go_simp) hHeld ?_
      simp only [Act.put, List.setIfInBounds_toArray, List.set_cons_zero, List.set_cons_succ]
      refine wpAnyH_takeU (i := 8) (v := .slice ar n3 cr) rfl (by kernel_rfl) (by kernel_rfl) (by kernel_rfl) (fun _ _ _ h => h) (by rfl) (fun W hC => by (obtain ⟨y0, y1, y2, y3, y4, y5, y6, y7⟩ := hC); go_simp) hHeld ?_
      simp only [Act.put, List.setIfInBounds_toArray, List.set_cons_zero, List.set_cons_succ]
      refine wpAnyH_takeU (i := 9) (v := .agg #[x, .pointer (some ⟨d, 0, none⟩), .int .i64 (hi : Int), y]) rfl (by kernel_rfl) (by kernel_rfl) (by kernel_rfl) (fun _ _ _ h => h) (by rfl) (fun W hC => by (obtain ⟨y0, y1, y2, y3, y4, y5, y6, y7⟩ := hC); go_simp) hHeld ?_
      simp only [Act.put, List.setIfInBounds_toArray, List.set_cons_zero, List.set_cons_succ]
      refine wpAnyH_ready (rs := [10]) (by kernel_rfl) (by simp) ?_
      refine AllReadyH.consU rfl (fun K' hK' => ?_) AllReadyH.nil
      go_simp
      refine (HTA.out _ hb4).mono ?_
      rintro e w5 ⟨rfl, hb5⟩
      refine hK'.out _ _ (HK.out w5 hb5) (fun hHeld => ?_)
      clear hK' K'
      refine wpAnyH_ready (rs := [11]) (by kernel_rfl) (by simp) ?_
      refine AllReadyH.consU rfl (fun K' hK' => ?_) AllReadyH.nil
      go_simp
      refine (HAW.out _ hb5).mono ?_
      rintro e w6 ⟨rfl, hb6⟩
      refine hK'.out _ _ (HK.out w6 hb6) (fun hHeld => ?_)
      clear hK' K'
      refine wpAnyH_takeU (i := 12) (v := .bool true) rfl (by kernel_rfl) (by kernel_rfl) (by kernel_rfl) (fun _ _ _ h => h) (by rfl) (fun W hC => by go_simp) hHeld ?_
      simp only [Act.put, List.setIfInBounds_toArray, List.set_cons_zero, List.set_cons_succ]
      refine wpAnyH_takeU (i := 13) (v := .bool true) rfl (by kernel_rfl) (by kernel_rfl) (by kernel_rfl) (fun _ _ _ h => h) (by rfl) (fun W hC => by go_simp) hHeld ?_
      simp only [Act.put, List.setIfInBounds_toArray, List.set_cons_zero, List.set_cons_succ]
      refine wpAnyH_takeU (i := 14) (v := .pointer (some ⟨s, 0, none⟩)) rfl (by kernel_rfl) (by kernel_rfl) (by kernel_rfl) (fun _ _ _ h => h) (by rfl) (fun W hC => by go_simp) hHeld ?_
      simp only [Act.put, List.setIfInBounds_toArray, List.set_cons_zero, List.set_cons_succ]
      refine wpAnyH_takeU (i := 15) (v := .pointer (some ⟨P, 0, none⟩)) rfl (by kernel_rfl) (by kernel_rfl) (by kernel_rfl) (fun _ _ _ h => h) (by rfl) (fun W hC => by go_simp) hHeld ?_
      simp only [Act.put, List.setIfInBounds_toArray, List.set_cons_zero, List.set_cons_succ]
      refine wpAnyH_takeU (i := 16) (v := .slice a1 n1 c1) rfl (by kernel_rfl) (by kernel_rfl) (by kernel_rfl) (fun _ _ _ h => h) (by rfl) (fun W hC => by (obtain ⟨y0, y1, y2, y3, y4, y5, y6, y7⟩ := hC); go_simp) hHeld ?_
      simp only [Act.put, List.setIfInBounds_toArray, List.set_cons_zero, List.set_cons_succ]
      refine wpAnyH_takeU (i := 17) (v := .pointer (some ⟨G, 1, none⟩)) rfl (by kernel_rfl) (by kernel_rfl) (by kernel_rfl) (fun _ _ _ h => h) (by rfl) (fun W hC => by go_simp) hHeld ?_
      simp only [Act.put, List.setIfInBounds_toArray, List.set_cons_zero, List.set_cons_succ]
      refine wpAnyH_takeU (i := 18) (v := .pointer (some ⟨d, 0, none⟩)) rfl (by kernel_rfl) (by kernel_rfl) (by kernel_rfl) (fun _ _ _ h => h) (by rfl) (fun W hC => by (obtain ⟨y0, y1, y2, y3, y4, y5, y6, y7⟩ := hC); go_simp) hHeld ?_
      simp only [Act.put, List.setIfInBounds_toArray, List.set_cons_zero, List.set_cons_succ]
      refine wpAnyH_takeU (i := 20) (v := .pointer (some ⟨P, 3, none⟩)) rfl (by kernel_rfl) (by kernel_rfl) (by kernel_rfl) (fun _ _ _ h => h) (by rfl) (fun W hC => by go_simp) hHeld ?_
      simp only [Act.put, List.setIfInBounds_toArray, List.set_cons_zero, List.set_cons_succ]
      refine wpAnyH_takeU (i := 21) (v := .agg #[.slice ap n2 cp, .slice ar n3 cr, .slice an' n4 cn]) rfl (by kernel_rfl) (by kernel_rfl) (by kernel_rfl) (fun _ _ _ h => h) (by rfl) (fun W hC => by (obtain ⟨y0, y1, y2, y3, y4, y5, y6, y7⟩ := hC); go_simp) hHeld ?_
      simp only [Act.put, List.setIfInBounds_toArray, List.set_cons_zero, List.set_cons_succ]
      refine wpAnyH_ready (rs := [19]) (by kernel_rfl) (by simp) ?_
      refine AllReadyH.consU rfl (fun K' hK' => ?_) AllReadyH.nil
      go_simp
      refine (HSZ.out _ hb6).mono ?_
      rintro e w7 ⟨rfl, hb7⟩
      refine hK'.out _ _ (HK.out w7 hb7) (fun hHeld => ?_)
      clear hK' K'
      refine wpAnyH_ready (rs := [22]) (by kernel_rfl) (by simp) ?_
      refine AllReadyH.consU rfl (fun K' hK' => ?_) AllReadyH.nil
      go_simp
      refine (HCK.out _ hb7).mono ?_
      rintro e w8 ⟨rfl, hb8⟩
      refine hK'.out _ _ (HK.out w8 hb8) (fun hHeld => ?_)
      clear hK' K'
      refine wpAnyH_takeU (i := 23) (v := .bool E3) rfl (by kernel_rfl) (by kernel_rfl) (by kernel_rfl) (fun _ _ _ h => h) (by rfl) (fun W hC => by go_simp) hHeld ?_
      simp only [Act.put, List.setIfInBounds_toArray, List.set_cons_zero, List.set_cons_succ]
      refine wpAnyH_takeU (i := 24) (v := .bool E3) rfl (by kernel_rfl) (by kernel_rfl) (by kernel_rfl) (fun _ _ _ h => h) (by rfl) (fun W hC => by go_simp) hHeld ?_
      simp only [Act.put, List.setIfInBounds_toArray, List.set_cons_zero, List.set_cons_succ]
      refine wpAnyH_done (by kernel_rfl) ?_ _
      go_wp2_with fail
      go_ret
      exact ⟨by simp, HT.out _ hb8⟩

end Go.Proofs.YtmmlphdekeflfaaGreatDoor
