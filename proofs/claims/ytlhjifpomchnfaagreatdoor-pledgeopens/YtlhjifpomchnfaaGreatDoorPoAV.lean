
import Derived.Test.YtlhjifpomchnfaaGreatDoorPoAU
import Derived.Test.YtlhjifpomchnfaaGreatDoorPoAI
set_option maxRecDepth 1000000
set_option maxHeartbeats 8000000
namespace Go.Proofs.YtlhjifpomchnfaaGreatDoor
open Go.RowKit
theorem pshows_any (q n dd b bd s d hi N c1 cp cr cn cpl : Nat) (r t : Int) (a1 ap ar an' apl : Option Addr) (x y z2 z3 : Value) (root ps pl : List Int) (rows nodes : List (List Int)) (w : World) (hhi : hi <= 12) (ok : SpgOk q n dd) (hs : SpgAt w s b q n dd) (hd : DomAt w d bd (N : Int) r t) (hN : N <= 65536)
  (hps : ps.length <= 281474976710656) (hrl : rows.length <= 281474976710656) (hnl : nodes.length <= 281474976710656) (hf4 : Fits root) (hfp : Fits ps) (hfr : FitsR rows) (hfn : FitsR nodes)
  (hl4 : Lst w.heap.size w a1 c1 root) (hp : Lst w.heap.size w ap cp ps) (hr : LstR w.heap.size w ar cr rows) (hn : LstR w.heap.size w an' cn nodes) (hpl : RowB w.heap.size w apl pl) :
  Calls Tryz.prog 56 #[.agg #[x, .pointer (some ⟨d, 0, none⟩), .int .i64 (hi : Int), y], .pointer (some ⟨s, 0, none⟩), .agg #[.slice a1 root.length c1, z2, z3, .slice ap ps.length cp, .slice ar rows.length cr, .slice an' nodes.length cn], .slice apl pl.length cpl] w fun e w' => e = .returned (.bool (decide (ps = pl) && (wiB (2 ^ hi) rows && chkf q n root (N : Int) ps rows nodes))) /\ Below w.heap.size w w' := by
 obtain ⟨W1, hW1⟩ : ∃ W1, W1 = (w.alloc (.cells #[x, .pointer (some ⟨d, 0, none⟩), .int .i64 (hi : Int), y] 87)).alloc (.cells #[.slice a1 root.length c1, z2, z3, .slice ap ps.length cp, .slice ar rows.length cr, .slice an' nodes.length cn] 33) := ⟨_, rfl⟩
 have hb1 : Below w.heap.size w W1 := by rw [hW1]; exact ((Below.refl _ _).alloc (Nat.le_refl _) _).alloc (by simp) _
 have hs1 : W1.heap[w.heap.size]? = some (.cells #[x, .pointer (some ⟨d, 0, none⟩), .int .i64 (hi : Int), y] 87 (0, 0)) := by
  rw [hW1]
  have := heap_alloc_new w (.cells #[x, .pointer (some ⟨d, 0, none⟩), .int .i64 (hi : Int), y] 87)
  have hb := (Below.refl (w.alloc (.cells #[x, .pointer (some ⟨d, 0, none⟩), .int .i64 (hi : Int), y] 87)).heap.size (w.alloc (.cells #[x, .pointer (some ⟨d, 0, none⟩), .int .i64 (hi : Int), y] 87))).alloc (Nat.le_refl _) (.cells #[.slice a1 root.length c1, z2, z3, .slice ap ps.length cp, .slice ar rows.length cr, .slice an' nodes.length cn] 33)
  exact (hb.block _ (by simp)).trans this
 have hs2 : W1.heap[w.heap.size + 1]? = some (.cells #[.slice a1 root.length c1, z2, z3, .slice ap ps.length cp, .slice ar rows.length cr, .slice an' nodes.length cn] 33 (0, 0)) := by
  rw [hW1]
  have := heap_alloc_new (w.alloc (.cells #[x, .pointer (some ⟨d, 0, none⟩), .int .i64 (hi : Int), y] 87)) (.cells #[.slice a1 root.length c1, z2, z3, .slice ap ps.length cp, .slice ar rows.length cr, .slice an' nodes.length cn] 33)
  simpa using this
 obtain ⟨G, hG⟩ : ∃ G, G = w.heap.size := ⟨_, rfl⟩
 obtain ⟨P, hPP⟩ : ∃ P, P = w.heap.size + 1 := ⟨_, rfl⟩
 rw [<- hG] at hs1
 rw [<- hPP] at hs2
 have HT : Hid (∀ W, Below W1.heap.size W1 W -> Below w.heap.size w W) := fun W hW => hb1.trans (hW.mono hb1.size)
 have HK : Hid (∀ W, Below W1.heap.size W1 W -> (fun W => W.cell? ⟨G, 0, none⟩ = some x /\ W.cell? ⟨G, 1, none⟩ = some (.pointer (some ⟨d, 0, none⟩)) /\ W.cell? ⟨G, 2, none⟩ = some (.int .i64 (hi : Int)) /\ W.cell? ⟨G, 3, none⟩ = some y /\ W.cell? ⟨P, 0, none⟩ = some (.slice a1 root.length c1) /\ W.cell? ⟨P, 3, none⟩ = some (.slice ap ps.length cp) /\ W.cell? ⟨P, 4, none⟩ = some (.slice ar rows.length cr) /\ W.cell? ⟨P, 5, none⟩ = some (.slice an' nodes.length cn)) W) := fun W hW => by
  have e1 := (hW.block G (Array.getElem?_eq_some_iff.1 hs1).1).trans hs1
  have e2 := (hW.block P (Array.getElem?_eq_some_iff.1 hs2).1).trans hs2
  refine ⟨?_, ?_, ?_, ?_, ?_, ?_, ?_, ?_⟩ <;> simp [World.cell?, e1, e2]
 obtain ⟨E1, hE1⟩ : ∃ E1, E1 = decide (ps = pl) := ⟨_, rfl⟩
 obtain ⟨E2, hE2⟩ : ∃ E2, E2 = wiB (2 ^ hi) rows := ⟨_, rfl⟩
 obtain ⟨E3, hE3⟩ : ∃ E3, E3 = chkf q n root (N : Int) ps rows nodes := ⟨_, rfl⟩
 obtain ⟨X, hX⟩ : ∃ X, X = 2 ^ hi := ⟨_, rfl⟩
 rw [<- hE1, <- hE2, <- hE3]
 have HEQ : Hid (∀ W, Below W1.heap.size W1 W -> Calls Tryz.prog 111 #[.slice ap ps.length cp, .slice apl pl.length cpl] W fun e w' => e = .returned (.bool E1) /\ Below W1.heap.size W1 w') := fun W hW => by
  have hh := HT.out W hW
  rw [hE1]
  refine (equal_any cp cpl ap apl ps pl W hps ((hp.below hh).mono hh.size).row ((hpl.below hh).mono hh.size)).mono ?_
  rintro e w' ⟨rfl, h⟩
  exact ⟨rfl, hW.trans (h.mono hW.size)⟩
 have HTA : Hid (∀ W, Below W1.heap.size W1 W -> Calls Tryz.prog 113 #[.agg #[x, .pointer (some ⟨d, 0, none⟩), .int .i64 (hi : Int), y]] W fun e w' => e = .returned (.int .i64 (X : Int)) /\ Below W1.heap.size W1 w') := fun W hW => by
  rw [hX]
  refine (tall_any _ _ _ hi W hhi).mono ?_
  rintro e w' ⟨rfl, h⟩
  exact ⟨rfl, hW.trans (h.mono hW.size)⟩
 have HAW : Hid (∀ W, Below W1.heap.size W1 W -> Calls Tryz.prog 112 #[.slice ar rows.length cr, .int .i64 (X : Int)] W fun e w' => e = .returned (.bool E2) /\ Below W1.heap.size W1 w') := fun W hW => by
  have hh := HT.out W hW
  rw [hE2, <- hX]
  refine (areWide_any cr X ar rows W hrl ((hr.below hh).mono hh.size)).mono ?_
  rintro e w' ⟨rfl, h⟩
  exact ⟨rfl, hW.trans (h.mono hW.size)⟩
 have HSZ : Hid (∀ W, Below W1.heap.size W1 W -> Calls Tryz.prog 106 #[.pointer (some ⟨d, 0, none⟩)] W fun e w' => e = .returned (.int .i64 (N : Int)) /\ Below W1.heap.size W1 w') := fun W hW => by
  refine (size_any d bd (N : Int) r t W (hd.below (HT.out W hW) hd.lt)).mono ?_
  rintro e w' ⟨rfl, rfl⟩
  exact ⟨rfl, hW⟩
 have HCK : Hid (∀ W, Below W1.heap.size W1 W -> Calls Tryz.prog 114 #[.pointer (some ⟨s, 0, none⟩), .slice a1 root.length c1, .int .i64 (N : Int), .agg #[.slice ap ps.length cp, .slice ar rows.length cr, .slice an' nodes.length cn]] W fun e w' => e = .returned (.bool E3) /\ Below W1.heap.size W1 w') := fun W hW => by
  have hh := HT.out W hW
  rw [hE3]
  refine (check_any q n dd b s c1 cp cr cn a1 ap ar an' root (N : Int) ps rows nodes W ok (hs.keep hh) hps hnl (by omega) (by omega) hf4 hfp hfr hfn ((hl4.below hh).mono hh.size) ((hp.below hh).mono hh.size) ((hr.below hh).mono hh.size) ((hn.below hh).mono hh.size)).mono ?_
  rintro e w' ⟨rfl, h⟩
  exact ⟨rfl, hW.trans (h.mono hW.size)⟩
 have hdw : Below W1.heap.size W1 W1.drew := (Below.refl _ _).drew
 clear hs hd hf4 hfp hfr hfn hl4 hp hr hn hpl hs1 hs2 hb1 hE1 hE2 hE3 hX
 generalize root.length = n1 at *
 generalize ps.length = n2 at *
 generalize rows.length = n3 at *
 generalize nodes.length = n4 at *
 generalize pl.length = n5 at *
 have HW1 := hid hW1
 have HG := hid hG
 have HPP := hid hPP
 clear hW1 hG hPP hps hrl hnl
 cases E1 with
 | false =>
  go_enter Tryz.func56, Tryz.ntmps56
  go_wp2_with fail
  rw [<- HPP.out, <- HG.out, <- HW1.out]
  clear HW1 HG HPP
  refine wp_region_held_drew (S := fun W => W.cell? ⟨G, 0, none⟩ = some x /\ W.cell? ⟨G, 1, none⟩ = some (.pointer (some ⟨d, 0, none⟩)) /\ W.cell? ⟨G, 2, none⟩ = some (.int .i64 (hi : Int)) /\ W.cell? ⟨G, 3, none⟩ = some y /\ W.cell? ⟨P, 0, none⟩ = some (.slice a1 n1 c1) /\ W.cell? ⟨P, 3, none⟩ = some (.slice ap n2 cp) /\ W.cell? ⟨P, 4, none⟩ = some (.slice ar n3 cr) /\ W.cell? ⟨P, 5, none⟩ = some (.slice an' n4 cn)) (by kernel_rfl) (HK.out W1.drew hdw) (fun hHeld => ?_)
  refine wpAnyH_takeU (i := 0) (v := .pointer (some ⟨P, 3, none⟩)) rfl (by kernel_rfl) (by kernel_rfl) (by kernel_rfl) (fun _ _ _ h => h) (by rfl) (fun W hC => by go_simp) hHeld ?_
  simp only [Act.put, List.setIfInBounds_toArray, List.set_cons_zero, List.set_cons_succ]
  refine wpAnyH_takeU (i := 1) (v := .pointer (some ⟨P, 3, none⟩)) rfl (by kernel_rfl) (by kernel_rfl) (by kernel_rfl) (fun _ _ _ h => h) (by rfl) (fun W hC => by go_simp) hHeld ?_
  simp only [Act.put, List.setIfInBounds_toArray, List.set_cons_zero, List.set_cons_succ]
  refine wpAnyH_takeU (i := 2) (v := .slice ap n2 cp) rfl (by kernel_rfl) (by kernel_rfl) (by kernel_rfl) (fun _ _ _ h => h) (by rfl) (fun W hC => by (obtain ⟨y0, y1, y2, y3, y4, y5, y6, y7⟩ := hC); go_simp) hHeld ?_
  simp only [Act.put, List.setIfInBounds_toArray, List.set_cons_zero, List.set_cons_succ]
  refine wpAnyH_takeU (i := 3) (v := .slice apl n5 cpl) rfl (by kernel_rfl) (by kernel_rfl) (by kernel_rfl) (fun _ _ _ h => h) (by rfl) (fun W hC => by go_simp) hHeld ?_
  simp only [Act.put, List.setIfInBounds_toArray, List.set_cons_zero, List.set_cons_succ]
  refine wpAnyH_ready (rs := [4]) (by kernel_rfl) (by simp) ?_
  refine AllReadyH.consU rfl (fun K' hK' => ?_) AllReadyH.nil
  go_simp
  refine (HEQ.out _ hdw).mono ?_
  rintro e w4 ⟨rfl, hb4⟩
  refine hK'.out _ _ (HK.out w4 hb4) (fun hHeld => ?_)
  clear hK' K'
  refine wpAnyH_takeU (i := 5) (v := .bool false) rfl (by kernel_rfl) (by kernel_rfl) (by kernel_rfl) (fun _ _ _ h => h) (by rfl) (fun W hC => by go_simp) hHeld ?_
  simp only [Act.put, List.setIfInBounds_toArray, List.set_cons_zero, List.set_cons_succ]
  refine wpAnyH_skipV (i := 6) rfl (by kernel_rfl) (by kernel_rfl) (by kernel_rfl) (fun _ _ _ h => h) (by rfl) hHeld ?_
  simp only [Act.put, List.setIfInBounds_toArray, List.set_cons_zero, List.set_cons_succ]
  refine wpAnyH_skipV (i := 7) rfl (by kernel_rfl) (by kernel_rfl) (by kernel_rfl) (fun _ _ _ h => h) (by rfl) hHeld ?_
  simp only [Act.put, List.setIfInBounds_toArray, List.set_cons_zero, List.set_cons_succ]
  refine wpAnyH_skipV (i := 8) rfl (by kernel_rfl) (by kernel_rfl) (by kernel_rfl) (fun _ _ _ h => h) (by rfl) hHeld ?_
  simp only [Act.put, List.setIfInBounds_toArray, List.set_cons_zero, List.set_cons_succ]
  refine wpAnyH_skipV (i := 9) rfl (by kernel_rfl) (by kernel_rfl) (by kernel_rfl) (fun _ _ _ h => h) (by rfl) hHeld ?_
  simp only [Act.put, List.setIfInBounds_toArray, List.set_cons_zero, List.set_cons_succ]
  refine wpAnyH_skipV (i := 10) rfl (by kernel_rfl) (by kernel_rfl) (by kernel_rfl) (fun _ _ _ h => h) (by rfl) hHeld ?_
  simp only [Act.put, List.setIfInBounds_toArray, List.set_cons_zero, List.set_cons_succ]
  refine wpAnyH_skipV (i := 11) rfl (by kernel_rfl) (by kernel_rfl) (by kernel_rfl) (fun _ _ _ h => h) (by rfl) hHeld ?_
  simp only [Act.put, List.setIfInBounds_toArray, List.set_cons_zero, List.set_cons_succ]
  refine wpAnyH_takeU (i := 12) (v := .bool false) rfl (by kernel_rfl) (by kernel_rfl) (by kernel_rfl) (fun _ _ _ h => h) (by rfl) (fun W hC => by go_simp) hHeld ?_
  simp only [Act.put, List.setIfInBounds_toArray, List.set_cons_zero, List.set_cons_succ]
  refine wpAnyH_takeU (i := 13) (v := .bool false) rfl (by kernel_rfl) (by kernel_rfl) (by kernel_rfl) (fun _ _ _ h => h) (by rfl) (fun W hC => by go_simp) hHeld ?_
  simp only [Act.put, List.setIfInBounds_toArray, List.set_cons_zero, List.set_cons_succ]
  refine wpAnyH_skipV (i := 14) rfl (by kernel_rfl) (by kernel_rfl) (by kernel_rfl) (fun _ _ _ h => h) (by rfl) hHeld ?_
  simp only [Act.put, List.setIfInBounds_toArray, List.set_cons_zero, List.set_cons_succ]
  refine wpAnyH_skipV (i := 15) rfl (by kernel_rfl) (by kernel_rfl) (by kernel_rfl) (fun _ _ _ h => h) (by rfl) hHeld ?_
  simp only [Act.put, List.setIfInBounds_toArray, List.set_cons_zero, List.set_cons_succ]
  refine wpAnyH_skipV (i := 16) rfl (by kernel_rfl) (by kernel_rfl) (by kernel_rfl) (fun _ _ _ h => h) (by rfl) hHeld ?_
  simp only [Act.put, List.setIfInBounds_toArray, List.set_cons_zero, List.set_cons_succ]
  refine wpAnyH_skipV (i := 17) rfl (by kernel_rfl) (by kernel_rfl) (by kernel_rfl) (fun _ _ _ h => h) (by rfl) hHeld ?_
  simp only [Act.put, List.setIfInBounds_toArray, List.set_cons_zero, List.set_cons_succ]
  refine wpAnyH_skipV (i := 18) rfl (by kernel_rfl) (by kernel_rfl) (by kernel_rfl) (fun _ _ _ h => h) (by rfl) hHeld ?_
  simp only [Act.put, List.setIfInBounds_toArray, List.set_cons_zero, List.set_cons_succ]
  refine wpAnyH_skipV (i := 19) rfl (by kernel_rfl) (by kernel_rfl) (by kernel_rfl) (fun _ _ _ h => h) (by rfl) hHeld ?_
  simp only [Act.put, List.setIfInBounds_toArray, List.set_cons_zero, List.set_cons_succ]
  refine wpAnyH_skipV (i := 20) rfl (by kernel_rfl) (by kernel_rfl) (by kernel_rfl) (fun _ _ _ h => h) (by rfl) hHeld ?_
  simp only [Act.put, List.setIfInBounds_toArray, List.set_cons_zero, List.set_cons_succ]
  refine wpAnyH_skipV (i := 21) rfl (by kernel_rfl) (by kernel_rfl) (by kernel_rfl) (fun _ _ _ h => h) (by rfl) hHeld ?_
  simp only [Act.put, List.setIfInBounds_toArray, List.set_cons_zero, List.set_cons_succ]
  refine wpAnyH_skipV (i := 22) rfl (by kernel_rfl) (by kernel_rfl) (by kernel_rfl) (fun _ _ _ h => h) (by rfl) hHeld ?_
  simp only [Act.put, List.setIfInBounds_toArray, List.set_cons_zero, List.set_cons_succ]
  refine wpAnyH_takeU (i := 23) (v := .bool false) rfl (by kernel_rfl) (by kernel_rfl) (by kernel_rfl) (fun _ _ _ h => h) (by rfl) (fun W hC => by go_simp) hHeld ?_
  simp only [Act.put, List.setIfInBounds_toArray, List.set_cons_zero, List.set_cons_succ]
  refine wpAnyH_takeU (i := 24) (v := .bool false) rfl (by kernel_rfl) (by kernel_rfl) (by kernel_rfl) (fun _ _ _ h => h) (by rfl) (fun W hC => by go_simp) hHeld ?_
  simp only [Act.put, List.setIfInBounds_toArray, List.set_cons_zero, List.set_cons_succ]
  refine wpAnyH_done (by kernel_rfl) ?_ _
  go_wp2_with fail
  go_ret
  exact ⟨rfl, HT.out _ hb4⟩
 | true =>
  cases E2 with
  | false =>
   go_enter Tryz.func56, Tryz.ntmps56
   go_wp2_with fail
   rw [<- HPP.out, <- HG.out, <- HW1.out]
   clear HW1 HG HPP
   refine wp_region_held_drew (S := fun W => W.cell? ⟨G, 0, none⟩ = some x /\ W.cell? ⟨G, 1, none⟩ = some (.pointer (some ⟨d, 0, none⟩)) /\ W.cell? ⟨G, 2, none⟩ = some (.int .i64 (hi : Int)) /\ W.cell? ⟨G, 3, none⟩ = some y /\ W.cell? ⟨P, 0, none⟩ = some (.slice a1 n1 c1) /\ W.cell? ⟨P, 3, none⟩ = some (.slice ap n2 cp) /\ W.cell? ⟨P, 4, none⟩ = some (.slice ar n3 cr) /\ W.cell? ⟨P, 5, none⟩ = some (.slice an' n4 cn)) (by kernel_rfl) (HK.out W1.drew hdw) (fun hHeld => ?_)
   refine wpAnyH_takeU (i := 0) (v := .pointer (some ⟨P, 3, none⟩)) rfl (by kernel_rfl) (by kernel_rfl) (by kernel_rfl) (fun _ _ _ h => h) (by rfl) (fun W hC => by go_simp) hHeld ?_
   simp only [Act.put, List.setIfInBounds_toArray, List.set_cons_zero, List.set_cons_succ]
   refine wpAnyH_takeU (i := 1) (v := .pointer (some ⟨P, 3, none⟩)) rfl (by kernel_rfl) (by kernel_rfl) (by kernel_rfl) (fun _ _ _ h => h) (by rfl) (fun W hC => by go_simp) hHeld ?_
   simp only [Act.put, List.setIfInBounds_toArray, List.set_cons_zero, List.set_cons_succ]
   refine wpAnyH_takeU (i := 2) (v := .slice ap n2 cp) rfl (by kernel_rfl) (by kernel_rfl) (by kernel_rfl) (fun _ _ _ h => h) (by rfl) (fun W hC => by (obtain ⟨y0, y1, y2, y3, y4, y5, y6, y7⟩ := hC); go_simp) hHeld ?_
   simp only [Act.put, List.setIfInBounds_toArray, List.set_cons_zero, List.set_cons_succ]
   refine wpAnyH_takeU (i := 3) (v := .slice apl n5 cpl) rfl (by kernel_rfl) (by kernel_rfl) (by kernel_rfl) (fun _ _ _ h => h) (by rfl) (fun W hC => by go_simp) hHeld ?_
   simp only [Act.put, List.setIfInBounds_toArray, List.set_cons_zero, List.set_cons_succ]
   refine wpAnyH_ready (rs := [4]) (by kernel_rfl) (by simp) ?_
   refine AllReadyH.consU rfl (fun K' hK' => ?_) AllReadyH.nil
   go_simp
   refine (HEQ.out _ hdw).mono ?_
   rintro e w4 ⟨rfl, hb4⟩
   refine hK'.out _ _ (HK.out w4 hb4) (fun hHeld => ?_)
   clear hK' K'
   refine wpAnyH_takeU (i := 5) (v := .bool true) rfl (by kernel_rfl) (by kernel_rfl) (by kernel_rfl) (fun _ _ _ h => h) (by rfl) (fun W hC => by go_simp) hHeld ?_
   simp only [Act.put, List.setIfInBounds_toArray, List.set_cons_zero, List.set_cons_succ]
   refine wpAnyH_takeU (i := 6) (v := .pointer (some ⟨P, 3, none⟩)) rfl (by kernel_rfl) (by kernel_rfl) (by kernel_rfl) (fun _ _ _ h => h) (by rfl) (fun W hC => by go_simp) hHeld ?_
   simp only [Act.put, List.setIfInBounds_toArray, List.set_cons_zero, List.set_cons_succ]
   refine wpAnyH_takeU (i := 7) (v := .pointer (some ⟨P, 4, none⟩)) rfl (by kernel_rfl) (by kernel_rfl) (by kernel_rfl) (fun _ _ _ h => h) (by rfl) (fun W hC => by go_simp) hHeld ?_
   simp only [Act.put, List.setIfInBounds_toArray, List.set_cons_zero, List.set_cons_succ]
   refine wpAnyH_takeU (i := 8) (v := .slice ar n3 cr) rfl (by kernel_rfl) (by kernel_rfl) (by kernel_rfl) (fun _ _ _ h => h) (by rfl) (fun W hC => by (obtain ⟨y0, y1, y2, y3, y4, y5, y6, y7⟩ := hC); go_simp) hHeld ?_
   simp only [Act.put, List.setIfInBounds_toArray, List.set_cons_zero, List.set_cons_succ]
   refine wpAnyH_takeU (i := 9) (v := .agg #[x, .pointer (some ⟨d, 0, none⟩), .int .i64 (hi : Int), y]) rfl (by kernel_rfl) (by kernel_rfl) (by kernel_rfl) (fun _ _ _ h => h) (by rfl) (fun W hC => by (obtain ⟨y0, y1, y2, y3, y4, y5, y6, y7⟩ := hC); go_simp) hHeld ?_
   simp only [Act.put, List.setIfInBounds_toArray, List.set_cons_zero, List.set_cons_succ]
   refine wpAnyH_ready (rs := [10]) (by kernel_rfl) (by simp) ?_
   refine AllReadyH.consU rfl (fun K' hK' => ?_) AllReadyH.nil
   go_simp
   refine (HTA.out _ hb4).mono ?_
   rintro e w5 ⟨rfl, hb5⟩
   refine hK'.out _ _ (HK.out w5 hb5) (fun hHeld => ?_)
   clear hK' K'
   refine wpAnyH_ready (rs := [11]) (by kernel_rfl) (by simp) ?_
   refine AllReadyH.consU rfl (fun K' hK' => ?_) AllReadyH.nil
   go_simp
   refine (HAW.out _ hb5).mono ?_
   rintro e w6 ⟨rfl, hb6⟩
   refine hK'.out _ _ (HK.out w6 hb6) (fun hHeld => ?_)
   clear hK' K'
   refine wpAnyH_takeU (i := 12) (v := .bool false) rfl (by kernel_rfl) (by kernel_rfl) (by kernel_rfl) (fun _ _ _ h => h) (by rfl) (fun W hC => by go_simp) hHeld ?_
   simp only [Act.put, List.setIfInBounds_toArray, List.set_cons_zero, List.set_cons_succ]
   refine wpAnyH_takeU (i := 13) (v := .bool false) rfl (by kernel_rfl) (by kernel_rfl) (by kernel_rfl) (fun _ _ _ h => h) (by rfl) (fun W hC => by go_simp) hHeld ?_
   simp only [Act.put, List.setIfInBounds_toArray, List.set_cons_zero, List.set_cons_succ]
   refine wpAnyH_skipV (i := 14) rfl (by kernel_rfl) (by kernel_rfl) (by kernel_rfl) (fun _ _ _ h => h) (by rfl) hHeld ?_
   simp only [Act.put, List.setIfInBounds_toArray, List.set_cons_zero, List.set_cons_succ]
   refine wpAnyH_skipV (i := 15) rfl (by kernel_rfl) (by kernel_rfl) (by kernel_rfl) (fun _ _ _ h => h) (by rfl) hHeld ?_
   simp only [Act.put, List.setIfInBounds_toArray, List.set_cons_zero, List.set_cons_succ]
   refine wpAnyH_skipV (i := 16) rfl (by kernel_rfl) (by kernel_rfl) (by kernel_rfl) (fun _ _ _ h => h) (by rfl) hHeld ?_
   simp only [Act.put, List.setIfInBounds_toArray, List.set_cons_zero, List.set_cons_succ]
   refine wpAnyH_skipV (i := 17) rfl (by kernel_rfl) (by kernel_rfl) (by kernel_rfl) (fun _ _ _ h => h) (by rfl) hHeld ?_
   simp only [Act.put, List.setIfInBounds_toArray, List.set_cons_zero, List.set_cons_succ]
   refine wpAnyH_skipV (i := 18) rfl (by kernel_rfl) (by kernel_rfl) (by kernel_rfl) (fun _ _ _ h => h) (by rfl) hHeld ?_
   simp only [Act.put, List.setIfInBounds_toArray, List.set_cons_zero, List.set_cons_succ]
   refine wpAnyH_skipV (i := 19) rfl (by kernel_rfl) (by kernel_rfl) (by kernel_rfl) (fun _ _ _ h => h) (by rfl) hHeld ?_
   simp only [Act.put, List.setIfInBounds_toArray, List.set_cons_zero, List.set_cons_succ]
   refine wpAnyH_skipV (i := 20) rfl (by kernel_rfl) (by kernel_rfl) (by kernel_rfl) (fun _ _ _ h => h) (by rfl) hHeld ?_
   simp only [Act.put, List.setIfInBounds_toArray, List.set_cons_zero, List.set_cons_succ]
   refine wpAnyH_skipV (i := 21) rfl (by kernel_rfl) (by kernel_rfl) (by kernel_rfl) (fun _ _ _ h => h) (by rfl) hHeld ?_
   simp only [Act.put, List.setIfInBounds_toArray, List.set_cons_zero, List.set_cons_succ]
   refine wpAnyH_skipV (i := 22) rfl (by kernel_rfl) (by kernel_rfl) (by kernel_rfl) (fun _ _ _ h => h) (by rfl) hHeld ?_
   simp only [Act.put, List.setIfInBounds_toArray, List.set_cons_zero, List.set_cons_succ]
   refine wpAnyH_takeU (i := 23) (v := .bool false) rfl (by kernel_rfl) (by kernel_rfl) (by kernel_rfl) (fun _ _ _ h => h) (by rfl) (fun W hC => by go_simp) hHeld ?_
   simp only [Act.put, List.setIfInBounds_toArray, List.set_cons_zero, List.set_cons_succ]
   refine wpAnyH_takeU (i := 24) (v := .bool false) rfl (by kernel_rfl) (by kernel_rfl) (by kernel_rfl) (fun _ _ _ h => h) (by rfl) (fun W hC => by go_simp) hHeld ?_
   simp only [Act.put, List.setIfInBounds_toArray, List.set_cons_zero, List.set_cons_succ]
   refine wpAnyH_done (by kernel_rfl) ?_ _
   go_wp2_with fail
   go_ret
   exact ⟨rfl, HT.out _ hb6⟩
  | true =>
   go_enter Tryz.func56, Tryz.ntmps56
   go_wp2_with fail
   rw [<- HPP.out, <- HG.out, <- HW1.out]
   clear HW1 HG HPP
   refine wp_region_held_drew (S := fun W => W.cell? ⟨G, 0, none⟩ = some x /\ W.cell? ⟨G, 1, none⟩ = some (.pointer (some ⟨d, 0, none⟩)) /\ W.cell? ⟨G, 2, none⟩ = some (.int .i64 (hi : Int)) /\ W.cell? ⟨G, 3, none⟩ = some y /\ W.cell? ⟨P, 0, none⟩ = some (.slice a1 n1 c1) /\ W.cell? ⟨P, 3, none⟩ = some (.slice ap n2 cp) /\ W.cell? ⟨P, 4, none⟩ = some (.slice ar n3 cr) /\ W.cell? ⟨P, 5, none⟩ = some (.slice an' n4 cn)) (by kernel_rfl) (HK.out W1.drew hdw) (fun hHeld => ?_)
   refine wpAnyH_takeU (i := 0) (v := .pointer (some ⟨P, 3, none⟩)) rfl (by kernel_rfl) (by kernel_rfl) (by kernel_rfl) (fun _ _ _ h => h) (by rfl) (fun W hC => by go_simp) hHeld ?_
   simp only [Act.put, List.setIfInBounds_toArray, List.set_cons_zero, List.set_cons_succ]
   refine wpAnyH_takeU (i := 1) (v := .pointer (some ⟨P, 3, none⟩)) rfl (by kernel_rfl) (by kernel_rfl) (by kernel_rfl) (fun _ _ _ h => h) (by rfl) (fun W hC => by go_simp) hHeld ?_
   simp only [Act.put, List.setIfInBounds_toArray, List.set_cons_zero, List.set_cons_succ]
   refine wpAnyH_takeU (i := 2) (v := .slice ap n2 cp) rfl (by kernel_rfl) (by kernel_rfl) (by kernel_rfl) (fun _ _ _ h => h) (by rfl) (fun W hC => by (obtain ⟨y0, y1, y2, y3, y4, y5, y6, y7⟩ := hC); go_simp) hHeld ?_
   simp only [Act.put, List.setIfInBounds_toArray, List.set_cons_zero, List.set_cons_succ]
   refine wpAnyH_takeU (i := 3) (v := .slice apl n5 cpl) rfl (by kernel_rfl) (by kernel_rfl) (by kernel_rfl) (fun _ _ _ h => h) (by rfl) (fun W hC => by go_simp) hHeld ?_
   simp only [Act.put, List.setIfInBounds_toArray, List.set_cons_zero, List.set_cons_succ]
   refine wpAnyH_ready (rs := [4]) (by kernel_rfl) (by simp) ?_
   refine AllReadyH.consU rfl (fun K' hK' => ?_) AllReadyH.nil
   go_simp
   refine (HEQ.out _ hdw).mono ?_
   rintro e w4 ⟨rfl, hb4⟩
   refine hK'.out _ _ (HK.out w4 hb4) (fun hHeld => ?_)
   clear hK' K'
   refine wpAnyH_takeU (i := 5) (v := .bool true) rfl (by kernel_rfl) (by kernel_rfl) (by kernel_rfl) (fun _ _ _ h => h) (by rfl) (fun W hC => by go_simp) hHeld ?_
   simp only [Act.put, List.setIfInBounds_toArray, List.set_cons_zero, List.set_cons_succ]
   refine wpAnyH_takeU (i := 6) (v := .pointer (some ⟨P, 3, none⟩)) rfl (by kernel_rfl) (by kernel_rfl) (by kernel_rfl) (fun _ _ _ h => h) (by rfl) (fun W hC => by go_simp) hHeld ?_
   simp only [Act.put, List.setIfInBounds_toArray, List.set_cons_zero, List.set_cons_succ]
   refine wpAnyH_takeU (i := 7) (v := .pointer (some ⟨P, 4, none⟩)) rfl (by kernel_rfl) (by kernel_rfl) (by kernel_rfl) (fun _ _ _ h => h) (by rfl) (fun W hC => by go_simp) hHeld ?_
   simp only [Act.put, List.setIfInBounds_toArray, List.set_cons_zero, List.set_cons_succ]
   refine wpAnyH_takeU (i := 8) (v := .slice ar n3 cr) rfl (by kernel_rfl) (by kernel_rfl) (by kernel_rfl) (fun _ _ _ h => h) (by rfl) (fun W hC => by (obtain ⟨y0, y1, y2, y3, y4, y5, y6, y7⟩ := hC); go_simp) hHeld ?_
   simp only [Act.put, List.setIfInBounds_toArray, List.set_cons_zero, List.set_cons_succ]
   refine wpAnyH_takeU (i := 9) (v := .agg #[x, .pointer (some ⟨d, 0, none⟩), .int .i64 (hi : Int), y]) rfl (by kernel_rfl) (by kernel_rfl) (by kernel_rfl) (fun _ _ _ h => h) (by rfl) (fun W hC => by (obtain ⟨y0, y1, y2, y3, y4, y5, y6, y7⟩ := hC); go_simp) hHeld ?_
   simp only [Act.put, List.setIfInBounds_toArray, List.set_cons_zero, List.set_cons_succ]
   refine wpAnyH_ready (rs := [10]) (by kernel_rfl) (by simp) ?_
   refine AllReadyH.consU rfl (fun K' hK' => ?_) AllReadyH.nil
   go_simp
   refine (HTA.out _ hb4).mono ?_
   rintro e w5 ⟨rfl, hb5⟩
   refine hK'.out _ _ (HK.out w5 hb5) (fun hHeld => ?_)
   clear hK' K'
   refine wpAnyH_ready (rs := [11]) (by kernel_rfl) (by simp) ?_
   refine AllReadyH.consU rfl (fun K' hK' => ?_) AllReadyH.nil
   go_simp
   refine (HAW.out _ hb5).mono ?_
   rintro e w6 ⟨rfl, hb6⟩
   refine hK'.out _ _ (HK.out w6 hb6) (fun hHeld => ?_)
   clear hK' K'
   refine wpAnyH_takeU (i := 12) (v := .bool true) rfl (by kernel_rfl) (by kernel_rfl) (by kernel_rfl) (fun _ _ _ h => h) (by rfl) (fun W hC => by go_simp) hHeld ?_
   simp only [Act.put, List.setIfInBounds_toArray, List.set_cons_zero, List.set_cons_succ]
   refine wpAnyH_takeU (i := 13) (v := .bool true) rfl (by kernel_rfl) (by kernel_rfl) (by kernel_rfl) (fun _ _ _ h => h) (by rfl) (fun W hC => by go_simp) hHeld ?_
   simp only [Act.put, List.setIfInBounds_toArray, List.set_cons_zero, List.set_cons_succ]
   refine wpAnyH_takeU (i := 14) (v := .pointer (some ⟨s, 0, none⟩)) rfl (by kernel_rfl) (by kernel_rfl) (by kernel_rfl) (fun _ _ _ h => h) (by rfl) (fun W hC => by go_simp) hHeld ?_
   simp only [Act.put, List.setIfInBounds_toArray, List.set_cons_zero, List.set_cons_succ]
   refine wpAnyH_takeU (i := 15) (v := .pointer (some ⟨P, 0, none⟩)) rfl (by kernel_rfl) (by kernel_rfl) (by kernel_rfl) (fun _ _ _ h => h) (by rfl) (fun W hC => by go_simp) hHeld ?_
   simp only [Act.put, List.setIfInBounds_toArray, List.set_cons_zero, List.set_cons_succ]
   refine wpAnyH_takeU (i := 16) (v := .slice a1 n1 c1) rfl (by kernel_rfl) (by kernel_rfl) (by kernel_rfl) (fun _ _ _ h => h) (by rfl) (fun W hC => by (obtain ⟨y0, y1, y2, y3, y4, y5, y6, y7⟩ := hC); go_simp) hHeld ?_
   simp only [Act.put, List.setIfInBounds_toArray, List.set_cons_zero, List.set_cons_succ]
   refine wpAnyH_takeU (i := 17) (v := .pointer (some ⟨G, 1, none⟩)) rfl (by kernel_rfl) (by kernel_rfl) (by kernel_rfl) (fun _ _ _ h => h) (by rfl) (fun W hC => by go_simp) hHeld ?_
   simp only [Act.put, List.setIfInBounds_toArray, List.set_cons_zero, List.set_cons_succ]
   refine wpAnyH_takeU (i := 18) (v := .pointer (some ⟨d, 0, none⟩)) rfl (by kernel_rfl) (by kernel_rfl) (by kernel_rfl) (fun _ _ _ h => h) (by rfl) (fun W hC => by (obtain ⟨y0, y1, y2, y3, y4, y5, y6, y7⟩ := hC); go_simp) hHeld ?_
   simp only [Act.put, List.setIfInBounds_toArray, List.set_cons_zero, List.set_cons_succ]
   refine wpAnyH_takeU (i := 20) (v := .pointer (some ⟨P, 3, none⟩)) rfl (by kernel_rfl) (by kernel_rfl) (by kernel_rfl) (fun _ _ _ h => h) (by rfl) (fun W hC => by go_simp) hHeld ?_
   simp only [Act.put, List.setIfInBounds_toArray, List.set_cons_zero, List.set_cons_succ]
   refine wpAnyH_takeU (i := 21) (v := .agg #[.slice ap n2 cp, .slice ar n3 cr, .slice an' n4 cn]) rfl (by kernel_rfl) (by kernel_rfl) (by kernel_rfl) (fun _ _ _ h => h) (by rfl) (fun W hC => by (obtain ⟨y0, y1, y2, y3, y4, y5, y6, y7⟩ := hC); go_simp) hHeld ?_
   simp only [Act.put, List.setIfInBounds_toArray, List.set_cons_zero, List.set_cons_succ]
   refine wpAnyH_ready (rs := [19]) (by kernel_rfl) (by simp) ?_
   refine AllReadyH.consU rfl (fun K' hK' => ?_) AllReadyH.nil
   go_simp
   refine (HSZ.out _ hb6).mono ?_
   rintro e w7 ⟨rfl, hb7⟩
   refine hK'.out _ _ (HK.out w7 hb7) (fun hHeld => ?_)
   clear hK' K'
   refine wpAnyH_ready (rs := [22]) (by kernel_rfl) (by simp) ?_
   refine AllReadyH.consU rfl (fun K' hK' => ?_) AllReadyH.nil
   go_simp
   refine (HCK.out _ hb7).mono ?_
   rintro e w8 ⟨rfl, hb8⟩
   refine hK'.out _ _ (HK.out w8 hb8) (fun hHeld => ?_)
   clear hK' K'
   refine wpAnyH_takeU (i := 23) (v := .bool E3) rfl (by kernel_rfl) (by kernel_rfl) (by kernel_rfl) (fun _ _ _ h => h) (by rfl) (fun W hC => by go_simp) hHeld ?_
   simp only [Act.put, List.setIfInBounds_toArray, List.set_cons_zero, List.set_cons_succ]
   refine wpAnyH_takeU (i := 24) (v := .bool E3) rfl (by kernel_rfl) (by kernel_rfl) (by kernel_rfl) (fun _ _ _ h => h) (by rfl) (fun W hC => by go_simp) hHeld ?_
   simp only [Act.put, List.setIfInBounds_toArray, List.set_cons_zero, List.set_cons_succ]
   refine wpAnyH_done (by kernel_rfl) ?_ _
   go_wp2_with fail
   go_ret
   exact ⟨by simp, HT.out _ hb8⟩
def agB (p N : Nat) (r s : Int) (said ps : List Int) (rows : List (List Int)) (A : List Int -> Int) : Bool := decide (∀ k, k < ps.length -> evz p said (Dom.pt p s r (zat ps k % (N : Int)).toNat) = A (rat rows k))
theorem agrees_any (p b d N F c2 cp cr : Nat) (caps : Array Value) (A : List Int -> Int) (r s : Int) (a2 ap ar : Option Addr) (y1 y2 y3 : Value) (said ps : List Int) (rows : List (List Int)) (w : World) (D : DO w p b d N r s) (hsl : said.length <= 281474976710656) (hps : ps.length <= 281474976710656) (hpr : ps.length <= rows.length) (hfs : Fits said)
  (hl2 : RowB w.heap.size w a2 said) (hp : RowB w.heap.size w ap ps) (hr : LstR w.heap.size w ar cr rows)
  (hcf : ∀ (args : Array Value) (w1 : World), (callFunc F args).run Tryz.prog w1 = .ok (.enter F args) w1)
  (HQ : ∀ (W : World) (k : Nat) (ak : Option Addr) (ck : Nat), Below w.heap.size w W -> k < rows.length -> Lst W.heap.size W ak ck (rat rows k) -> Calls Tryz.prog F (#[.slice ak (rat rows k).length ck] ++ caps) W fun e w' => e = .returned (.int .i64 (A (rat rows k))) /\ Below W.heap.size W w') :
  Calls Tryz.prog 58 #[.agg #[.pointer (some ⟨b, 0, none⟩), .pointer (some ⟨d, 0, none⟩), y1, y2], .slice a2 said.length c2, .func (.func F) #[] caps, .agg #[.slice ap ps.length cp, .slice ar rows.length cr, y3]] w fun e w' => e = .returned (.bool (agB p N r s said ps rows A)) /\ Below w.heap.size w w' := by
 obtain ⟨W1, hW1⟩ : ∃ W1, W1 = (w.alloc (.cells #[.pointer (some ⟨b, 0, none⟩), .pointer (some ⟨d, 0, none⟩), y1, y2] 87)).alloc (.cells #[.slice ap ps.length cp, .slice ar rows.length cr, y3] 31) := ⟨_, rfl⟩
 have hb1 : Below w.heap.size w W1 := by rw [hW1]; exact ((Below.refl _ _).alloc (Nat.le_refl _) _).alloc (by simp) _
 have hs1 : W1.heap[w.heap.size]? = some (.cells #[.pointer (some ⟨b, 0, none⟩), .pointer (some ⟨d, 0, none⟩), y1, y2] 87 (0, 0)) := by
  rw [hW1]
  have := heap_alloc_new w (.cells #[.pointer (some ⟨b, 0, none⟩), .pointer (some ⟨d, 0, none⟩), y1, y2] 87)
  have hb := (Below.refl (w.alloc (.cells #[.pointer (some ⟨b, 0, none⟩), .pointer (some ⟨d, 0, none⟩), y1, y2] 87)).heap.size (w.alloc (.cells #[.pointer (some ⟨b, 0, none⟩), .pointer (some ⟨d, 0, none⟩), y1, y2] 87))).alloc (Nat.le_refl _) (.cells #[.slice ap ps.length cp, .slice ar rows.length cr, y3] 31)
  exact (hb.block _ (by simp)).trans this
 have hs2 : W1.heap[w.heap.size + 1]? = some (.cells #[.slice ap ps.length cp, .slice ar rows.length cr, y3] 31 (0, 0)) := by
  rw [hW1]
  have := heap_alloc_new (w.alloc (.cells #[.pointer (some ⟨b, 0, none⟩), .pointer (some ⟨d, 0, none⟩), y1, y2] 87)) (.cells #[.slice ap ps.length cp, .slice ar rows.length cr, y3] 31)
  simpa using this
 obtain ⟨G, hG⟩ : ∃ G, G = w.heap.size := ⟨_, rfl⟩
 obtain ⟨P, hPP⟩ : ∃ P, P = w.heap.size + 1 := ⟨_, rfl⟩
 rw [<- hG] at hs1
 rw [<- hPP] at hs2
 have h3 := D.h3
 have h4 := D.hm
 have HT : Hid (∀ W, Below W1.heap.size W1 W -> Below w.heap.size w W) := fun W hW => hb1.trans (hW.mono hb1.size)
 have HK : Hid (∀ W, Below W1.heap.size W1 W -> W.cell? ⟨G, 0, none⟩ = some (.pointer (some ⟨b, 0, none⟩)) /\ W.cell? ⟨G, 1, none⟩ = some (.pointer (some ⟨d, 0, none⟩)) /\ W.cell? ⟨P, 1, none⟩ = some (.slice ar rows.length cr)) := fun W hW => by
  have e1 := (hW.block G (Array.getElem?_eq_some_iff.1 hs1).1).trans hs1
  have e2 := (hW.block P (Array.getElem?_eq_some_iff.1 hs2).1).trans hs2
  refine ⟨?_, ?_, ?_⟩ <;> simp [World.cell?, e1, e2]
 have p0 : W1.cell? ⟨P, 0, none⟩ = some (.slice ap ps.length cp) := by simp [World.cell?, hs2]
 have HPT : Hid (∀ (W : World) (i : Int), Below W1.heap.size W1 W -> Calls Tryz.prog 118 #[.pointer (some ⟨d, 0, none⟩), .int .i64 i] W fun e w' => e = .returned (.int .i64 (Dom.pt p s r (i % (N : Int)).toNat)) /\ Below W.heap.size W w') := fun W i hW => by
  have D2 := D.step (HT.out W hW)
  obtain ⟨kk, hk1, hk2⟩ := D2.hk
  have hda := D2.da
  rw [hk2] at hda ⊢
  refine (point_any p b d kk r s i W D2.pr D2.h3 D2.hm D2.hp hda hk1 D2.hr0 D2.hr1 D2.hs0 D2.hs1).mono ?_
  rintro e w' ⟨rfl, rfl⟩
  exact ⟨rfl, (Below.refl _ _).drew⟩
 have HEV : Hid (∀ (W : World) (x : Int), Below W1.heap.size W1 W -> 0 <= x -> x < p -> Calls Tryz.prog 108 #[.pointer (some ⟨b, 0, none⟩), .slice a2 said.length c2, .int .i64 x] W fun e w' => e = .returned (.int .i64 (evz p said x)) /\ Below W.heap.size W w') := fun W x hW hx0 hx1 => by
  have hh := HT.out W hW
  refine (eval_any p b c2 (· < w.heap.size) a2 said x W h3 h4 (D.step hh).hp hsl hfs (by omega) (by omega) (hl2.below hh)).mono ?_
  rintro e w' ⟨rfl, n1, rfl⟩
  exact ⟨rfl, below_drewN (Below.refl _ _) n1⟩
 have HRO : Hid (∀ W, Below W1.heap.size W1 W -> LstR W.heap.size W ar cr rows) := fun W hW => (hr.below (HT.out W hW)).mono (HT.out W hW).size
 have HPS : Hid (∀ W, Below W1.heap.size W1 W -> RowB W.heap.size W ap ps) := fun W hW => (hp.below (HT.out W hW)).mono (HT.out W hW).size
 have HQQ : Hid (∀ (W : World) (k : Nat) (ak : Option Addr) (ck : Nat), Below W1.heap.size W1 W -> k < rows.length -> Lst W.heap.size W ak ck (rat rows k) -> Calls Tryz.prog F (#[.slice ak (rat rows k).length ck] ++ caps) W fun e w' => e = .returned (.int .i64 (A (rat rows k))) /\ Below W.heap.size W w') := fun W k ak ck hW hk hl => HQ W k ak ck (HT.out W hW) hk hl
 obtain ⟨R, hR⟩ : ∃ R, R = agB p N r s said ps rows A := ⟨_, rfl⟩
 rw [<- hR]
 have HRT : Hid ((∀ k, k < ps.length -> evz p said (Dom.pt p s r (zat ps k % (N : Int)).toNat) = A (rat rows k)) -> R = true) := fun h => by rw [hR]; exact decide_eq_true h
 have HRF : Hid (∀ k, k < ps.length -> ¬ evz p said (Dom.pt p s r (zat ps k % (N : Int)).toNat) = A (rat rows k) -> R = false) := fun k hk h => by rw [hR]; exact decide_eq_false (fun g => h (g k hk))
 have HPB : Hid (∀ k : Nat, 0 <= Dom.pt p s r k /\ Dom.pt p s r k < p) := fun k => emod_bounds (s * r ^ k) p h3
 obtain ⟨n3, hn3⟩ : ∃ n3, n3 = rows.length := ⟨_, rfl⟩
 obtain ⟨n2, hn2⟩ : ∃ n2, n2 = ps.length := ⟨_, rfl⟩
 have HN3 := hid hn3
 have HN2 := hid hn2
 simp only [<- hn3] at HK HQQ hpr hW1 ⊢
 simp only [<- hn2] at HRT HRF hpr hps p0 hW1 ⊢
 generalize said.length = n1 at *
 have HW1 := hid hW1
 have HG := hid hG
 have HPP := hid hPP
 have hq2 : (n2 : Int) <= (n3 : Int) := by omega
 have HHQ : Hid True := trivial
 clear D hfs hl2 hp hr HQ hs1 hs2 hb1 hR hn3 hn2 hW1 hG hPP
 go_enter Tryz.func58, Tryz.ntmps58
 go_wp2_with fail
 rw [<- HPP.out, <- HG.out, <- HW1.out]
 clear HW1 HG HPP p0
 go_loopw [9, 10, 14] (fun _ _ iv wr => ∃ k : Nat, k <= n2 /\ iv = .int .i64 (k : Int) /\ Hid ((∀ j, j < k -> evz p said (Dom.pt p s r (zat ps j % (N : Int)).toNat) = A (rat rows j)) /\ Below W1.heap.size W1 wr)) (fun _ _ iv _ => n2 - (intOf iv).toNat)
 case atStart => exact ⟨0, by omega, rfl, fun j hj => by omega, Below.refl _ _⟩
 case round =>
  obtain ⟨k, hk, rfl, hI⟩ := hrel
  by_cases hlt : k < n2
  ·have hlt2 : (k : Int) < (n2 : Int) := by omega
   have hlt3 : (k : Int) < (n3 : Int) := by omega
   have hks : IntKind.i64.wrap ((k : Int) + 1) = (k : Int) + 1 := by rw [IntKind.wrap_i64]; omega
   obtain ⟨bp, op, rfl, hbp, hxp⟩ := HPS.out wr hI.out.2 k (by rw [<- HN2.out]; exact hlt)
   obtain ⟨br, orr, ak, ck, rfl, hbr, hcr, hlk⟩ := (HRO.out wr hI.out.2).row k (by rw [<- HN3.out]; omega)
   have HB := hid hI.out.2
   have HKK : Hid (∀ W, Below wr.heap.size wr W -> W.cell? ⟨G, 0, none⟩ = some (.pointer (some ⟨b, 0, none⟩)) /\ W.cell? ⟨G, 1, none⟩ = some (.pointer (some ⟨d, 0, none⟩)) /\ W.cell? ⟨P, 1, none⟩ = some (.slice (some ⟨br, orr, none⟩) n3 cr) /\ W.cell? ⟨br, orr + k, none⟩ = some (.slice ak (rat rows k).length ck)) := fun W hW => by
    obtain ⟨q1, q2, q3⟩ := HK.out W (HB.out.trans (hW.mono HB.out.size))
    exact ⟨q1, q2, q3, (hW.cell (p := ⟨br, orr + k, none⟩) hbr).trans hcr⟩
   have hLT : ∀ W, Below wr.heap.size wr W -> Below W1.heap.size W1 W := fun W hW => HB.out.trans (hW.mono HB.out.size)
   have HLT := hid hLT
   have hpb := HPB.out (zat ps k % (N : Int)).toNat
   have HPX : Hid (∀ W, Below wr.heap.size wr W -> Calls Tryz.prog 118 #[.pointer (some ⟨d, 0, none⟩), .int .i64 (zat ps k)] W fun e w' => e = .returned (.int .i64 (Dom.pt p s r (zat ps k % (N : Int)).toNat)) /\ Below wr.heap.size wr w') := fun W hW => by
    exact (HPT.out W (zat ps k) (hLT W hW)).mono (by rintro e w' ⟨h1, h2⟩; exact ⟨h1, hW.trans (h2.mono hW.size)⟩)
   obtain ⟨X, hX⟩ : ∃ X, X = Dom.pt p s r (zat ps k % (N : Int)).toNat := ⟨_, rfl⟩
   rw [<- hX] at HPX hpb
   have HEX : Hid (∀ W, Below wr.heap.size wr W -> Calls Tryz.prog 108 #[.pointer (some ⟨b, 0, none⟩), .slice a2 n1 c2, .int .i64 X] W fun e w' => e = .returned (.int .i64 (evz p said X)) /\ Below wr.heap.size wr w') := fun W hW =>
    (HEV.out W X (hLT W hW) hpb.1 hpb.2).mono (by rintro e w' ⟨h1, h2⟩; exact ⟨h1, hW.trans (h2.mono hW.size)⟩)
   have HQX : Hid (∀ W, Below wr.heap.size wr W -> Calls Tryz.prog F (#[.slice ak (rat rows k).length ck] ++ caps) W fun e w' => e = .returned (.int .i64 (A (rat rows k))) /\ Below wr.heap.size wr w') := fun W hW =>
    (HQQ.out W k ak ck (hLT W hW) (by omega) ((hlk.below hW).mono hW.size)).mono (by rintro e w' ⟨h1, h2⟩; exact ⟨h1, hW.trans (h2.mono hW.size)⟩)
   have hdw : Below wr.heap.size wr wr.drew := (Below.refl _ _).drew
   have HFF := hid (HRF.out k hlt)
   rw [<- hX] at HFF
   have HIX := hid hI.out.1
   have HXX := hid hX
   clear hX hI hlk hcr hLT
   generalize (rat rows k).length = L at *
   obtain ⟨pk, hpk⟩ : ∃ pk, pk = zat ps k := ⟨_, rfl⟩
   simp only [<- hpk] at HPX hxp
   clear hpk
   obtain ⟨e1, he1⟩ : ∃ e1, e1 = evz p said X := ⟨_, rfl⟩
   obtain ⟨e2, he2⟩ : ∃ e2, e2 = A (rat rows k) := ⟨_, rfl⟩
   rw [<- he1] at HEX HFF
   rw [<- he2] at HQX HFF
   have HE1 := hid he1
   have HE2 := hid he2
   clear he1 he2
   by_cases heq : e1 = e2
   ·have hb : (e1 != e2) = false := by rw [heq]; simp
    have HNX : Hid (∀ j, j < k + 1 -> evz p said (Dom.pt p s r (zat ps j % (N : Int)).toNat) = A (rat rows j)) := fun j hj => by
     by_cases e : j = k
     ·subst e; rw [<- HXX.out, <- HE1.out, <- HE2.out]; exact heq
     ·exact HIX.out j (by omega)
    clear HFF heq
    go_wp2_with fail
    refine wp_region_held_drew (S := fun W => W.cell? ⟨G, 0, none⟩ = some (.pointer (some ⟨b, 0, none⟩)) /\ W.cell? ⟨G, 1, none⟩ = some (.pointer (some ⟨d, 0, none⟩)) /\ W.cell? ⟨P, 1, none⟩ = some (.slice (some ⟨br, orr, none⟩) n3 cr) /\ W.cell? ⟨br, orr + k, none⟩ = some (.slice ak L ck)) (by kernel_rfl) (HKK.out wr.drew hdw) (fun hHeld => ?_)
    refine wpAnyH_takeU (i := 0) (v := .pointer (some ⟨G, 0, none⟩)) rfl (by kernel_rfl) (by kernel_rfl) (by kernel_rfl) (fun _ _ _ h => h) (by rfl) (fun W hC => by go_simp) hHeld ?_
    simp only [Act.put, List.setIfInBounds_toArray, List.set_cons_zero, List.set_cons_succ]
    refine wpAnyH_takeU (i := 1) (v := .pointer (some ⟨b, 0, none⟩)) rfl (by kernel_rfl) (by kernel_rfl) (by kernel_rfl) (fun _ _ _ h => h) (by rfl) (fun W hC => by (obtain ⟨y0, y1, y2, y3⟩ := hC); go_simp) hHeld ?_
    simp only [Act.put, List.setIfInBounds_toArray, List.set_cons_zero, List.set_cons_succ]
    refine wpAnyH_takeU (i := 2) (v := .slice a2 n1 c2) rfl (by kernel_rfl) (by kernel_rfl) (by kernel_rfl) (fun _ _ _ h => h) (by rfl) (fun W hC => by go_simp) hHeld ?_
    simp only [Act.put, List.setIfInBounds_toArray, List.set_cons_zero, List.set_cons_succ]
    refine wpAnyH_takeU (i := 3) (v := .pointer (some ⟨G, 1, none⟩)) rfl (by kernel_rfl) (by kernel_rfl) (by kernel_rfl) (fun _ _ _ h => h) (by rfl) (fun W hC => by go_simp) hHeld ?_
    simp only [Act.put, List.setIfInBounds_toArray, List.set_cons_zero, List.set_cons_succ]
    refine wpAnyH_takeU (i := 4) (v := .pointer (some ⟨d, 0, none⟩)) rfl (by kernel_rfl) (by kernel_rfl) (by kernel_rfl) (fun _ _ _ h => h) (by rfl) (fun W hC => by (obtain ⟨y0, y1, y2, y3⟩ := hC); go_simp) hHeld ?_
    simp only [Act.put, List.setIfInBounds_toArray, List.set_cons_zero, List.set_cons_succ]
    refine wpAnyH_takeU (i := 5) (v := .int .i64 pk) rfl (by kernel_rfl) (by kernel_rfl) (by kernel_rfl) (fun _ _ _ h => h) (by rfl) (fun W hC => by go_simp) hHeld ?_
    simp only [Act.put, List.setIfInBounds_toArray, List.set_cons_zero, List.set_cons_succ]
    refine wpAnyH_takeU (i := 8) (v := .func (.func F) #[] caps) rfl (by kernel_rfl) (by kernel_rfl) (by kernel_rfl) (fun _ _ _ h => h) (by rfl) (fun W hC => by go_simp) hHeld ?_
    simp only [Act.put, List.setIfInBounds_toArray, List.set_cons_zero, List.set_cons_succ]
    refine wpAnyH_takeU (i := 9) (v := .pointer (some ⟨P, 1, none⟩)) rfl (by kernel_rfl) (by kernel_rfl) (by kernel_rfl) (fun _ _ _ h => h) (by rfl) (fun W hC => by go_simp) hHeld ?_
    simp only [Act.put, List.setIfInBounds_toArray, List.set_cons_zero, List.set_cons_succ]
    refine wpAnyH_takeU (i := 10) (v := .slice (some ⟨br, orr, none⟩) n3 cr) rfl (by kernel_rfl) (by kernel_rfl) (by kernel_rfl) (fun _ _ _ h => h) (by rfl) (fun W hC => by (obtain ⟨y0, y1, y2, y3⟩ := hC); go_simp) hHeld ?_
    simp only [Act.put, List.setIfInBounds_toArray, List.set_cons_zero, List.set_cons_succ]
    refine wpAnyH_takeU (i := 11) (v := .int .i64 (k : Int)) rfl (by kernel_rfl) (by kernel_rfl) (by kernel_rfl) (fun _ _ _ h => h) (by rfl) (fun W hC => by go_simp) hHeld ?_
    simp only [Act.put, List.setIfInBounds_toArray, List.set_cons_zero, List.set_cons_succ]
    refine wpAnyH_takeU (i := 12) (v := .pointer (some ⟨br, orr + k, none⟩)) rfl (by kernel_rfl) (by kernel_rfl) (by kernel_rfl) (fun _ _ _ h => h) (by rfl) (fun W hC => by go_simp) hHeld ?_
    simp only [Act.put, List.setIfInBounds_toArray, List.set_cons_zero, List.set_cons_succ]
    refine wpAnyH_takeU (i := 13) (v := .slice ak L ck) rfl (by kernel_rfl) (by kernel_rfl) (by kernel_rfl) (fun _ _ _ h => h) (by rfl) (fun W hC => by (obtain ⟨y0, y1, y2, y3⟩ := hC); go_simp) hHeld ?_
    simp only [Act.put, List.setIfInBounds_toArray, List.set_cons_zero, List.set_cons_succ]
    refine wpAnyH_ready (rs := [6]) (by kernel_rfl) (by simp) ?_
    refine AllReadyH.consU rfl (fun K' hK' => ?_) AllReadyH.nil
    go_simp
    refine (HPX.out _ hdw).mono ?_
    rintro e w4 ⟨rfl, hb4⟩
    refine hK'.out _ _ (HKK.out w4 hb4) (fun hHeld => ?_)
    clear hK' K'
    refine wpAnyH_ready (rs := [7]) (by kernel_rfl) (by simp) ?_
    refine AllReadyH.consU rfl (fun K' hK' => ?_) AllReadyH.nil
    go_simp
    refine (HEX.out _ hb4).mono ?_
    rintro e w5 ⟨rfl, hb5⟩
    refine hK'.out _ _ (HKK.out w5 hb5) (fun hHeld => ?_)
    clear hK' K'
    refine wpAnyH_ready (rs := [14]) (by kernel_rfl) (by simp) ?_
    refine AllReadyH.consU rfl (fun K' hK' => ?_) AllReadyH.nil
    go_simp
    refine (HQX.out _ hb5).mono ?_
    rintro e w6 ⟨rfl, hb6⟩
    refine hK'.out _ _ (HKK.out w6 hb6) (fun hHeld => ?_)
    clear hK' K'
    refine wpAnyH_takeU (i := 15) (v := .bool false) rfl (by kernel_rfl) (by kernel_rfl) (by kernel_rfl) (fun _ _ _ h => h) (by rfl) (fun W hC => by go_simp) hHeld ?_
    simp only [Act.put, List.setIfInBounds_toArray, List.set_cons_zero, List.set_cons_succ]
    refine wpAnyH_done (by kernel_rfl) ?_ _
    have HB6 := hid (HLT.out _ hb6)
    go_wp2_with fail
    go_roundw
    case rel => exact ⟨k + 1, by omega, by go_num, HNX.out, HB6.out⟩
    case measure => simp [intOf]; omega
   ·have hb : (e1 != e2) = true := by simp [heq]
    have HRR := hid (HFF.out heq)
    clear HFF heq
    go_wp2_with fail
    refine wp_region_held_drew (S := fun W => W.cell? ⟨G, 0, none⟩ = some (.pointer (some ⟨b, 0, none⟩)) /\ W.cell? ⟨G, 1, none⟩ = some (.pointer (some ⟨d, 0, none⟩)) /\ W.cell? ⟨P, 1, none⟩ = some (.slice (some ⟨br, orr, none⟩) n3 cr) /\ W.cell? ⟨br, orr + k, none⟩ = some (.slice ak L ck)) (by kernel_rfl) (HKK.out wr.drew hdw) (fun hHeld => ?_)
    refine wpAnyH_takeU (i := 0) (v := .pointer (some ⟨G, 0, none⟩)) rfl (by kernel_rfl) (by kernel_rfl) (by kernel_rfl) (fun _ _ _ h => h) (by rfl) (fun W hC => by go_simp) hHeld ?_
    simp only [Act.put, List.setIfInBounds_toArray, List.set_cons_zero, List.set_cons_succ]
    refine wpAnyH_takeU (i := 1) (v := .pointer (some ⟨b, 0, none⟩)) rfl (by kernel_rfl) (by kernel_rfl) (by kernel_rfl) (fun _ _ _ h => h) (by rfl) (fun W hC => by (obtain ⟨y0, y1, y2, y3⟩ := hC); go_simp) hHeld ?_
    simp only [Act.put, List.setIfInBounds_toArray, List.set_cons_zero, List.set_cons_succ]
    refine wpAnyH_takeU (i := 2) (v := .slice a2 n1 c2) rfl (by kernel_rfl) (by kernel_rfl) (by kernel_rfl) (fun _ _ _ h => h) (by rfl) (fun W hC => by go_simp) hHeld ?_
    simp only [Act.put, List.setIfInBounds_toArray, List.set_cons_zero, List.set_cons_succ]
    refine wpAnyH_takeU (i := 3) (v := .pointer (some ⟨G, 1, none⟩)) rfl (by kernel_rfl) (by kernel_rfl) (by kernel_rfl) (fun _ _ _ h => h) (by rfl) (fun W hC => by go_simp) hHeld ?_
    simp only [Act.put, List.setIfInBounds_toArray, List.set_cons_zero, List.set_cons_succ]
    refine wpAnyH_takeU (i := 4) (v := .pointer (some ⟨d, 0, none⟩)) rfl (by kernel_rfl) (by kernel_rfl) (by kernel_rfl) (fun _ _ _ h => h) (by rfl) (fun W hC => by (obtain ⟨y0, y1, y2, y3⟩ := hC); go_simp) hHeld ?_
    simp only [Act.put, List.setIfInBounds_toArray, List.set_cons_zero, List.set_cons_succ]
    refine wpAnyH_takeU (i := 5) (v := .int .i64 pk) rfl (by kernel_rfl) (by kernel_rfl) (by kernel_rfl) (fun _ _ _ h => h) (by rfl) (fun W hC => by go_simp) hHeld ?_
    simp only [Act.put, List.setIfInBounds_toArray, List.set_cons_zero, List.set_cons_succ]
    refine wpAnyH_takeU (i := 8) (v := .func (.func F) #[] caps) rfl (by kernel_rfl) (by kernel_rfl) (by kernel_rfl) (fun _ _ _ h => h) (by rfl) (fun W hC => by go_simp) hHeld ?_
    simp only [Act.put, List.setIfInBounds_toArray, List.set_cons_zero, List.set_cons_succ]
    refine wpAnyH_takeU (i := 9) (v := .pointer (some ⟨P, 1, none⟩)) rfl (by kernel_rfl) (by kernel_rfl) (by kernel_rfl) (fun _ _ _ h => h) (by rfl) (fun W hC => by go_simp) hHeld ?_
    simp only [Act.put, List.setIfInBounds_toArray, List.set_cons_zero, List.set_cons_succ]
    refine wpAnyH_takeU (i := 10) (v := .slice (some ⟨br, orr, none⟩) n3 cr) rfl (by kernel_rfl) (by kernel_rfl) (by kernel_rfl) (fun _ _ _ h => h) (by rfl) (fun W hC => by (obtain ⟨y0, y1, y2, y3⟩ := hC); go_simp) hHeld ?_
    simp only [Act.put, List.setIfInBounds_toArray, List.set_cons_zero, List.set_cons_succ]
    refine wpAnyH_takeU (i := 11) (v := .int .i64 (k : Int)) rfl (by kernel_rfl) (by kernel_rfl) (by kernel_rfl) (fun _ _ _ h => h) (by rfl) (fun W hC => by go_simp) hHeld ?_
    simp only [Act.put, List.setIfInBounds_toArray, List.set_cons_zero, List.set_cons_succ]
    refine wpAnyH_takeU (i := 12) (v := .pointer (some ⟨br, orr + k, none⟩)) rfl (by kernel_rfl) (by kernel_rfl) (by kernel_rfl) (fun _ _ _ h => h) (by rfl) (fun W hC => by go_simp) hHeld ?_
    simp only [Act.put, List.setIfInBounds_toArray, List.set_cons_zero, List.set_cons_succ]
    refine wpAnyH_takeU (i := 13) (v := .slice ak L ck) rfl (by kernel_rfl) (by kernel_rfl) (by kernel_rfl) (fun _ _ _ h => h) (by rfl) (fun W hC => by (obtain ⟨y0, y1, y2, y3⟩ := hC); go_simp) hHeld ?_
    simp only [Act.put, List.setIfInBounds_toArray, List.set_cons_zero, List.set_cons_succ]
    refine wpAnyH_ready (rs := [6]) (by kernel_rfl) (by simp) ?_
    refine AllReadyH.consU rfl (fun K' hK' => ?_) AllReadyH.nil
    go_simp
    refine (HPX.out _ hdw).mono ?_
    rintro e w4 ⟨rfl, hb4⟩
    refine hK'.out _ _ (HKK.out w4 hb4) (fun hHeld => ?_)
    clear hK' K'
    refine wpAnyH_ready (rs := [7]) (by kernel_rfl) (by simp) ?_
    refine AllReadyH.consU rfl (fun K' hK' => ?_) AllReadyH.nil
    go_simp
    refine (HEX.out _ hb4).mono ?_
    rintro e w5 ⟨rfl, hb5⟩
    refine hK'.out _ _ (HKK.out w5 hb5) (fun hHeld => ?_)
    clear hK' K'
    refine wpAnyH_ready (rs := [14]) (by kernel_rfl) (by simp) ?_
    refine AllReadyH.consU rfl (fun K' hK' => ?_) AllReadyH.nil
    go_simp
    refine (HQX.out _ hb5).mono ?_
    rintro e w6 ⟨rfl, hb6⟩
    refine hK'.out _ _ (HKK.out w6 hb6) (fun hHeld => ?_)
    clear hK' K'
    refine wpAnyH_takeU (i := 15) (v := .bool true) rfl (by kernel_rfl) (by kernel_rfl) (by kernel_rfl) (fun _ _ _ h => h) (by rfl) (fun W hC => by go_simp) hHeld ?_
    simp only [Act.put, List.setIfInBounds_toArray, List.set_cons_zero, List.set_cons_succ]
    refine wpAnyH_done (by kernel_rfl) ?_ _
    have HB6 := hid (HT.out _ (HLT.out _ hb6))
    go_wp2_with fail
    go_ret
    exact ⟨by rw [HRR.out]; rfl, HB6.out⟩
  ·obtain rfl : k = n2 := by omega
   have hlt2 : ¬ (k : Int) < (k : Int) := by omega
   have HE : Hid (R = true /\ Below w.heap.size w wr) := ⟨HRT.out hI.out.1, HT.out _ hI.out.2⟩
   clear hI
   go_wp2_with fail
   go_ret
   exact ⟨by rw [HE.out.1]; rfl, HE.out.2⟩
end Go.Proofs.YtlhjifpomchnfaaGreatDoor
