/- Package source: a call. -/
import Derived.Test.YtlgcmeachjjmgajGreatDoorSsL
namespace Go.Proofs.YtlgcmeachjjmgajGreatDoor
open Go.RowKit

theorem shareS {Good F : Nat → World → Prop} {goal : Prop} (h2 : (∀ G W, Good G W → F G W) → goal) (h1 : ∀ G W, Good G W → F G W) : goal := h2 h1
theorem belD {N : Nat} {w W : World} (h : Below N w W) : Below N w W.drew := ⟨h.os, h.tape, h.output, h.size, h.block⟩

set_option maxRecDepth 100000 in
set_option maxHeartbeats 2000000 in
theorem call_of (p V fb pg fuel lo : Nat) (fs : List FnT) (w0 : World) (R : Nat) (h3 : 3 ≤ p) (hV0 : w0.heap.size ≤ V) (hPg : PgAt lo w0 pg fs) (hW : ∀ g, g ∈ fs → FW g) (IH : EvC p V fb pg fuel fs w0 R) (at' n : Nat) (nm : List UInt8) (kids : List Tr) (b : Nat) (a : Option Addr) (sc : List (List UInt8 × Int)) (k : Nat) (w : World) (hb : Below w0.heap.size w0 w) (hE : EvAt w V fb pg k fuel) (hk : k ≤ fuel) (hP : PT 0 w0 (.node 2 nm at' n kids) (.pointer (some ⟨b, 0, none⟩))) (hx : TWs kids) (hnm : nm.length ≤ 4000) (hS : ScP w (.pointer a) sc) (hSB : ScB p sc)
    (g : FnT) (hg : fnOf fs nm = some g) (r : ER Int) (hr : r = (evA (fun t k => evl p fs fuel R t sc k) g.more kids [] k).bind fun own k2 => evl p fs fuel R g.body own k2) (hro : r ≠ .out) :
    Calls Tryz.prog 93 #[.pointer (some ⟨V, 0, none⟩), .pointer (some ⟨b, 0, none⟩), .pointer a] w (EvP (Value.int .i64) V fb pg fuel w r) := by
  have hgi : ∃ i : Nat, nmM fs fs.length nm = some (i : Int) ∧ fs[i]? = some g := by
    unfold fnOf at hg
    cases hz : nmM fs fs.length nm with
    | none => rw [hz] at hg; cases hg
    | some z =>
      obtain ⟨j, g', e1, _, e2, _⟩ := nmM_some fs _ _ _ hz
      rw [hz, e1] at hg
      exact ⟨j, by rw [e1], by simpa using hg⟩
  obtain ⟨i, hi, hgi⟩ := hgi
  obtain ⟨pa, pc, B, hpb, _, _, hcc, hF, hM⟩ := hPg
  have hil : i < fs.length := (List.getElem?_eq_some_iff.1 hgi).1
  obtain ⟨kb, a2, c2, bb, rfl, _, d0, d1, d2, d3, d4, d5⟩ := hF i g hgi
  have q0 : w0.cell? ⟨pg, 0, none⟩ = some (.slice (some ⟨kb, 0, none⟩) fs.length pc) := by simp [World.cell?, hpb]
  have q1 : w0.cell? ⟨pg, 1, none⟩ = some (.map (some B)) := by simp [World.cell?, hpb]
  obtain ⟨b', av, c, e0, _, hbk, hks⟩ := hP
  injection e0 with e0
  injection e0 with e0
  injection e0 with e0
  subst e0
  have p1 : w0.cell? ⟨b, 1, none⟩ = some (.string (bs nm)) := by simp [World.cell?, hbk]
  have v1 : w.cell? ⟨V, 1, none⟩ = some (.pointer (some ⟨pg, 0, none⟩)) := by simp [World.cell?, show w.heap[V]? = _ from hE]
  have HFN : Hid (∀ W, Below w.heap.size w W → Calls Tryz.prog 56 #[.pointer (some ⟨pg, 0, none⟩), .string (bs nm)] W fun e w' => e = .returned (.agg #[.string (bs g.name), .int .i64 (g.at' : Int), .slice a2 g.more.length c2, .pointer (some ⟨bb, 0, none⟩)]) ∧ Below W.heap.size W w') := fun W hw => by
    have hB := hb.trans (hw.mono hb.size)
    exact function_at pg i fs.length pc kb B fs nm g a2 c2 bb W ((hB.cell (p := ⟨pg, 0, none⟩) (World.block_lt_of_cell? _ _ q0)).trans q0) ((hB.cell (p := ⟨pg, 1, none⟩) (World.block_lt_of_cell? _ _ q1)).trans q1) hil (hM.below hB) hi hnm ((hB.cell (p := ⟨kb, i * 4, none⟩) (World.block_lt_of_cell? _ _ d0)).trans d0) ((hB.cell (p := ⟨kb, i * 4 + 1, none⟩) (World.block_lt_of_cell? _ _ d1)).trans d1) ((hB.cell (p := ⟨kb, i * 4 + 2, none⟩) (World.block_lt_of_cell? _ _ d2)).trans d2) ((hB.cell (p := ⟨kb, i * 4 + 3, none⟩) (World.block_lt_of_cell? _ _ d3)).trans d3)
  have HS : Hid (∀ W, Below w.heap.size w W → W.cell? ⟨V, 1, none⟩ = some (.pointer (some ⟨pg, 0, none⟩)) ∧ W.cell? ⟨b, 1, none⟩ = some (.string (bs nm)) ∧ True) := fun W hw => by
    have hB := hb.trans (hw.mono hb.size)
    exact ⟨(hw.cell (p := ⟨V, 1, none⟩) (World.block_lt_of_cell? _ _ v1)).trans v1, (hB.cell (p := ⟨b, 1, none⟩) (World.block_lt_of_cell? _ _ p1)).trans p1, trivial⟩
  have HND := hid d4
  have HPD := hid d5
  have HKS := hid hks
  have HBK := hid hbk
  have HB := hid hb
  have HE := hid hE
  have HX := hid hx
  have HSC := hid hS
  have HSB := hid hSB
  have HR := hid hr
  have HRO := hid hro
  have HFW := hid (hW g (List.mem_of_getElem? hgi))
  have HIH := hid IH
  clear hgi hi hpb hcc hF hM d0 d1 d2 d3 d4 d5 q0 q1 hbk hks hb hE hx hS hSB hr hro hW IH p1 v1 hg hil
  go_enter Tryz.func93, Tryz.ntmps93
  go_wp2_with fail
  have hbd : Below w.heap.size w w.drew := belD (Below.refl _ _)
  refine wp_region_held_drew (S := (fun W => Below w.heap.size w W)) (by kernel_rfl) hbd (fun hHeld => ?_)
  refine wpAnyH_takeS (i := 0) (v := .pointer (some ⟨V, 0, none⟩)) rfl (by kernel_rfl) (by kernel_rfl) (by kernel_rfl) (fun _ _ _ h => h) (by rfl) (fun W hC => by go_simp) hHeld ?_
  simp only [Act.put, List.setIfInBounds_toArray, List.set_cons_zero, List.set_cons_succ]
  refine wpAnyH_takeS (i := 1) (v := .pointer (some ⟨V, 0, none⟩)) rfl (by kernel_rfl) (by kernel_rfl) (by kernel_rfl) (fun _ _ _ h => h) (by rfl) (fun W hC => by go_simp) hHeld ?_
  simp only [Act.put, List.setIfInBounds_toArray, List.set_cons_zero, List.set_cons_succ]
  refine wpAnyH_takeS (i := 2) (v := .pointer (some ⟨V, 1, none⟩)) rfl (by kernel_rfl) (by kernel_rfl) (by kernel_rfl) (fun _ _ _ h => h) (by rfl) (fun W hC => by go_simp) hHeld ?_
  simp only [Act.put, List.setIfInBounds_toArray, List.set_cons_zero, List.set_cons_succ]
  refine wpAnyH_takeS (i := 3) (v := .pointer (some ⟨pg, 0, none⟩)) rfl (by kernel_rfl) (by kernel_rfl) (by kernel_rfl) (fun _ _ _ h => h) (by rfl) (fun W hC => by (obtain ⟨y0, y1, _⟩ := HS.out W hC); go_simp) hHeld ?_
  simp only [Act.put, List.setIfInBounds_toArray, List.set_cons_zero, List.set_cons_succ]
  refine wpAnyH_takeS (i := 4) (v := .pointer (some ⟨b, 0, none⟩)) rfl (by kernel_rfl) (by kernel_rfl) (by kernel_rfl) (fun _ _ _ h => h) (by rfl) (fun W hC => by go_simp) hHeld ?_
  simp only [Act.put, List.setIfInBounds_toArray, List.set_cons_zero, List.set_cons_succ]
  refine wpAnyH_takeS (i := 5) (v := .pointer (some ⟨b, 0, none⟩)) rfl (by kernel_rfl) (by kernel_rfl) (by kernel_rfl) (fun _ _ _ h => h) (by rfl) (fun W hC => by go_simp) hHeld ?_
  simp only [Act.put, List.setIfInBounds_toArray, List.set_cons_zero, List.set_cons_succ]
  refine wpAnyH_takeS (i := 6) (v := .pointer (some ⟨b, 1, none⟩)) rfl (by kernel_rfl) (by kernel_rfl) (by kernel_rfl) (fun _ _ _ h => h) (by rfl) (fun W hC => by go_simp) hHeld ?_
  simp only [Act.put, List.setIfInBounds_toArray, List.set_cons_zero, List.set_cons_succ]
  refine wpAnyH_takeS (i := 7) (v := .pointer (some ⟨b, 1, none⟩)) rfl (by kernel_rfl) (by kernel_rfl) (by kernel_rfl) (fun _ _ _ h => h) (by rfl) (fun W hC => by go_simp) hHeld ?_
  simp only [Act.put, List.setIfInBounds_toArray, List.set_cons_zero, List.set_cons_succ]
  refine wpAnyH_takeS (i := 8) (v := .string (bs nm)) rfl (by kernel_rfl) (by kernel_rfl) (by kernel_rfl) (fun _ _ _ h => h) (by rfl) (fun W hC => by (obtain ⟨y0, y1, _⟩ := HS.out W hC); go_simp) hHeld ?_
  simp only [Act.put, List.setIfInBounds_toArray, List.set_cons_zero, List.set_cons_succ]
  refine shareS (F := ?F) (Good := fun G W => Below w.heap.size w W ∧ W.heap[G]? = some (.cells #[.string (bs g.name), .int .i64 (g.at' : Int), .slice a2 g.more.length c2, .pointer (some ⟨bb, 0, none⟩)] 82 (0, 0)) ∧ w.heap.size ≤ G) (fun REST => ?b1) ?b2
  case b1 =>
    refine wpAnyH_ready (rs := [9, 10]) (by kernel_rfl) (by simp) ?_
    refine AllReadyH.consS rfl (fun K hK => ?_) (AllReadyH.consS rfl (fun K hK => ?_) AllReadyH.nil)
    · go_simp
      refine (HFN.out _ hbd).mono ?_
      rintro e w1 ⟨rfl, hb1⟩
      have hB1 : Below w.heap.size w w1 := hbd.trans (hb1.mono hbd.size)
      refine hK.out _ _ hB1 (fun hHeld => ?_)
      clear hK K
      refine wpAnyH_ready (rs := [10]) (by kernel_rfl) (by simp) ?_
      refine AllReadyH.consS rfl (fun K hK => ?_) AllReadyH.nil
      go_simp
      refine hK.out _ _ (hB1.trans (((Below.refl _ w1).alloc (Nat.le_refl _) _).mono hB1.size)) (fun hHeld => ?_)
      clear hK K
      refine wpAnyH_ready (rs := [11]) (by kernel_rfl) (by simp) ?_
      refine AllReadyH.consS rfl (fun K hK => ?_) AllReadyH.nil
      go_simp
      have hB2 : Below w.heap.size w (w1.alloc (.cells #[.string (bs g.name), .int .i64 (g.at' : Int), .slice a2 g.more.length c2, .pointer (some ⟨bb, 0, none⟩)] 82)) := hB1.trans (((Below.refl _ w1).alloc (Nat.le_refl _) _).mono hB1.size)
      refine hK.out _ _ hB2 (fun hHeld => ?_)
      clear hK K hHeld
      have hn1 : (w1.alloc (.cells #[.string (bs g.name), .int .i64 (g.at' : Int), .slice a2 g.more.length c2, .pointer (some ⟨bb, 0, none⟩)] 82)).heap[w1.heap.size]? = some (.cells #[.string (bs g.name), .int .i64 (g.at' : Int), .slice a2 g.more.length c2, .pointer (some ⟨bb, 0, none⟩)] 82 (0, 0)) := heap_alloc_new w1 _
      have hG1 : w.heap.size ≤ w1.heap.size := hB1.size
      generalize w1.alloc (.cells #[.string (bs g.name), .int .i64 (g.at' : Int), .slice a2 g.more.length c2, .pointer (some ⟨bb, 0, none⟩)] 82) = W2 at hB2 hn1 ⊢
      generalize w1.heap.size = G at hn1 hG1 ⊢
      exact REST G W2 ⟨hB2, hn1, hG1⟩
    · go_simp
      have hBz : Below w.heap.size w (w.alloc (.cells #[.string ⟨#[]⟩, .int .i64 0, .slice none 0 0, .pointer none] 82)).drew := belD ((Below.refl _ w).alloc (Nat.le_refl _) _)
      refine hK.out _ _ hBz (fun hHeld => ?_)
      clear hK K
      refine wpAnyH_ready (rs := [9]) (by kernel_rfl) (by simp) ?_
      refine AllReadyH.consS rfl (fun K hK => ?_) AllReadyH.nil
      go_simp
      refine (HFN.out _ hBz).mono ?_
      rintro e w1 ⟨rfl, hb1⟩
      have hB1 : Below w.heap.size w w1 := hBz.trans (hb1.mono hBz.size)
      refine hK.out _ _ hB1 (fun hHeld => ?_)
      clear hK K
      have hz : w1.heap[w.heap.size]? = some (.cells #[.string ⟨#[]⟩, .int .i64 0, .slice none 0 0, .pointer none] 82 (0, 0)) := (hb1.block _ (by simp [World.drew])).trans (heap_alloc_new w _)
      have z0 : w1.cell? ⟨w.heap.size, 0, none⟩ = some (.string ⟨#[]⟩) := by simp [World.cell?, hz]
      have z1 : w1.cell? ⟨w.heap.size, 1, none⟩ = some (.int .i64 0) := by simp [World.cell?, hz]
      have z2 : w1.cell? ⟨w.heap.size, 2, none⟩ = some (.slice none 0 0) := by simp [World.cell?, hz]
      have z3 : w1.cell? ⟨w.heap.size, 3, none⟩ = some (.pointer none) := by simp [World.cell?, hz]
      have zf : ∀ i, w1.frozen? ⟨w.heap.size, i, none⟩ = false := fun i => frozen_of_row w1 w.heap.size i _ _ hz
      refine wpAnyH_ready (rs := [11]) (by kernel_rfl) (by simp) ?_
      refine AllReadyH.consS rfl (fun K hK => ?_) AllReadyH.nil
      go_simp
      obtain ⟨W2, hW2⟩ : ∃ W2, W2 = (((w1.setCell ⟨w.heap.size, 0, none⟩ (.string (bs g.name))).setCell ⟨w.heap.size, 1, none⟩ (.int .i64 (g.at' : Int))).setCell ⟨w.heap.size, 2, none⟩ (.slice a2 g.more.length c2)).setCell ⟨w.heap.size, 3, none⟩ (.pointer (some ⟨bb, 0, none⟩)) := ⟨_, rfl⟩
      have hn1 : W2.heap[w.heap.size]? = some (.cells #[.string (bs g.name), .int .i64 (g.at' : Int), .slice a2 g.more.length c2, .pointer (some ⟨bb, 0, none⟩)] 82 (0, 0)) := by
        rw [hW2]
        exact heap_setCell_same _ w.heap.size 3 _ _ _ (heap_setCell_same _ w.heap.size 2 _ _ _ (heap_setCell_same _ w.heap.size 1 _ _ _ (heap_setCell_same _ w.heap.size 0 _ _ _ hz)))
      have hB2 : Below w.heap.size w W2 := by
        rw [hW2]
        exact (((hB1.setCell (p := ⟨w.heap.size, 0, none⟩) (Nat.le_refl _) _).setCell (p := ⟨w.heap.size, 1, none⟩) (Nat.le_refl _) _).setCell (p := ⟨w.heap.size, 2, none⟩) (Nat.le_refl _) _).setCell (p := ⟨w.heap.size, 3, none⟩) (Nat.le_refl _) _
      rw [← hW2]
      clear hW2
      refine hK.out _ _ hB2 (fun hHeld => ?_)
      clear hK K hHeld
      have hG1 : w.heap.size ≤ w.heap.size := Nat.le_refl _
      exact REST w.heap.size W2 ⟨hB2, hn1, hG1⟩
  case b2 =>
    rintro G W ⟨hBW, hGW, hGl⟩
    refine wpAnyH_done (by kernel_rfl) ?_ _
    have g2 : W.cell? ⟨G, 2, none⟩ = some (.slice a2 g.more.length c2) := by simp [World.cell?, hGW]
    obtain ⟨nm1, hn1⟩ : ∃ m, m = g.more.length := ⟨_, rfl⟩
    have hn4 : nm1 ≤ 4000 := by rw [hn1]; exact HFW.out.2.2.1
    have HNM := hid hn1
    rw [← hn1] at g2
    have HGW := hid hGW
    have HBW := hid hBW
    have HGL := hid hGl
    clear hGW hBW hGl hn1
    go_wp2_with fail
    go_loopw [8, 24] (fun v iv wr => ∃ (j k2 : Nat) (ao : Option Addr) (own : List (List UInt8 × Int)), j ≤ nm1 ∧ iv = .int .i64 j ∧ v = .pointer ao ∧ Hid (ScP wr (.pointer ao) own) ∧ Hid (ScB p own) ∧ Hid (EvAt wr V fb pg k2 fuel) ∧ Hid (k2 ≤ fuel) ∧ Hid (Fr V w wr ∧ W.heap.size ≤ wr.heap.size ∧ wr.heap[G]? = W.heap[G]?) ∧
        Hid (r = (evA (fun t k => evl p fs fuel R t sc k) (g.more.drop j) (kids.drop j) own k2).bind fun own k2 => evl p fs fuel R g.body own k2))
      (fun _ iv _ => nm1 - (intOf iv).toNat)
    case atStart => exact ⟨0, k, none, [], Nat.zero_le _, rfl, rfl, rfl, (fun y hy => by cases hy), (HBW.out.block _ HE.out.lt).trans HE.out, hk, ⟨Fr.below HBW.out (Nat.le_of_lt HE.out.lt), Nat.le_refl _, rfl⟩, HR⟩
    case round =>
      obtain ⟨j, k2, ao, own, hj, rfl, rfl, hso, hbo, hev, hkf, hfr, hrr⟩ := hrel
      have hB0 : Below w0.heap.size w0 wr := HB.out.trans ((hfr.out.1).1.mono hV0 |>.mono (Nat.le_refl _))
      by_cases hlt : j < nm1
      · have hlt2 : (j : Int) < (nm1 : Int) := by omega
        have hks : IntKind.i64.wrap ((j : Int) + 1) = (j : Int) + 1 := by rw [IntKind.wrap_i64]; omega
        have hjm : j < g.more.length := by have := HNM.out; omega
        obtain ⟨x, hx⟩ : ∃ x, g.more[j]? = some x := ⟨_, List.getElem?_eq_getElem hjm⟩
        have hrr2 := hrr.out
        rw [List.drop_eq_getElem_cons hjm, show g.more[j] = x from Option.some.inj ((List.getElem?_eq_getElem hjm).symm.trans hx)] at hrr2
        have hjk : j < kids.length := by
          rcases Nat.lt_or_ge j kids.length with h | h
          · exact h
          · rw [List.drop_eq_nil_iff.2 h, evA] at hrr2
            exact absurd hrr2 HRO.out
        obtain ⟨t, ht⟩ : ∃ t, kids[j]? = some t := ⟨_, List.getElem?_eq_getElem hjk⟩
        rw [List.drop_eq_getElem_cons hjk, show kids[j] = t from Option.some.inj ((List.getElem?_eq_getElem hjk).symm.trans ht), evA] at hrr2
        obtain ⟨gb, rfl, _, m0, m1⟩ := HND.out j x hx
        obtain ⟨gk, vt, rfl, _, t0, hpt⟩ := PTBs.at HKS.out ht
        rw [Nat.zero_add] at t0
        obtain ⟨tb, rfl⟩ := PT.form hpt
        have c0 := (hB0.cell (p := ⟨gb, j * 2, none⟩) (World.block_lt_of_cell? _ _ m0)).trans m0
        have c1 := (hB0.cell (p := ⟨gb, j * 2 + 1, none⟩) (World.block_lt_of_cell? _ _ m1)).trans m1
        have k4 : w0.cell? ⟨b, 4, none⟩ = some (.slice (some ⟨gk, 0, none⟩) kids.length c) := by simp [World.cell?, HBK.out]
        have k4' := (hB0.cell (p := ⟨b, 4, none⟩) (World.block_lt_of_cell? _ _ k4)).trans k4
        have t0' := (hB0.cell (p := ⟨gk, j, none⟩) (World.block_lt_of_cell? _ _ t0)).trans t0
        have hVlt := hev.out.lt
        obtain ⟨nk, hnk⟩ : ∃ nk, nk = kids.length := ⟨_, rfl⟩
        rw [← hnk] at k4'
        have hjn : (j : Int) < (nk : Int) := by omega
        have hj0 : (0 : Int) ≤ (j : Int) := by omega
        have hbA : Below wr.heap.size wr (wr.alloc (.cells #[.string (bs x.1), .int .i64 (x.2 : Int)] 78)) := (Below.refl _ _).alloc (Nat.le_refl _) _
        have s0 : (wr.alloc (.cells #[.string (bs x.1), .int .i64 (x.2 : Int)] 78)).cell? ⟨wr.heap.size, 0, none⟩ = some (.string (bs x.1)) := by go_simp
        have s1 := (hbA.cell (p := ⟨b, 4, none⟩) (World.block_lt_of_cell? _ _ k4')).trans k4'
        have s2 := (hbA.cell (p := ⟨gk, j, none⟩) (World.block_lt_of_cell? _ _ t0')).trans t0'
        have HBA := hid hbA
        have HRR := hid hrr2
        have HPT := hid hpt
        have HTT := hid (TWs.at HX.out ht)
        have hbV : b ≠ V := by have h : b < w0.heap.size := World.block_lt_of_cell? _ _ k4; omega
        have hgV : gk ≠ V := by have h : gk < w0.heap.size := World.block_lt_of_cell? _ _ t0; omega
        have HB0 := hid hB0
        have HNE := hid (And.intro hbV hgV)
        clear hrr hrr2 hx ht m0 m1 t0 k4 k4' t0' hpt hB0 hjm hjk hnk hbA hbV hgV
        go_wp2_with fail
        have HSA := hid (hso.out.below HBA.out)
        have HSC2 : Hid (ScP (wr.alloc (.cells #[.string (bs x.1), .int .i64 (x.2 : Int)] 78)) (.pointer a) sc) := (HSC.out.fr HE.out hfr.out.1).below HBA.out
        have HEA : Hid (EvAt (wr.alloc (.cells #[.string (bs x.1), .int .i64 (x.2 : Int)] 78)) V fb pg k2 fuel) := (HBA.out.block _ hev.out.lt).trans hev.out
        have HFA : Hid (Fr V w (wr.alloc (.cells #[.string (bs x.1), .int .i64 (x.2 : Int)] 78)) ∧ W.heap.size ≤ (wr.alloc (.cells #[.string (bs x.1), .int .i64 (x.2 : Int)] 78)).heap.size ∧ (wr.alloc (.cells #[.string (bs x.1), .int .i64 (x.2 : Int)] 78)).heap[G]? = W.heap[G]?) :=
          ⟨hfr.out.1.more HBA.out HE.out.lt, Nat.le_trans hfr.out.2.1 HBA.out.size, (HBA.out.block _ (by have := (Array.getElem?_eq_some_iff.1 HGW.out).1; have := hfr.out.2.1; omega)).trans hfr.out.2.2⟩
        have HBZ := hid (HB0.out.trans (HBA.out.mono HB0.out.size))
        obtain ⟨N, hN⟩ : ∃ N, N = wr.heap.size := ⟨_, rfl⟩
        have HNV : Hid (N ≠ V) := by unfold Hid; omega
        rw [← hN] at s0 ⊢
        clear hN HBA hso hev hfr HB0 c0 c1
        generalize wr.alloc (.cells #[.string (bs x.1), .int .i64 (x.2 : Int)] 78) = wA at *
        refine wp_region_held_drew (S := (fun W => W.cell? ⟨N, 0, none⟩ = some (.string (bs x.1)) ∧ W.cell? ⟨b, 4, none⟩ = some (.slice (some ⟨gk, 0, none⟩) nk c) ∧ W.cell? ⟨gk, j, none⟩ = some (.pointer (some ⟨tb, 0, none⟩)))) (by kernel_rfl) ⟨s0, s1, s2⟩ (fun hHeld => ?_)
        refine wpAnyH_takeS (i := 0) (v := .pointer ao) rfl (by kernel_rfl) (by kernel_rfl) (by kernel_rfl) (fun _ _ _ h => h) (by rfl) (fun W hC => by go_simp) hHeld ?_
        simp only [Act.put, List.setIfInBounds_toArray, List.set_cons_zero, List.set_cons_succ]
        refine wpAnyH_takeS (i := 1) (v := .pointer (some ⟨N, 0, none⟩)) rfl (by kernel_rfl) (by kernel_rfl) (by kernel_rfl) (fun _ _ _ h => h) (by rfl) (fun W hC => by go_simp) hHeld ?_
        simp only [Act.put, List.setIfInBounds_toArray, List.set_cons_zero, List.set_cons_succ]
        refine wpAnyH_takeS (i := 2) (v := .string (bs x.1)) rfl (by kernel_rfl) (by kernel_rfl) (by kernel_rfl) (fun _ _ _ h => h) (by rfl) (fun W hC => by (obtain ⟨y0, y1, y2⟩ := hC); go_simp) hHeld ?_
        simp only [Act.put, List.setIfInBounds_toArray, List.set_cons_zero, List.set_cons_succ]
        refine wpAnyH_takeS (i := 3) (v := .pointer (some ⟨V, 0, none⟩)) rfl (by kernel_rfl) (by kernel_rfl) (by kernel_rfl) (fun _ _ _ h => h) (by rfl) (fun W hC => by go_simp) hHeld ?_
        simp only [Act.put, List.setIfInBounds_toArray, List.set_cons_zero, List.set_cons_succ]
        refine wpAnyH_takeS (i := 4) (v := .pointer (some ⟨b, 0, none⟩)) rfl (by kernel_rfl) (by kernel_rfl) (by kernel_rfl) (fun _ _ _ h => h) (by rfl) (fun W hC => by go_simp) hHeld ?_
        simp only [Act.put, List.setIfInBounds_toArray, List.set_cons_zero, List.set_cons_succ]
        refine wpAnyH_takeS (i := 5) (v := .pointer (some ⟨b, 0, none⟩)) rfl (by kernel_rfl) (by kernel_rfl) (by kernel_rfl) (fun _ _ _ h => h) (by rfl) (fun W hC => by go_simp) hHeld ?_
        simp only [Act.put, List.setIfInBounds_toArray, List.set_cons_zero, List.set_cons_succ]
        refine wpAnyH_takeS (i := 6) (v := .pointer (some ⟨b, 4, none⟩)) rfl (by kernel_rfl) (by kernel_rfl) (by kernel_rfl) (fun _ _ _ h => h) (by rfl) (fun W hC => by go_simp) hHeld ?_
        simp only [Act.put, List.setIfInBounds_toArray, List.set_cons_zero, List.set_cons_succ]
        refine wpAnyH_takeS (i := 7) (v := .slice (some ⟨gk, 0, none⟩) nk c) rfl (by kernel_rfl) (by kernel_rfl) (by kernel_rfl) (fun _ _ _ h => h) (by rfl) (fun W hC => by (obtain ⟨y0, y1, y2⟩ := hC); go_simp) hHeld ?_
        simp only [Act.put, List.setIfInBounds_toArray, List.set_cons_zero, List.set_cons_succ]
        refine wpAnyH_takeS (i := 8) (v := .int .i64 (j : Int)) rfl (by kernel_rfl) (by kernel_rfl) (by kernel_rfl) (fun _ _ _ h => h) (by rfl) (fun W hC => by go_simp) hHeld ?_
        simp only [Act.put, List.setIfInBounds_toArray, List.set_cons_zero, List.set_cons_succ]
        refine wpAnyH_takeS (i := 9) (v := .pointer (some ⟨gk, j, none⟩)) rfl (by kernel_rfl) (by kernel_rfl) (by kernel_rfl) (fun _ _ _ h => h) (by rfl) (fun W hC => by go_simp) hHeld ?_
        simp only [Act.put, List.setIfInBounds_toArray, List.set_cons_zero, List.set_cons_succ]
        refine wpAnyH_takeS (i := 10) (v := .pointer (some ⟨tb, 0, none⟩)) rfl (by kernel_rfl) (by kernel_rfl) (by kernel_rfl) (fun _ _ _ h => h) (by rfl) (fun W hC => by (obtain ⟨y0, y1, y2⟩ := hC); go_simp) hHeld ?_
        simp only [Act.put, List.setIfInBounds_toArray, List.set_cons_zero, List.set_cons_succ]
        refine wpAnyH_takeS (i := 11) (v := .pointer a) rfl (by kernel_rfl) (by kernel_rfl) (by kernel_rfl) (fun _ _ _ h => h) (by rfl) (fun W hC => by go_simp) hHeld ?_
        simp only [Act.put, List.setIfInBounds_toArray, List.set_cons_zero, List.set_cons_succ]
        refine wpAnyH_ready (rs := [12]) (by kernel_rfl) (by simp) ?_
        refine AllReadyH.consS rfl (fun K hK => ?_) AllReadyH.nil
        go_simp
        have hne : evl p fs fuel R t sc k2 ≠ .out := ER.bind_ne (ER.bind_ne (by rw [← HRR.out]; exact HRO.out))
        refine (HIH.out t _ a sc k2 wA.drew (belD HBZ.out) HEA.out hkf.out (PT.mono HPT.out (Nat.le_refl _)) HTT.out (HSC2.out.fr HEA.out ⟨belD (Below.refl _ _), fun _ _ _ => rfl⟩) HSB.out hne).mono ?_
        intro e w3 he
        obtain ⟨hf3, he⟩ := he
        have hf3' : Fr V wA w3 := Fr.trans ⟨belD (Below.refl _ _), fun _ _ _ => rfl⟩ hf3
        cases hv : evl p fs fuel R t sc k2 with
        | out => exact absurd hv hne
        | stop er =>
          rw [hv] at he
          have he' : e = pncE er := he
          subst he'
          have hr1 := HRR.out
          rw [hv] at hr1
          have hr2 : r = .stop er := hr1
          subst hr2
          exact ⟨rfl, HFA.out.1.trans hf3', rfl⟩
        | val v k3 =>
          rw [hv] at he
          obtain ⟨rfl, hE3⟩ := he
          have hr1 := HRR.out
          rw [hv] at hr1
          have HR3 : Hid (r = (evA (fun t k => evl p fs fuel R t sc k) (g.more.drop (j + 1)) (kids.drop (j + 1)) ((x.1, v) :: own) k3).bind fun own k2 => evl p fs fuel R g.body own k2) := hr1
          have hbd3 := evl_bd p fs fuel h3 R t sc k2 v k3 HSB.out hkf.out hv
          have HS3 := hid (HSA.out.fr HEA.out hf3')
          have HF3 : Hid (Fr V w w3 ∧ W.heap.size ≤ w3.heap.size ∧ w3.heap[G]? = W.heap[G]?) := ⟨HFA.out.1.trans hf3', Nat.le_trans HFA.out.2.1 hf3'.size, (hf3'.2 G (by have := (Array.getElem?_eq_some_iff.1 HGW.out).1; have := HFA.out.2.1; omega) (by have := HGL.out; have := HE.out.lt; omega)).trans HFA.out.2.2⟩
          have HE3 := hid hE3
          have HBB := hid hbd3
          refine hK.out _ _ ⟨hf3'.cell HNV.out s0, hf3'.cell HNE.out.1 s1, hf3'.cell HNE.out.2 s2⟩ (fun hHeld => ?_)
          clear hK K hr1 hbd3 hf3 hE3 hv hne
          refine wpAnyH_ready (rs := [13]) (by kernel_rfl) (by simp) ?_
          refine AllReadyH.consS rfl (fun K hK => ?_) AllReadyH.nil
          go_simp
          refine (with_any (bs x.1) v ao w3).mono ?_
          rintro e w4 ⟨rfl, rfl⟩
          have hbA4 : Below w3.heap.size w3 (w3.alloc (.cells #[.string (bs x.1), .int .i64 v, .pointer ao] 208)) := (Below.refl _ _).alloc (Nat.le_refl _) _
          refine hK.out _ _ ⟨(hbA4.cell (p := ⟨N, 0, none⟩) (World.block_lt_of_cell? _ _ hHeld.1)).trans hHeld.1, (hbA4.cell (p := ⟨b, 4, none⟩) (World.block_lt_of_cell? _ _ hHeld.2.1)).trans hHeld.2.1, (hbA4.cell (p := ⟨gk, j, none⟩) (World.block_lt_of_cell? _ _ hHeld.2.2)).trans hHeld.2.2⟩ (fun hHeld2 => ?_)
          clear hK K
          have HS4 := hid (HS3.out.with x.1 v)
          have HE4 : Hid (EvAt (w3.alloc (.cells #[.string (bs x.1), .int .i64 v, .pointer ao] 208)) V fb pg k3 fuel) := (hbA4.block _ HE3.out.lt).trans HE3.out
          have HF4 : Hid (Fr V w (w3.alloc (.cells #[.string (bs x.1), .int .i64 v, .pointer ao] 208)) ∧ W.heap.size ≤ (w3.alloc (.cells #[.string (bs x.1), .int .i64 v, .pointer ao] 208)).heap.size ∧ (w3.alloc (.cells #[.string (bs x.1), .int .i64 v, .pointer ao] 208)).heap[G]? = W.heap[G]?) :=
            ⟨HF3.out.1.more hbA4 HE.out.lt, Nat.le_trans HF3.out.2.1 hbA4.size, (hbA4.block _ (by have := (Array.getElem?_eq_some_iff.1 HGW.out).1; have := HF3.out.2.1; omega)).trans HF3.out.2.2⟩
          clear hbA4 HS3 HE3 HF3 hHeld
          generalize w3.alloc (.cells #[.string (bs x.1), .int .i64 v, .pointer ao] 208) = w5 at *
          refine wpAnyH_ready (rs := [14]) (by kernel_rfl) (by simp) ?_
          refine AllReadyH.consS rfl (fun K hK => ?_) AllReadyH.nil
          go_simp
          refine hK.out _ _ hHeld2 (fun _ => ?_)
          clear hK K hHeld2 s0 s1 s2
          refine wpAnyH_done (by kernel_rfl) ?_ _
          go_wp2_with fail
          go_roundw
          case rel =>
            refine ⟨j + 1, k3, _, (x.1, v) :: own, by omega, by go_num, rfl, HS4, ?_, HE4, HBB.out.2.2, HF4, HR3⟩
            intro y hy
            rcases List.mem_cons.1 hy with rfl | hy
            · exact HBB.out.1
            · exact hbo.out y hy
          case measure => simp [intOf]; omega
      · obtain rfl : j = nm1 := by omega
        have hlt2 : ¬ (j : Int) < (j : Int) := by omega
        have hrr2 := hrr.out
        rw [HNM.out, List.drop_length, evA] at hrr2
        have hrr3 : r = evl p fs fuel R g.body own k2 := hrr2
        have hGr : wr.heap[G]? = _ := hfr.out.2.2.trans HGW.out
        have c3 : wr.cell? ⟨G, 3, none⟩ = some (.pointer (some ⟨bb, 0, none⟩)) := by simp [World.cell?, hGr]
        have HC := hid (HIH.out g.body (.pointer (some ⟨bb, 0, none⟩)) ao own k2 wr hB0 hev.out hkf.out (HPD.out.mono (Nat.zero_le _)) HFW.out.2.2.2 hso.out hbo.out (by rw [← hrr3]; exact HRO.out))
        rw [← hrr3] at HC
        have HF1 := hid hfr.out.1
        clear hrr hrr2 hrr3 hGr hso hbo hev hfr hB0 HIH HR
        go_wp2_with fail
        refine HC.out.mono ?_
        intro e w3 he
        obtain ⟨hf3, he⟩ := he
        cases r with
        | out => exact he.elim
        | stop er =>
          have he' : e = pncE er := he
          subst he'
          exact ⟨rfl, HF1.out.trans hf3, rfl⟩
        | val v k3 =>
          obtain ⟨rfl, hE3⟩ := he
          have HE3 := hid hE3
          have HF3 := hid (HF1.out.trans hf3)
          clear hE3 hf3
          go_wp2_with fail
          go_ret
          exact ⟨HF3.out, rfl, HE3.out⟩

end Go.Proofs.YtlgcmeachjjmgajGreatDoor
