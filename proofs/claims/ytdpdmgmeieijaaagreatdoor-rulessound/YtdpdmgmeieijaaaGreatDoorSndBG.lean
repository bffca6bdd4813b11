/- Package rules: the first rule that does not hold in a row. Package rules: Broken. The law RulesShows answers true: a run's table breaks no rule. The law RulesSound answers true: rows that break no rule, and whose pairs are alike, are a run. -/
import Derived.Test.YtdpdmgmeieijaaaGreatDoorSndBF
import Derived.Test.YtdpdmgmeieijaaaGreatDoorSndBB
import Derived.Test.YtdpdmgmeieijaaaGreatDoorSndAN
import Derived.Test.YtdpdmgmeieijaaaGreatDoorSndAP
import Derived.Test.YtdpdmgmeieijaaaGreatDoorSndBA
import Derived.Test.YtdpdmgmeieijaaaGreatDoorFld
namespace Go.Proofs.YtdpdmgmeieijaaaGreatDoor
open Go.RowKit Go.Maps

/-- what is known of rows -/
structure RwF (p : Nat) (L : List InsZ) (size out : Int) (rows : List (List Int)) : Prop where
  h3 : 3 ≤ p
  h4 : p ≤ 2147483647
  wd : ∀ k, k < rows.length → (rat rows k).length = 20 + L.length
  ft : ∀ k j, k < rows.length → I64 (zat (rat rows k) j)
  hI : InsB L
  hl : L.length ≤ 4398046511104
  h1 : 1 ≤ L.length
  hsz : I64 size
  hout : I64 out
theorem RwF.view {p : Nat} {L : List InsZ} {size out : Int} {rows : List (List Int)} (h : RwF p L size out rows) {i j : Nat} (hi : i < rows.length) (hj : j < rows.length) : VF p L size out (rat rows i) (rat rows j) :=
  ⟨h.h3, h.h4, h.wd i hi, h.wd j hj, fun k => h.ft i k hi, fun k => h.ft j k hj, h.hI, h.hl, h.h1, h.hsz, h.hout⟩

theorem zat_memP {l : List Int} {P : Int → Prop} (h0 : P 0) (h : ∀ x, x ∈ l → P x) (j : Nat) : P (zat l j) := by
  by_cases hj : j < l.length
  · have : zat l j = l[j] := by simp [zat, hj]
    rw [this]; exact h _ (List.getElem_mem hj)
  · have : zat l j = 0 := by simp [zat, List.getElem?_eq_none (Nat.not_lt.1 hj)]
    rw [this]; exact h0

set_option maxRecDepth 100000 in
set_option maxHeartbeats 8000000 in
theorem pbrokenIn_any (p b : Nat) (L : List InsZ) (size out : Int) (rows : List (List Int)) (aL : Option Addr) (cL : Nat) (ad : Option Addr) (c i : Nat) (w : World) (H : RwF p L size out rows) (hp : w.cell? ⟨b, 0, none⟩ = some (.int .i64 p)) (hI : LstI w.heap.size w aL cL L) (hL : LstR w.heap.size w ad c rows) (hn : rows.length ≤ 5864062014634) (hi : i < rows.length) :
    Calls Tryz.prog 17 #[.pointer (some ⟨b, 0, none⟩), .agg #[.int .i64 size, .slice aL L.length cL], .int .i64 out, .slice ad rows.length c, .int .i64 (i : Int)] w fun e w' => ∃ z, e = .returned (.int .i64 z) ∧ FstB (brkn p L size out rows i) (L.length + 26) z ∧ Below w.heap.size w w' := by
  obtain ⟨R, hR⟩ : ∃ R : Ending → World → Prop, R = fun e w' => ∃ z, e = .returned (.int .i64 z) ∧ FstB (brkn p L size out rows i) (L.length + 26) z ∧ Below w.heap.size w w' := ⟨_, rfl⟩
  rw [← hR]
  have HRR : Hid (∀ (z : Int) W, FstB (brkn p L size out rows i) (L.length + 26) z → Below w.heap.size w W → R (.returned (.int .i64 z)) W) := fun z W h1 h2 => by rw [hR]; exact ⟨z, rfl, h1, h2⟩
  obtain ⟨W0, hW0⟩ : ∃ W0, W0 = w.alloc (.cells #[.int .i64 size, .slice aL L.length cL] 24) := ⟨_, rfl⟩
  have hb0 : Below w.heap.size w W0 := by rw [hW0]; exact (Below.refl _ _).alloc (Nat.le_refl _) _
  have hs0 : W0.heap[w.heap.size]? = some (.cells #[.int .i64 size, .slice aL L.length cL] 24 (0, 0)) := by rw [hW0]; exact heap_alloc_new w _
  obtain ⟨C, hC⟩ : ∃ C, C = w.heap.size := ⟨_, rfl⟩
  rw [← hC] at hs0
  have hCl : C < W0.heap.size := (Array.getElem?_eq_some_iff.1 hs0).1
  have HB0 := hid hb0
  obtain ⟨mi, hmi⟩ : ∃ mi, mi = min (i + 1) (rows.length - 1) := ⟨_, rfl⟩
  have hmil : mi < rows.length := by omega
  obtain ⟨g, o, ak, ck, rfl, hg0, hc1, hrl1⟩ := hL.row i hi
  obtain ⟨g', o', an, cn, hgo, _, hc2, hrl2⟩ := hL.row mi hmil
  injection hgo with hgo
  injection hgo with hg' ho'
  subst hg' ho'
  have hln := H.wd i hi
  have hln2 := H.wd mi hmil
  have HSA : Hid (∀ W, Below w.heap.size w W → Calls Tryz.prog 29 #[.pointer (some ⟨b, 0, none⟩), .agg #[.int .i64 size, .slice aL L.length cL], .int .i64 out, .slice ak (rat rows i).length ck, .slice an (rat rows mi).length cn] W fun e w' => ∃ v, e = .returned v ∧ w'.ownsRow W.heap.size 3 1 v (rls p L size out (rat rows i) (rat rows mi)).length ((rls p L size out (rat rows i) (rat rows mi)).map (Value.int .i64)) ∧ Below W.heap.size W w') := fun W h =>
    psaid_any p b L size out (rat rows i) (rat rows mi) aL cL ak ck an cn W (H.view hi hmil) ((h.cell (p := ⟨b, 0, none⟩) (World.block_lt_of_cell? _ _ hp)).trans hp) ((hI.below h).mono h.size) (RowB.mono h.size (RowB.below h hrl1.row)) (RowB.mono h.size (RowB.below h hrl2.row))
  have HVL : Hid (∀ k, zat (rls p L size out (rat rows i) (rat rows mi)) k = rvl p L size out rows i k) := fun k => by rw [hmi]; rfl
  have HBD : Hid (∀ k, 0 ≤ zat (rls p L size out (rat rows i) (rat rows mi)) k ∧ zat (rls p L size out (rat rows i) (rat rows mi)) k < (p : Int)) := fun k => by
    have h3 := H.h3
    refine zat_memP (P := fun x => 0 ≤ x ∧ x < (p : Int)) (by omega) (rls_bd H.h3 L size out _ _) k
  have HLEN := hid (rls_len p L size out (rat rows i) (rat rows mi))
  obtain ⟨sd, hsd⟩ : ∃ sd, sd = rls p L size out (rat rows i) (rat rows mi) := ⟨_, rfl⟩
  rw [← hsd] at HSA HVL HBD HLEN
  have HX : Hid (∀ W, Below W0.heap.size W0 W → (W.cell? ⟨C, 0, none⟩ = some (.int .i64 size) ∧ W.cell? ⟨C, 1, none⟩ = some (.slice aL L.length cL) ∧ W.cell? ⟨g, o + i, none⟩ = some (.slice ak (rat rows i).length ck) ∧ W.cell? ⟨g, o + mi, none⟩ = some (.slice an (rat rows mi).length cn))) := fun W h => by
    have h5 := (h.block C hCl).trans hs0
    have hbw := hb0.trans (h.mono hb0.size)
    exact ⟨by simp [World.cell?, h5], by simp [World.cell?, h5], (hbw.cell (p := ⟨g, o + i, none⟩) hg0).trans hc1, (hbw.cell (p := ⟨g, o + mi, none⟩) hg0).trans hc2⟩
  have HRO := hid (fun (k : Nat) W => prowsOf_any size aL L.length cL k W H.hl)
  have hl := H.hl
  obtain ⟨nL, hnL⟩ : ∃ nL, nL = L.length := ⟨_, rfl⟩
  obtain ⟨n, hn'⟩ : ∃ n, n = rows.length := ⟨_, rfl⟩
  obtain ⟨la, hla⟩ : ∃ la, la = n - 1 := ⟨_, rfl⟩
  have HSPK : Hid (∀ k, hasB (rkd nL k) i la = spk L.length rows.length i k) := fun k => by rw [hla, hnL, hn']; exact hasB_spk _ _ _ _
  have hln3 : (rat rows i).length = 20 + nL := by rw [hnL]; exact hln
  have hln4 : (rat rows mi).length = 20 + nL := by rw [hnL]; exact hln2
  obtain ⟨rl, hrl⟩ : ∃ rl, rl = 20 + nL := ⟨_, rfl⟩
  rw [hln3, hln4, ← hrl] at HSA HX
  rw [← hnL] at HSA HX HLEN HRO HRR hl hW0 ⊢
  rw [← hn'] at hn hi hmil hmi ⊢
  have HMI : Hid (((i : Int) + 1 ≤ (la : Int) ∧ (mi : Int) = (i : Int) + 1) ∨ (¬ (i : Int) + 1 ≤ (la : Int) ∧ (mi : Int) = (la : Int))) := by unfold Hid; omega
  have e1 : (n : Int) - 1 = (la : Int) := by omega
  have w1 : IntKind.i64.wrap (la : Int) = (la : Int) := by rw [IntKind.wrap_i64]; omega
  have w2 : IntKind.i64.wrap ((i : Int) + 1) = (i : Int) + 1 := by rw [IntKind.wrap_i64]; omega
  have li : (i : Int) < (n : Int) := by omega
  have lm : (mi : Int) < (n : Int) := by omega
  have HLM : Hid (sd.length = nL + 26) := HLEN.out
  have HBR : Hid (∀ k, brkn p L size out rows i k = (decide (zat sd k ≠ 0) && spk L.length rows.length i k)) := fun k => by rw [HVL.out]; rfl
  clear hR H hp hI hL hs0 hb0 hln hln2 hln3 hln4 hrl1 hrl2 hc1 hc2 hg0 hmil hmi hi hsd hnL hn' hla hrl HVL HLEN
  go_enter Tryz.func17, Tryz.ntmps17
  go_wp2_with fail
  rw [← hW0, ← hC]
  clear hW0 hC
  obtain ⟨x0, x1, x2, x3⟩ := HX.out W0 (Below.refl _ _)
  refine wp_region_held_drew (S := (fun W => W.cell? ⟨C, 0, none⟩ = some (.int .i64 size) ∧ W.cell? ⟨C, 1, none⟩ = some (.slice aL nL cL) ∧ W.cell? ⟨g, o + i, none⟩ = some (.slice ak rl ck) ∧ W.cell? ⟨g, o + mi, none⟩ = some (.slice an rl cn))) (by kernel_rfl) ⟨x0, x1, x2, x3⟩ (fun hHeld => ?_)
  refine wpAnyH_takeU (i := 0) (v := .pointer (some ⟨b, 0, none⟩)) rfl (by kernel_rfl) (by kernel_rfl) (by kernel_rfl) (fun _ _ _ h => h) (by rfl) (fun W hC => by go_simp) hHeld ?_
  simp only [Act.put, List.setIfInBounds_toArray, List.set_cons_zero, List.set_cons_succ]
  refine wpAnyH_takeU (i := 1) (v := .agg #[.int .i64 size, .slice aL nL cL]) rfl (by kernel_rfl) (by kernel_rfl) (by kernel_rfl) (fun _ _ _ h => h) (by rfl) (fun W hC => by (obtain ⟨g0, g1, g2, g3⟩ := hC); go_simp) hHeld ?_
  simp only [Act.put, List.setIfInBounds_toArray, List.set_cons_zero, List.set_cons_succ]
  refine wpAnyH_takeU (i := 2) (v := .int .i64 out) rfl (by kernel_rfl) (by kernel_rfl) (by kernel_rfl) (fun _ _ _ h => h) (by rfl) (fun W hC => by go_simp) hHeld ?_
  simp only [Act.put, List.setIfInBounds_toArray, List.set_cons_zero, List.set_cons_succ]
  refine wpAnyH_takeU (i := 3) (v := .slice (some ⟨g, o, none⟩) n c) rfl (by kernel_rfl) (by kernel_rfl) (by kernel_rfl) (fun _ _ _ h => h) (by rfl) (fun W hC => by go_simp) hHeld ?_
  simp only [Act.put, List.setIfInBounds_toArray, List.set_cons_zero, List.set_cons_succ]
  refine wpAnyH_takeU (i := 4) (v := .int .i64 (i : Int)) rfl (by kernel_rfl) (by kernel_rfl) (by kernel_rfl) (fun _ _ _ h => h) (by rfl) (fun W hC => by go_simp) hHeld ?_
  simp only [Act.put, List.setIfInBounds_toArray, List.set_cons_zero, List.set_cons_succ]
  refine wpAnyH_takeU (i := 5) (v := .pointer (some ⟨g, o + i, none⟩)) rfl (by kernel_rfl) (by kernel_rfl) (by kernel_rfl) (fun _ _ _ h => h) (by rfl) (fun W hC => by go_simp) hHeld ?_
  simp only [Act.put, List.setIfInBounds_toArray, List.set_cons_zero, List.set_cons_succ]
  refine wpAnyH_takeU (i := 6) (v := .slice ak rl ck) rfl (by kernel_rfl) (by kernel_rfl) (by kernel_rfl) (fun _ _ _ h => h) (by rfl) (fun W hC => by (obtain ⟨g0, g1, g2, g3⟩ := hC); go_simp) hHeld ?_
  simp only [Act.put, List.setIfInBounds_toArray, List.set_cons_zero, List.set_cons_succ]
  refine wpAnyH_takeU (i := 7) (v := .slice (some ⟨g, o, none⟩) n c) rfl (by kernel_rfl) (by kernel_rfl) (by kernel_rfl) (fun _ _ _ h => h) (by rfl) (fun W hC => by go_simp) hHeld ?_
  simp only [Act.put, List.setIfInBounds_toArray, List.set_cons_zero, List.set_cons_succ]
  refine wpAnyH_takeU (i := 8) (v := .int .i64 (i : Int)) rfl (by kernel_rfl) (by kernel_rfl) (by kernel_rfl) (fun _ _ _ h => h) (by rfl) (fun W hC => by go_simp) hHeld ?_
  simp only [Act.put, List.setIfInBounds_toArray, List.set_cons_zero, List.set_cons_succ]
  refine wpAnyH_takeU (i := 9) (v := .int .i64 ((i : Int) + 1)) rfl (by kernel_rfl) (by kernel_rfl) (by kernel_rfl) (fun _ _ _ h => h) (by rfl) (fun W hC => by go_simp) hHeld ?_
  simp only [Act.put, List.setIfInBounds_toArray, List.set_cons_zero, List.set_cons_succ]
  refine wpAnyH_takeU (i := 10) (v := .int .i64 (la : Int)) rfl (by kernel_rfl) (by kernel_rfl) (by kernel_rfl) (fun _ _ _ h => h) (by rfl) (fun W hC => by go_simp) hHeld ?_
  simp only [Act.put, List.setIfInBounds_toArray, List.set_cons_zero, List.set_cons_succ]
  refine wpAnyH_takeU (i := 11) (v := .int .i64 (mi : Int)) rfl (by kernel_rfl) (by kernel_rfl) (by kernel_rfl) (fun _ _ _ h => h) (by rfl) (fun W hC => by rcases HMI.out with ⟨k1, k2⟩ | ⟨k1, k2⟩ <;> (go_simp; omega)) hHeld ?_
  simp only [Act.put, List.setIfInBounds_toArray, List.set_cons_zero, List.set_cons_succ]
  refine wpAnyH_takeU (i := 12) (v := .pointer (some ⟨g, o + mi, none⟩)) rfl (by kernel_rfl) (by kernel_rfl) (by kernel_rfl) (fun _ _ _ h => h) (by rfl) (fun W hC => by go_simp) hHeld ?_
  simp only [Act.put, List.setIfInBounds_toArray, List.set_cons_zero, List.set_cons_succ]
  refine wpAnyH_takeU (i := 13) (v := .slice an rl cn) rfl (by kernel_rfl) (by kernel_rfl) (by kernel_rfl) (fun _ _ _ h => h) (by rfl) (fun W hC => by (obtain ⟨g0, g1, g2, g3⟩ := hC); go_simp) hHeld ?_
  simp only [Act.put, List.setIfInBounds_toArray, List.set_cons_zero, List.set_cons_succ]
  refine wpAnyH_takeU (i := 16) (v := .int .i64 0) rfl (by kernel_rfl) (by kernel_rfl) (by kernel_rfl) (fun _ _ _ h => h) (by rfl) (fun W hC => by go_simp) hHeld ?_
  simp only [Act.put, List.setIfInBounds_toArray, List.set_cons_zero, List.set_cons_succ]
  refine wpAnyH_ready (rs := [14]) (by kernel_rfl) (by simp) ?_
  refine AllReadyH.consU rfl (fun K' hK' => ?_) AllReadyH.nil
  go_simp
  refine (HSA.out _ HB0.out.drew).mono ?_
  rintro e w1 ⟨v, rfl, hown, hb1⟩
  have hb01 : Below W0.heap.size W0 w1 := ⟨hb1.os, hb1.tape, hb1.output, hb1.size, hb1.block⟩
  obtain ⟨a1, c1, rfl, hl1⟩ := lst_of_owns hown
  have HB1 := hid hb01
  have HL1 := hid hl1
  refine hK'.out _ _ (HX.out _ hb01) (fun hHeld => ?_)
  clear hK' K' hown hl1 hb1 hb01
  (try simp only [Act.put, List.setIfInBounds_toArray, List.set_cons_zero, List.set_cons_succ])
  rw [HLM.out]
  obtain ⟨m, hm⟩ : ∃ m, m = nL + 26 := ⟨_, rfl⟩
  rw [← hm]
  have HM := hid hm
  clear hm
  refine wpAnyH_takeU (i := 15) (v := .int .i64 (m : Int)) rfl (by kernel_rfl) (by kernel_rfl) (by kernel_rfl) (fun _ _ _ h => h) (by rfl) (fun W hC => by go_simp) hHeld ?_
  simp only [Act.put, List.setIfInBounds_toArray, List.set_cons_zero, List.set_cons_succ]
  clear hHeld x0 x1 x2 x3
  refine wpAnyH_done (by kernel_rfl) ?_ _
  go_wp2_with fail
  go_loopw [12, 13, 33] (fun _ _ iv wr => ∃ k : Nat, k ≤ m ∧ iv = .int .i64 k ∧ Hid (∀ j, j < k → brkn p L size out rows i j = false) ∧ Hid (Below w1.heap.size w1 wr)) (fun _ _ iv _ => m - (intOf iv).toNat)
  case atStart => exact ⟨0, Nat.zero_le _, rfl, fun j hj => by omega, Below.refl _ _⟩
  case round =>
    obtain ⟨k, hk, rfl, HZ, HBw⟩ := hrel
    have hmm := HM.out
    by_cases hlt : k < m
    · have hlt2 : (k : Int) < (m : Int) := by omega
      have hks : IntKind.i64.wrap ((k : Int) + 1) = (k : Int) + 1 := by rw [IntKind.wrap_i64]; omega
      obtain ⟨g1, o1, rfl, hg1, hc1⟩ := HL1.out.row k (by have := HLM.out; omega)
      have hcw := (HBw.out.cell (p := ⟨g1, o1 + k, none⟩) hg1).trans hc1
      have HB01 := hid (HB1.out.trans (HBw.out.mono HB1.out.size))
      obtain ⟨x0, x1, _, _⟩ := HX.out wr HB01.out
      have hbk := HBR.out k
      have HBT := hid (HB0.out.trans (HB01.out.mono HB0.out.size))
      by_cases h0 : zat sd k = 0
      · have q0 : (zat sd k == 0) = true := by simp [h0]
        have q0' : (zat sd k != 0) = false := by simp [h0]
        have HZ2 : Hid (∀ j, j < k + 1 → brkn p L size out rows i j = false) := fun j hj => by
          by_cases e : j = k
          · subst e; rw [hbk, h0]; rfl
          · exact HZ.out j (by omega)
        clear h0 hbk hc1 hg1 hmm
        generalize zat sd k = zk at *
        go_wp2_with fail
        go_roundw
        case rel => exact ⟨k + 1, by omega, by go_num, HZ2, HBw⟩
        case measure => simp [intOf]; omega
      · have q0 : (zat sd k == 0) = false := by simp [h0]
        have q0' : (zat sd k != 0) = true := by simp [h0]
        have HRK := hid (HRO.out k wr)
        have HHS := hid (fun W => phas_any (rkd nL k) i la W (rkd_cases _ _))
        have HBK : Hid (brkn p L size out rows i k = hasB (rkd nL k) i la) := by unfold Hid; rw [hbk, HSPK.out]; simp [h0]
        clear h0 hbk hc1 hg1 hmm
        generalize zat sd k = zk at *
        generalize rkd nL k = kd at *
        generalize hasB kd i la = hb at *
        go_wp2_with fail
        refine HRK.out.mono ?_
        rintro e w2 ⟨rfl, hb2⟩
        have HB2 := hid (HBw.out.trans (hb2.mono HBw.out.size))
        have HBT2 := hid (HBT.out.trans (hb2.mono HBT.out.size))
        clear hb2 HRK
        go_wp2_with fail
        refine (HHS.out _).mono ?_
        rintro e w3 ⟨rfl, hw3⟩
        have hw3' := hw3.symm
        subst hw3'
        clear hw3
        cases hb with
        | true =>
          have HE := hid (HRR.out (k : Int) w2 (.inr ⟨k, by have := HM.out; omega, rfl, HBK.out, HZ.out⟩) HBT2.out)
          go_wp2_with fail
          exact HE.out
        | false =>
          have HZ2 : Hid (∀ j, j < k + 1 → brkn p L size out rows i j = false) := fun j hj => by
            by_cases e : j = k
            · subst e; exact HBK.out
            · exact HZ.out j (by omega)
          go_wp2_with fail
          go_roundw
          case rel => exact ⟨k + 1, by omega, by go_num, HZ2, HB2⟩
          case measure => simp [intOf]; omega
    · obtain rfl : k = m := by omega
      have hlt2 : ¬ (k : Int) < (k : Int) := by omega
      have HE := hid (HRR.out (-1) wr (.inl ⟨rfl, fun j hj => HZ.out j (by have := HM.out; omega)⟩) (HB0.out.trans ((HB1.out.trans (HBw.out.mono HB1.out.size)).mono HB0.out.size)))
      go_wp2_with fail
      exact HE.out

end Go.Proofs.YtdpdmgmeieijaaaGreatDoor

namespace Go.Proofs.YtdpdmgmeieijaaaGreatDoor
open Go.RowKit Go.Maps

theorem row2_arr {W : World} {g : Nat} {t : TypeId} {f : Nat → Value} (h : W.rowIs g t 2 f) : W.heap[g]? = some (.cells #[f 0, f 1] t (0, 0)) := by
  obtain ⟨c, hb, hs, hc⟩ := h
  rw [hb]
  congr 2
  apply Array.ext
  · simpa using hs
  · intro i h1 h2
    have h4 : i < 2 := by simpa using h2
    have := hc i h4
    rw [Array.getElem?_eq_getElem h1] at this
    injection this with this
    rw [this]
    have : i = 0 ∨ i = 1 := by omega
    rcases this with rfl | rfl <;> rfl
theorem row2_of {W : World} {g : Nat} {t : TypeId} {a b : Value} (h : W.heap[g]? = some (.cells #[a, b] t (0, 0))) : W.rowIs g t 2 (fun i => #[a, b].getD i .nilFunc) :=
  ⟨_, h, rfl, fun i hi => by
    have : i = 0 ∨ i = 1 := by omega
    rcases this with rfl | rfl <;> rfl⟩
theorem put2_heap {W : World} {g : Nat} {t : TypeId} {z0 z1 : Value} (h : W.heap[g]? = some (.cells #[z0, z1] t (0, 0))) (a b : Value) : ((W.setCell ⟨g, 0, none⟩ a).setCell ⟨g, 1, none⟩ b).heap[g]? = some (.cells #[a, b] t (0, 0)) := by
  have := row2_arr (((row2_of h).set 0 a).set 1 b)
  simpa using this
theorem put2_other {W : World} {g k : Nat} (h : k ≠ g) (a b : Value) : ((W.setCell ⟨g, 0, none⟩ a).setCell ⟨g, 1, none⟩ b).heap[k]? = W.heap[k]? := by
  rw [Below.heap_setCell _ _ _ _ h, Below.heap_setCell _ _ _ _ h]
theorem put2_below {N : Nat} {w W : World} {g : Nat} (e : Below N w W) (hg : N ≤ g) (a b : Value) : Below N w ((W.setCell ⟨g, 0, none⟩ a).setCell ⟨g, 1, none⟩ b) :=
  ⟨e.os, e.tape, e.output, by simpa [World.setCell] using e.size, fun k hk => by rw [put2_other (show k ≠ g by omega)]; exact e.block k hk⟩
/-- what Broken tells -/
def BrkA (p : Nat) (L : List InsZ) (size out : Int) (rows : List (List Int)) (z x : Int) : Prop :=
  if rows.length = 0 ∨ L.length = 0 ∨ wdB (20 + L.length) rows = false then z = -2 ∧ x = 0 else MinB (brkn p L size out rows) (L.length + 26) rows.length z x
theorem BrkA.one {p : Nat} {L : List InsZ} {size out : Int} {rows : List (List Int)} {z x z' x' : Int} (h : BrkA p L size out rows z x) (h' : BrkA p L size out rows z' x') : z = z' ∧ x = x' := by
  unfold BrkA at h h'
  split at h
  · rename_i hc
    rw [if_pos hc] at h'
    exact ⟨h.1.trans h'.1.symm, h.2.trans h'.2.symm⟩
  · rename_i hc
    rw [if_neg hc] at h'
    exact h.one h'
/-- the memory of Broken -/
structure BkM (C B G : Nat) (size : Int) (aL : Option Addr) (nL cL : Nat) (z x : Int) (w W : World) : Prop where
  c : W.heap[C]? = some (.cells #[.int .i64 size, .slice aL nL cL] 24 (0, 0))
  b : W.heap[B]? = some (.cells #[.int .i64 z, .int .i64 x] 31 (0, 0))
  g : W.heap[G]? = some (.cells #[.int .i64 0, .int .i64 0] 31 (0, 0))
  bel : Below w.heap.size w W
theorem BkM.step {C B G : Nat} {size : Int} {aL : Option Addr} {nL cL : Nat} {z x : Int} {w W W' : World} (h : BkM C B G size aL nL cL z x w W) (e : Below W.heap.size W W') : BkM C B G size aL nL cL z x w W' :=
  ⟨(e.block C (Array.getElem?_eq_some_iff.1 h.c).1).trans h.c, (e.block B (Array.getElem?_eq_some_iff.1 h.b).1).trans h.b, (e.block G (Array.getElem?_eq_some_iff.1 h.g).1).trans h.g, h.bel.trans (e.mono h.bel.size)⟩

set_option maxRecDepth 100000 in
set_option maxHeartbeats 4000000 in
theorem pbroken_any (p b : Nat) (L : List InsZ) (size out : Int) (rows : List (List Int)) (aL : Option Addr) (cL : Nat) (ad : Option Addr) (c : Nat) (w : World) (h3 : 3 ≤ p) (h4 : p ≤ 2147483647) (hIB : InsB L) (hl : L.length ≤ 4398046511104) (hsz : I64 size) (hout : I64 out) (hF : FitsR rows) (hp : w.cell? ⟨b, 0, none⟩ = some (.int .i64 p)) (hI : LstI w.heap.size w aL cL L) (hL : LstR w.heap.size w ad c rows) (hn : rows.length ≤ 5864062014634) :
    Calls Tryz.prog 7 #[.pointer (some ⟨b, 0, none⟩), .agg #[.int .i64 size, .slice aL L.length cL], .int .i64 out, .slice ad rows.length c] w fun e w' => ∃ z x, e = .returned (.agg #[.int .i64 z, .int .i64 x]) ∧ BrkA p L size out rows z x ∧ Below w.heap.size w w' := by
  obtain ⟨R, hR⟩ : ∃ R : Ending → World → Prop, R = fun e w' => ∃ z x, e = .returned (.agg #[.int .i64 z, .int .i64 x]) ∧ BrkA p L size out rows z x ∧ Below w.heap.size w w' := ⟨_, rfl⟩
  rw [← hR]
  have HRR : Hid (∀ (z x : Int) W, BrkA p L size out rows z x → Below w.heap.size w W → R (.returned (.agg #[.int .i64 z, .int .i64 x])) W) := fun z x W h1 h2 => by rw [hR]; exact ⟨z, x, rfl, h1, h2⟩
  obtain ⟨V1, hV1⟩ : ∃ V1, V1 = w.alloc (.cells #[.int .i64 size, .slice aL L.length cL] 24) := ⟨_, rfl⟩
  obtain ⟨W0, hW0⟩ : ∃ W0, W0 = V1.alloc (.cells #[.int .i64 0, .int .i64 0] 31) := ⟨_, rfl⟩
  have b1 : Below w.heap.size w V1 := by rw [hV1]; exact (Below.refl _ _).alloc (Nat.le_refl _) _
  have hz1 : V1.heap.size = w.heap.size + 1 := by rw [hV1]; simp
  have b2 : Below V1.heap.size V1 W0 := by rw [hW0]; exact (Below.refl _ _).alloc (Nat.le_refl _) _
  have hb0 := b1.trans (b2.mono b1.size)
  have hs0 : W0.heap[w.heap.size]? = some (.cells #[.int .i64 size, .slice aL L.length cL] 24 (0, 0)) := (b2.block _ (by omega)).trans (by rw [hV1]; exact heap_alloc_new w _)
  have hg0 : W0.heap[w.heap.size + 1]? = some (.cells #[.int .i64 0, .int .i64 0] 31 (0, 0)) := by rw [hW0, ← hz1]; exact heap_alloc_new V1 _
  obtain ⟨C, hC⟩ : ∃ C, C = w.heap.size := ⟨_, rfl⟩
  obtain ⟨G, hG⟩ : ∃ G, G = w.heap.size + 1 := ⟨_, rfl⟩
  rw [← hC] at hs0
  rw [← hG] at hg0
  have HGW : Hid (w.heap.size ≤ G) := by unfold Hid; omega
  have HB0 := hid hb0
  have HCO : Hid (∀ W, Below W0.heap.size W0 W → W.cell? ⟨C, 0, none⟩ = some (.int .i64 size) ∧ W.cell? ⟨C, 1, none⟩ = some (.slice aL L.length cL) ∧ W.heap[C]? = some (.cells #[.int .i64 size, .slice aL L.length cL] 24 (0, 0)) ∧ W.heap[G]? = some (.cells #[.int .i64 0, .int .i64 0] 31 (0, 0))) := fun W h => by
    have h5 := (h.block C (Array.getElem?_eq_some_iff.1 hs0).1).trans hs0
    have h6 := (h.block G (Array.getElem?_eq_some_iff.1 hg0).1).trans hg0
    exact ⟨by simp [World.cell?, h5], by simp [World.cell?, h5], h5, h6⟩
  have HWD := hid (fun W => pwidth_any size aL L.length cL W (by omega))
  have HIW := hid (fun W (h : Below w.heap.size w W) => pisWide_any c (20 + L.length) ad rows W ((hL.below h).mono h.size) (by omega))
  have HBI : Hid (wdB (20 + L.length) rows = true → 1 ≤ L.length → ∀ W (i : Nat), Below w.heap.size w W → i < rows.length → Calls Tryz.prog 17 #[.pointer (some ⟨b, 0, none⟩), .agg #[.int .i64 size, .slice aL L.length cL], .int .i64 out, .slice ad rows.length c, .int .i64 (i : Int)] W fun e w' => ∃ z, e = .returned (.int .i64 z) ∧ FstB (brkn p L size out rows i) (L.length + 26) z ∧ Below W.heap.size W w') := fun hw h1 W i h hi =>
    pbrokenIn_any p b L size out rows aL cL ad c i W ⟨h3, h4, fun k hk => wdB_at hw hk, fun k j hk => Fits.all (hF k hk).1 j, hIB, hl, h1, hsz, hout⟩ ((h.cell (p := ⟨b, 0, none⟩) (World.block_lt_of_cell? _ _ hp)).trans hp) ((hI.below h).mono h.size) ((hL.below h).mono h.size) hn hi
  obtain ⟨nL, hnL⟩ : ∃ nL, nL = L.length := ⟨_, rfl⟩
  obtain ⟨n, hn'⟩ : ∃ n, n = rows.length := ⟨_, rfl⟩
  have HNL := hid hnL
  have HN := hid hn'
  rw [← hnL] at hl hV1 HCO HWD HIW HBI ⊢
  rw [← hn'] at hn HIW HBI ⊢
  have HBAD : Hid (n = 0 ∨ nL = 0 ∨ wdB (20 + nL) rows = false → BrkA p L size out rows (-2) 0) := fun h => by
    unfold BrkA
    rw [← HN.out, ← HNL.out, if_pos h]
    exact ⟨rfl, rfl⟩
  have HOK : Hid (n ≠ 0 → nL ≠ 0 → wdB (20 + nL) rows = true → ∀ z x, MinB (brkn p L size out rows) (nL + 26) n z x → BrkA p L size out rows z x) := fun g1 g2 g4 z x hm => by
    unfold BrkA
    rw [← HN.out, ← HNL.out, if_neg (by rw [g4]; simp; omega)]
    exact hm
  clear hR b1 b2 hb0 hs0 hg0 hnL hn' hIB hsz hout hF hp hI hL
  by_cases hz : nL = 0
  · have HE := hid (HBAD.out (.inr (.inl hz)))
    clear HBAD HOK HBI HIW HWD HNL
    subst hz
    subst hV1 hW0
    obtain ⟨x0, x1, x2, x3⟩ := HCO.out _ (Below.refl _ _)
    rw [hG] at x3
    go_enter Tryz.func7, Tryz.ntmps7
    go_wp2_with fail
    (try simp only [Exit.inBlock, Exit.then])
    refine bodyPost_ret (results_cell_row rfl _ _ (w.heap.size + 1) 31 #[.int .i64 (-2), .int .i64 0] (0, 0) _ rfl (by have := heap_alloc_new (w.alloc (.cells #[.int .i64 size, .slice aL 0 cL] 24)) (.cells #[.int .i64 (-2), .int .i64 0] 31); simpa using this) Tryz.underlying31 rfl (by kernel_rfl)) rfl ?_
    exact HRR.out _ _ _ HE.out (((Below.refl _ _).alloc (Nat.le_refl _) _).alloc (by simp) _)
  by_cases hz2 : n = 0
  · have HE := hid (HBAD.out (.inl hz2))
    have q0 : ((nL : Int) == 0) = false := by rw [beq_eq_false_iff_ne]; omega
    clear HBAD HOK HBI HIW HWD HN
    subst hz2
    subst hV1 hW0
    obtain ⟨x0, x1, x2, x3⟩ := HCO.out _ (Below.refl _ _)
    rw [hG] at x3
    go_enter Tryz.func7, Tryz.ntmps7
    go_wp2_with fail
    (try simp only [Exit.inBlock, Exit.then])
    refine bodyPost_ret (results_cell_row rfl _ _ (w.heap.size + 1) 31 #[.int .i64 (-2), .int .i64 0] (0, 0) _ rfl (by have := heap_alloc_new (w.alloc (.cells #[.int .i64 size, .slice aL nL cL] 24)) (.cells #[.int .i64 (-2), .int .i64 0] 31); simpa using this) Tryz.underlying31 rfl (by kernel_rfl)) rfl ?_
    exact HRR.out _ _ _ HE.out (((Below.refl _ _).alloc (Nat.le_refl _) _).alloc (by simp) _)
  have q0 : ((nL : Int) == 0) = false := by rw [beq_eq_false_iff_ne]; omega
  have q1 : ((n : Int) == 0) = false := by rw [beq_eq_false_iff_ne]; omega
  obtain ⟨wb, hwb⟩ : ∃ wb, wb = wdB (20 + nL) rows := ⟨_, rfl⟩
  rw [← hwb] at HIW HBI HBAD HOK
  obtain ⟨m, hm⟩ : ∃ m, m = 20 + nL := ⟨_, rfl⟩
  rw [← hm] at HWD HIW
  clear hm hwb
  go_enter Tryz.func7, Tryz.ntmps7
  obtain ⟨x0, x1, x2, x3⟩ := HCO.out W0 (Below.refl _ _)
  have hE0 : (w.alloc (.cells #[.int .i64 size, .slice aL nL cL] 24)).alloc (.cells #[.int .i64 0, .int .i64 0] 31) = W0 := by rw [hW0, hV1]
  have HZ := hid (And.intro hz hz2)
  clear hV1 hW0 hz hz2
  subst hE0
  go_wp2_with fail
  rw [← hG, ← hC]
  clear hC hG x0 x1
  generalize (w.alloc (.cells #[.int .i64 size, .slice aL nL cL] 24)).alloc (.cells #[.int .i64 0, .int .i64 0] 31) = W0 at *
  refine (HWD.out _).mono ?_
  rintro e w1 ⟨rfl, hb1⟩
  have HB1 := hid hb1
  have hbw1 := HB0.out.trans (hb1.mono HB0.out.size)
  have HIW1 := hid (HIW.out w1 hbw1)
  obtain ⟨_, _, y2, y3⟩ := HCO.out w1 hb1
  have HY := hid (And.intro y2 y3)
  have HBW := hid hbw1
  have z0 : w1.cell? ⟨G, 0, none⟩ = some (.int .i64 0) := by simp [World.cell?, y3]
  have z1 : w1.cell? ⟨G, 1, none⟩ = some (.int .i64 0) := by simp [World.cell?, y3]
  have yf : ∀ i, w1.frozen? ⟨G, i, none⟩ = false := (row2_of y3).frozen
  clear hb1 hbw1 x2 x3 y2 y3 HWD HIW
  go_wp2_with fail
  refine HIW1.out.mono ?_
  rintro e w2 ⟨rfl, hw2⟩
  have hw2' := hw2.symm
  subst hw2'
  clear hw2
  cases wb with
  | false =>
    have HE := hid (HBAD.out (.inr (.inr rfl)))
    clear HBAD HOK HBI
    go_wp2_with fail
    (try simp only [Exit.inBlock, Exit.then])
    refine bodyPost_ret (results_cell_row rfl _ _ G 31 #[.int .i64 (-2), .int .i64 0] (0, 0) _ rfl (put2_heap HY.out.2 (.int .i64 (-2)) (.int .i64 0)) Tryz.underlying31 rfl (by kernel_rfl)) rfl ?_
    exact HRR.out _ _ _ HE.out (put2_below HBW.out HGW.out _ _)
  | true =>
    have HBI2 := hid (HBI.out rfl (by have := HZ.out.1; omega))
    have HOK2 := hid (HOK.out HZ.out.2 HZ.out.1 rfl)
    clear HBAD HOK HBI z0 z1 yf
    obtain ⟨B, hB⟩ : ∃ B, B = w1.heap.size := ⟨_, rfl⟩
    obtain ⟨W2, hW2⟩ : ∃ W2, W2 = w1.alloc (.cells #[.int .i64 (-1), .int .i64 0] 31) := ⟨_, rfl⟩
    have hb2 : Below w1.heap.size w1 W2 := by rw [hW2]; exact (Below.refl _ _).alloc (Nat.le_refl _) _
    have HBM : Hid (BkM C B G size aL nL cL (-1) 0 w W2) :=
      ⟨(hb2.block C (Array.getElem?_eq_some_iff.1 HY.out.1).1).trans HY.out.1, by rw [hW2, hB]; exact heap_alloc_new w1 _, (hb2.block G (Array.getElem?_eq_some_iff.1 HY.out.2).1).trans HY.out.2, HBW.out.trans (hb2.mono HBW.out.size)⟩
    have HNE : Hid (B ≠ C ∧ B ≠ G ∧ w.heap.size ≤ B) := by
      have h1 := (Array.getElem?_eq_some_iff.1 HY.out.1).1
      have h2 := (Array.getElem?_eq_some_iff.1 HY.out.2).1
      have h5 := HBW.out.size
      unfold Hid
      omega
    clear hb2 HY HBW HB1 HB0 HCO
    go_wp2_with fail
    rw [← hW2, ← hB]
    clear hW2 hB
    go_wp2_with fail
    go_loopw [10, 11, 32] (fun _ _ iv wr => ∃ (i : Nat) (z x : Int), i ≤ n ∧ iv = .int .i64 i ∧ Hid (MinB (brkn p L size out rows) (nL + 26) i z x) ∧ Hid (BkM C B G size aL nL cL z x w wr)) (fun _ _ iv _ => n - (intOf iv).toNat)
    case atStart => exact ⟨0, -1, 0, Nat.zero_le _, rfl, MinB.start _ _, HBM⟩
    case round =>
      obtain ⟨i, z, x, hi, rfl, HMB, HBK⟩ := hrel
      by_cases hlt : i < n
      · have hlt2 : (i : Int) < (n : Int) := by omega
        have his : IntKind.i64.wrap ((i : Int) + 1) = (i : Int) + 1 := by rw [IntKind.wrap_i64]; omega
        have k0 : wr.cell? ⟨C, 0, none⟩ = some (.int .i64 size) := by simp [World.cell?, HBK.out.c]
        have k1 : wr.cell? ⟨C, 1, none⟩ = some (.slice aL nL cL) := by simp [World.cell?, HBK.out.c]
        have HCI := hid (HBI2.out wr i HBK.out.bel hlt)
        go_wp2_with fail
        refine HCI.out.mono ?_
        rintro e w3 ⟨f, rfl, hf, hb3⟩
        have hBK3 := HBK.out.step hb3
        have HF := hid hf
        have HBK3 := hid hBK3
        have b0 : w3.cell? ⟨B, 0, none⟩ = some (.int .i64 z) := by simp [World.cell?, hBK3.b]
        have b1 : w3.cell? ⟨B, 1, none⟩ = some (.int .i64 x) := by simp [World.cell?, hBK3.b]
        have bf : ∀ i, w3.frozen? ⟨B, i, none⟩ = false := (row2_of hBK3.b).frozen
        clear hf hb3 hBK3 k0 k1 HCI HBK
        by_cases hyes : 0 ≤ f ∧ (z < 0 ∨ f < z)
        · have HMB2 := hid (HMB.out.take HF.out hyes)
          have HBK4 : Hid (BkM C B G size aL nL cL f (i : Int) w ((w3.setCell ⟨B, 0, none⟩ (.int .i64 f)).setCell ⟨B, 1, none⟩ (.int .i64 (i : Int)))) :=
            ⟨(put2_other HNE.out.1.symm _ _).trans HBK3.out.c, put2_heap HBK3.out.b _ _, (put2_other HNE.out.2.1.symm _ _).trans HBK3.out.g, put2_below HBK3.out.bel HNE.out.2.2 _ _⟩
          have q2 : (0 : Int) ≤ f := hyes.1
          by_cases hz0 : z < 0
          · clear hyes
            go_wp2_with fail
            go_roundw
            case rel => exact ⟨i + 1, f, (i : Int), by omega, by go_num, HMB2, HBK4⟩
            case measure => simp [intOf]; omega
          · have q3 : f < z := by omega
            clear hyes
            go_wp2_with fail
            go_roundw
            case rel => exact ⟨i + 1, f, (i : Int), by omega, by go_num, HMB2, HBK4⟩
            case measure => simp [intOf]; omega
        · have HMB2 := hid (HMB.out.keep HF.out hyes)
          by_cases q2 : 0 ≤ f
          · have hz0 : ¬ z < 0 := by omega
            have q3 : ¬ f < z := by omega
            clear hyes
            go_wp2_with fail
            go_roundw
            case rel => exact ⟨i + 1, z, x, by omega, by go_num, HMB2, HBK3⟩
            case measure => simp [intOf]; omega
          · clear hyes
            go_wp2_with fail
            go_roundw
            case rel => exact ⟨i + 1, z, x, by omega, by go_num, HMB2, HBK3⟩
            case measure => simp [intOf]; omega
      · obtain rfl : i = n := by omega
        have hlt2 : ¬ (i : Int) < (i : Int) := by omega
        have b0 : wr.cell? ⟨B, 0, none⟩ = some (.int .i64 z) := by simp [World.cell?, HBK.out.b]
        have b1 : wr.cell? ⟨B, 1, none⟩ = some (.int .i64 x) := by simp [World.cell?, HBK.out.b]
        have z0 : wr.cell? ⟨G, 0, none⟩ = some (.int .i64 0) := by simp [World.cell?, HBK.out.g]
        have z1 : wr.cell? ⟨G, 1, none⟩ = some (.int .i64 0) := by simp [World.cell?, HBK.out.g]
        have yf : ∀ i, wr.frozen? ⟨G, i, none⟩ = false := (row2_of HBK.out.g).frozen
        have HE := hid (HOK2.out z x HMB.out)
        go_wp2_with fail
        (try simp only [Exit.inBlock, Exit.then])
        refine bodyPost_ret (results_cell_row rfl _ _ G 31 #[.int .i64 z, .int .i64 x] (0, 0) _ rfl (put2_heap HBK.out.g (.int .i64 z) (.int .i64 x)) Tryz.underlying31 rfl (by kernel_rfl)) rfl ?_
        exact HRR.out _ _ _ HE.out (put2_below HBK.out.bel HGW.out _ _)

end Go.Proofs.YtdpdmgmeieijaaaGreatDoor

namespace Go.Proofs.YtdpdmgmeieijaaaGreatDoor
open Go.RowKit Go.Maps

/-- what Table gives, in two -/
theorem PtR.cases {p : Nat} {size n : Int} {L : List InsZ} {w w' : World} {e : Ending} (h : PtR p size L n w e w') :
    (∃ z, e = .returned (.tuple #[.slice none 0 0, .int .i64 0, .iface 68 (.int .i64 z)])) ∨
    (1 ≤ n ∧ n ≤ 512 ∧ L.length ≤ 64 ∧ fz6 (p : Int) size L.length (n - 1) = 0 ∧ ∃ st cs T G K, mwalk p size L (n - 1).toNat = .good st cs ∧ TabG p L st n.toNat T ∧ e = .returned (.tuple #[.slice (some ⟨G, 0, none⟩) T.length T.length, .int .i64 (outS st), .nilIface]) ∧ Tbl w.heap.size G K w' T) := by
  obtain ⟨_, h2⟩ := h
  by_cases c1 : n < 1 ∨ 512 < n ∨ 64 < L.length
  · rw [if_pos c1, errV_nz (by decide)] at h2
    exact .inl ⟨_, h2⟩
  · rw [if_neg c1] at h2
    by_cases c2 : fz6 (p : Int) size L.length (n - 1) ≠ 0
    · rw [if_pos c2, errV_nz c2] at h2
      exact .inl ⟨_, h2⟩
    · rw [if_neg c2] at h2
      cases hX : mwalk p size L (n - 1).toNat with
      | bad z =>
        rw [hX] at h2
        have h2' : e = _ := h2
        rw [errV_nz (mgo_bad _ _ _ _ _ _ _ hX)] at h2'
        exact .inl ⟨_, h2'⟩
      | good st cs =>
        rw [hX] at h2
        by_cases c3 : n.toNat < (tho p L st n.toNat).length
        · simp only [if_pos c3] at h2
          rw [errV_nz (by decide)] at h2
          exact .inl ⟨_, h2⟩
        · simp only [if_neg c3] at h2
          obtain ⟨T, G, K, hT, he, hTb⟩ := h2
          exact .inr ⟨by omega, by omega, by omega, Decidable.byContradiction c2, st, cs, T, G, K, rfl, hT, he, hTb⟩
theorem out_same {l : List (List Int)} (h0 : 0 < l.length) (h10 : ∀ s, s ∈ l → s.length = 10) : outv l = outS l := by
  unfold outv outS
  rw [stvs_at l h10 (l.length - 1) 7 (by omega) (by omega)]
end Go.Proofs.YtdpdmgmeieijaaaGreatDoor

namespace Go.Proofs.YtdpdmgmeieijaaaGreatDoor
open Go.RowKit Go.Maps

set_option maxRecDepth 100000 in
set_option maxHeartbeats 8000000 in
theorem rsound_walk (SO : SrtAs) (p out size : Int) (aL : Option Addr) (cL : Nat) (L : List InsZ) (a1 : Option Addr) (c1 : Nat) (rows : List (List Int)) (w : World) (hLd : Laid w) (hp1 : -9223372036854775808 ≤ p) (hp2 : p ≤ 9223372036854775807) (hout : I64 out) (hsz : I64 size) (hl : L.length ≤ 4398046511104) (hI : LstI w.heap.size w aL cL L) (hIB : InsB L)
    (hL : LstR w.heap.size w a1 c1 rows) (hF : FitsR rows) (hn : rows.length ≤ 5864062014634) :
    Calls Tryz.prog 3 #[.int .i64 p, .agg #[.int .i64 size, .slice aL L.length cL], .int .i64 out, .slice a1 rows.length c1] w fun e w' => e = .returned (.bool true) ∧ Below w.heap.size w w' := by
  obtain ⟨W0, hW0⟩ : ∃ W0, W0 = w.alloc (.cells #[.int .i64 size, .slice aL L.length cL] 24) := ⟨_, rfl⟩
  have hb0 : Below w.heap.size w W0 := by rw [hW0]; exact (Below.refl _ _).alloc (Nat.le_refl _) _
  have hs0 : W0.heap[w.heap.size]? = some (.cells #[.int .i64 size, .slice aL L.length cL] 24 (0, 0)) := by rw [hW0]; exact heap_alloc_new w _
  have hCl : w.heap.size < W0.heap.size := (Array.getElem?_eq_some_iff.1 hs0).1
  have HB0 := hid hb0
  have HLD := hid hLd
  obtain ⟨nL, hnl⟩ : ∃ nL, nL = L.length := ⟨_, rfl⟩
  have HNL := hid hnl
  have HCO : Hid (∀ W, Below W0.heap.size W0 W → W.cell? ⟨w.heap.size, 0, none⟩ = some (.int .i64 size) ∧ W.cell? ⟨w.heap.size, 1, none⟩ = some (.slice aL L.length cL)) := fun W h => by
    have := (h.block w.heap.size hCl).trans hs0
    exact ⟨by simp [World.cell?, this], by simp [World.cell?, this]⟩
  have HLV := hid (lives7_any W0)
  rw [← hnl] at hW0 HCO ⊢
  by_cases hok : okPrime p
  · obtain ⟨q, rfl⟩ := Int.eq_ofNat_of_zero_le (show 0 ≤ p by have := hok.1; omega)
    obtain ⟨hq3, hq4, hqp⟩ := hok
    rw [Int.toNat_natCast] at hqp
    have h3 : 3 ≤ q := by omega
    have h4 : q ≤ 2147483647 := by omega
    have HP := hid hqp
    have HLW : Hid (∀ W, Below W0.heap.size W0 W → LstI W.heap.size W aL cL L ∧ LstR W.heap.size W a1 c1 rows) := fun W h => by
      have hb := hb0.trans (h.mono hb0.size)
      exact ⟨(hI.below hb).mono hb.size, (hL.below hb).mono hb.size⟩
    obtain ⟨n, hn'⟩ : ∃ n, n = rows.length := ⟨_, rfl⟩
    have HN := hid hn'
    have HFT := hid (fun W => rfault6_any (q : Int) size ((n : Int) - 1) L.length cL aL W (by omega))
    have HBR := hid (fun (fb : Nat) (W : World) (h : Below W0.heap.size W0 W) (hp : W.cell? ⟨fb, 0, none⟩ = some (.int .i64 q)) => pbroken_any q fb L size out rows aL cL a1 c1 W h3 h4 hIB hl hsz hout hF hp (HLW.out W h).1 (HLW.out W h).2 hn)
    have HAL := hid (fun (fb : Nat) (W : World) (h : Below W0.heap.size W0 W) (hp : W.cell? ⟨fb, 0, none⟩ = some (.int .i64 q)) (h512 : rows.length ≤ 512) => palike_any q fb c1 a1 rows W h3 h4 hp (HLW.out W h).2 hF (by omega))
    have HRN := hid (fun (fb : Nat) (W : World) (h : Below W0.heap.size W0 W) (hp : W.cell? ⟨fb, 0, none⟩ = some (.int .i64 q)) => prun_any SO q fb size ((n : Int) - 1) aL cL L W h3 h4 HP.out hp (by omega) (HLW.out W h).1 hIB)
    have HOF := hid (fun W => rof_any q out W h3 h4 hout.1 hout.2)
    have HSND : Hid (fz6 (q : Int) size L.length ((n : Int) - 1) = 0 → 1 ≤ n → 4 * n ≤ q → ∀ z x, BrkA q L size out rows z x → z = -1 → alkB q rows = true → (mwalk q size L ((n : Int) - 1).toNat = .bad 10 ∨ ∃ l cs', mwalk q size L ((n : Int) - 1).toNat = .good l cs' ∧ outv l = out % (q : Int))) := fun hf0 h1 h4n z x hbk hz hal => by
      have e : ((n : Int) - 1).toNat = rows.length - 1 := by omega
      have hLq : 0 < L.length ∧ L.length ≤ q := by
        unfold fz6 at hf0
        split at hf0
        · omega
        · omega
      unfold BrkA at hbk
      have hMB : MinB (brkn q L size out rows) (L.length + 26) rows.length z x := by
        split at hbk
        · omega
        · exact hbk
      have hNo : NoB q L size out rows := by
        rcases hMB with ⟨_, _, h5⟩ | ⟨k, i, _, _, h5, _⟩
        · exact h5
        · omega
      unfold alkB at hal
      have hperm : (pr4 q rows 3 7).Perm (pr4 q rows 12 16) := of_decide_eq_true (by
        rw [Bool.and_eq_true] at hal; exact hal.2)
      rw [e]
      rcases sound_plain hNo HP.out h3 hLq.2 (by omega) (by omega) hperm with g | ⟨l, cs', g1, g2⟩
      · exact .inl g
      · refine .inr ⟨l, cs', g1, ?_⟩
        obtain ⟨_, hl0⟩ := mwalk_steps h3 g1
        obtain ⟨_, _, hon⟩ := mwalk_once h3 g1
        rw [out_same hl0 (fun s hs => (hon s hs).2)]
        exact g2
    rw [← hn', ← hnl] at HBR
    rw [← hn'] at HAL hn ⊢
    rw [← hnl] at HRN HFT
    clear hb0 hs0 hI hqp hLd hq3 hq4 hp1 hp2 hIB hsz hout hL hF hn' SO
    have hwr : IntKind.i64.wrap ((n : Int) - 1) = (n : Int) - 1 := by rw [IntKind.wrap_i64]; omega
    have hw4 : IntKind.i64.wrap (4 * (n : Int)) = 4 * (n : Int) := by rw [IntKind.wrap_i64]; omega
    rw [← hnl] at hl HSND
    clear hnl
    go_enter Tryz.func3, Tryz.ntmps3
    go_wp2_with fail
    rw [← hW0]
    clear hW0
    refine HLV.out.mono ?_
    rintro e w1 ⟨rfl, hb1⟩
    have HB1 := hid hb1
    have HPL := hid (plain7_yes q w1 h3 h4 HP.out)
    clear hb1 HLV
    go_wp2_with fail
    refine HPL.out.mono ?_
    rintro e w2 ⟨rfl, hc2, hb2⟩
    have HB2 := hid (HB1.out.trans (hb2.mono HB1.out.size))
    obtain ⟨fb, hfb⟩ : ∃ fb, fb = w1.heap.size := ⟨_, rfl⟩
    rw [← hfb] at hc2 ⊢
    have HC2 := hid hc2
    have hlt2 : fb < w2.heap.size := World.block_lt_of_cell? _ _ hc2
    have HBF2 := hid (HB0.out.trans (HB2.out.mono HB0.out.size))
    clear hc2 hb2 HPL hfb HB1
    by_cases g1 : n < 1
    · have qg : (n : Int) < 1 := by omega
      go_wp2_with fail
      go_ret
      exact ⟨rfl, HBF2.out⟩
    have qg : ¬ (n : Int) < 1 := by omega
    by_cases g2 : 512 < n
    · have qg2 : (512 : Int) < (n : Int) := by omega
      go_wp2_with fail
      go_ret
      exact ⟨rfl, HBF2.out⟩
    have qg2 : ¬ (512 : Int) < (n : Int) := by omega
    by_cases g3 : q < 4 * n
    · have qg3 : (q : Int) < 4 * (n : Int) := by omega
      go_wp2_with fail
      go_ret
      exact ⟨rfl, HBF2.out⟩
    have qg3 : ¬ (q : Int) < 4 * (n : Int) := by omega
    obtain ⟨k0, k1⟩ := HCO.out w2 HB2.out
    go_wp2_with fail
    refine (HFT.out w2).mono ?_
    rintro e w3 ⟨rfl, hb3⟩
    have HB3 := hid (HB2.out.trans (hb3.mono HB2.out.size))
    have HC3 := hid ((hb3.cell (p := ⟨fb, 0, none⟩) hlt2).trans HC2.out)
    have HBF3 := hid (HB0.out.trans (HB3.out.mono HB0.out.size))
    clear hb3 k0 k1 HFT HC2 HBF2 hlt2
    obtain ⟨ft, hft⟩ : ∃ ft, ft = fz6 (q : Int) size nL ((n : Int) - 1) := ⟨_, rfl⟩
    have HFZ := hid hft
    rw [← hft]
    clear hft
    by_cases hf0 : ft = 0
    · have qf : (ft != 0) = false := by rw [hf0]; rfl
      obtain ⟨k0, k1⟩ := HCO.out w3 HB3.out
      go_wp2_with fail
      refine (HBR.out fb w3 HB3.out HC3.out).mono ?_
      rintro e w4 ⟨z, x, rfl, hbk, hb4⟩
      have HBK := hid hbk
      obtain ⟨W4, hW4⟩ : ∃ W4, W4 = w4.alloc (.cells #[.int .i64 z, .int .i64 x] 31) := ⟨_, rfl⟩
      have hb44 : Below w4.heap.size w4 W4 := by rw [hW4]; exact (Below.refl _ _).alloc (Nat.le_refl _) _
      have hb34 := hb4.trans (hb44.mono hb4.size)
      have HA4 : Hid (W4.heap[w4.heap.size]? = some (.cells #[.int .i64 z, .int .i64 x] 31 (0, 0))) := by unfold Hid; rw [hW4]; exact heap_alloc_new w4 _
      have HB4 := hid (HB3.out.trans (hb34.mono HB3.out.size))
      have HC4 := hid ((hb34.cell (p := ⟨fb, 0, none⟩) (World.block_lt_of_cell? _ _ HC3.out)).trans HC3.out)
      obtain ⟨A, hA⟩ : ∃ A, A = w4.heap.size := ⟨_, rfl⟩
      rw [← hA] at HA4
      clear hb4 hb44 hb34 HBR k0 k1 HC3 HBF3 hbk
      go_wp2_with fail
      rw [← hW4, ← hA]
      clear hW4 hA
      refine (HAL.out fb W4 HB4.out HC4.out (by have := HN.out; omega)).mono ?_
      rintro e w5 ⟨rfl, hb5⟩
      have HB5 := hid (HB4.out.trans (hb5.mono HB4.out.size))
      have HC5 := hid ((hb5.cell (p := ⟨fb, 0, none⟩) (World.block_lt_of_cell? _ _ HC4.out)).trans HC4.out)
      have ha5 := (hb5.block A (Array.getElem?_eq_some_iff.1 HA4.out).1).trans HA4.out
      have y0 : w5.cell? ⟨A, 0, none⟩ = some (.int .i64 z) := by simp [World.cell?, ha5]
      have HBF5 := hid (HB0.out.trans (HB5.out.mono HB0.out.size))
      obtain ⟨ab, hab⟩ : ∃ ab, ab = alkB q rows := ⟨_, rfl⟩
      have HAB := hid hab
      rw [← hab]
      obtain ⟨k0, k1⟩ := HCO.out w5 HB5.out
      clear hb5 ha5 hab HAL HA4 HC4
      by_cases hz : z = -1
      · have qz : (z != -1) = false := by rw [hz]; rfl
        cases ab with
        | false =>
          go_wp2_with fail
          go_ret
          exact ⟨rfl, HBF5.out⟩
        | true =>
          have HS := hid (HSND.out (by rw [← HFZ.out]; exact hf0) (by omega) (by omega) z x HBK.out hz HAB.out.symm)
          go_wp2_with fail
          refine (HRN.out fb w5 HB5.out HC5.out).mono ?_
          intro e w6 hr6
          have hb6 := hr6.1
          have hcs := hr6.cases
          have HB6 := hid (HB5.out.trans (hb6.mono HB5.out.size))
          clear hb6 HRN k0 k1 y0 HSND
          rcases hcs with ⟨z2, hz2, rfl, hwhy⟩ | ⟨_, l, cs, a, c, l', hX, hl0, rfl, _⟩
          · have hz10 : z2 = 10 := by
              rcases hwhy with ⟨g, _⟩ | ⟨_, g⟩
              · exact absurd (by rw [← HNL.out, ← HFZ.out]; exact hf0) g
              · rcases HS.out with g5 | ⟨l, cs', g5, _⟩
                · rw [g5] at g; injection g with g; exact g.symm
                · rw [g5] at g; cases g
            subst hz10
            clear hwhy hz2 hr6
            obtain ⟨W6, hW6⟩ : ∃ W6, W6 = w6.alloc (.cells #[.int .i64 0, .int .i64 0, .slice none 0 0] 36) := ⟨_, rfl⟩
            have hb66 : Below w6.heap.size w6 W6 := by rw [hW6]; exact (Below.refl _ _).alloc (Nat.le_refl _) _
            have HB7 := hid (HB0.out.trans ((HB6.out.trans (hb66.mono HB6.out.size)).mono HB0.out.size))
            clear hb66
            go_wp2_with fail
            rw [← hW6]
            clear hW6
            refine (HOF.out W6).mono ?_
            rintro e w7 ⟨rfl, hw7⟩
            have hw7' := hw7.symm
            subst hw7'
            clear hw7
            go_wp2_with fail
            refine (error_hit 10 7 W6 (HLD.out.below HB7.out)).mono ?_
            rintro e w8 ⟨rfl, hb8⟩
            have HB8 := hid (HB7.out.trans (hb8.mono HB7.out.size))
            clear hb8
            go_wp2_with fail
            refine (error_hit 10 8 w8 (HLD.out.below HB8.out)).mono ?_
            rintro e w9 ⟨rfl, hb9⟩
            have HB9 := hid (HB8.out.trans (hb9.mono HB8.out.size))
            clear hb9
            go_wp2_with fail
            go_ret
            exact ⟨by first | rfl | simp, HB9.out⟩
          · have hov : outv l = out % (q : Int) := by
              rcases HS.out with g5 | ⟨l2, cs', g5, g6⟩
              · rw [hX] at g5; cases g5
              · rw [hX] at g5; injection g5 with g7 _; rw [g7]; exact g6
            rw [hov]
            clear hov hX hl0 hr6
            generalize (l.length - 1 : Nat) = kk at *
            generalize l'.length = ll at *
            obtain ⟨o, ho⟩ : ∃ o, o = out % (q : Int) := ⟨_, rfl⟩
            rw [← ho] at HOF ⊢
            clear ho
            obtain ⟨W6, hW6⟩ : ∃ W6, W6 = w6.alloc (.cells #[.int .i64 o, .int .i64 (kk : Int), .slice a ll c] 36) := ⟨_, rfl⟩
            have hb66 : Below w6.heap.size w6 W6 := by rw [hW6]; exact (Below.refl _ _).alloc (Nat.le_refl _) _
            have ha6 : W6.heap[w6.heap.size]? = some (.cells #[.int .i64 o, .int .i64 (kk : Int), .slice a ll c] 36 (0, 0)) := by rw [hW6]; exact heap_alloc_new w6 _
            have HB7 := hid (HB0.out.trans ((HB6.out.trans (hb66.mono HB6.out.size)).mono HB0.out.size))
            obtain ⟨B, hB⟩ : ∃ B, B = w6.heap.size := ⟨_, rfl⟩
            rw [← hB] at ha6
            have y1 : W6.cell? ⟨B, 0, none⟩ = some (.int .i64 o) := by simp [World.cell?, ha6]
            have qo : (o == o) = true := by simp
            clear hb66 ha6
            go_wp2_with fail
            rw [← hW6, ← hB]
            clear hW6 hB
            refine (HOF.out W6).mono ?_
            rintro e w7 ⟨rfl, hw7⟩
            have hw7' := hw7.symm
            subst hw7'
            clear hw7
            go_wp2_with fail
            go_ret
            exact ⟨by first | rfl | simp, HB7.out⟩
      · have qz : (z != -1) = true := by rw [bne_iff_ne]; exact hz
        go_wp2_with fail
        go_ret
        exact ⟨rfl, HBF5.out⟩
    · have qf : (ft != 0) = true := by rw [bne_iff_ne]; exact hf0
      go_wp2_with fail
      go_ret
      exact ⟨rfl, HBF3.out⟩
  · have HPL := hid (fun W => plain7_no p W hok hp1 hp2)
    clear hok hb0 hs0 hnl hI hLd hL hF SO
    go_enter Tryz.func3, Tryz.ntmps3
    go_wp2_with fail
    rw [← hW0]
    clear hW0
    refine HLV.out.mono ?_
    rintro e w1 ⟨rfl, hb1⟩
    have HBF := hid (HB0.out.trans (hb1.mono HB0.out.size))
    clear hb1 HLV
    go_wp2_with fail
    refine (HPL.out w1).mono ?_
    rintro e w2 ⟨rfl, rfl⟩
    go_wp2_with fail
    go_ret
    exact ⟨rfl, HBF.out⟩

end Go.Proofs.YtdpdmgmeieijaaaGreatDoor
