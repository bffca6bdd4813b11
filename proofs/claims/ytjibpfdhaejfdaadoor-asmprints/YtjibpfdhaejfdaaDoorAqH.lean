/- The reference of code as text: needs, words, get, proper. -/
import Derived.Test.YtjibpfdhaejfdaaDoorAqG
namespace Go.Proofs.YtjibpfdhaejfdaaDoor
open Go.RowKit

/-- a table of texts -/
structure StT (G n : Nat) (f : Nat → List UInt8) (w : World) : Prop where
  lt : G < w.heap.size
  at' : ∀ k, k < n → w.cell? ⟨G, k, none⟩ = some (.string (bs (f k)))
theorem StT.below {G n n0 : Nat} {f : Nat → List UInt8} {w w' : World} (h : StT G n f w) (e : Below n0 w w') (hg : G < n0) : StT G n f w' := ⟨Nat.lt_of_lt_of_le h.lt e.size, fun k hk => (e.cell (p := ⟨G, k, none⟩) hg).trans (h.at' k hk)⟩
theorem stT_new {w W : World} {l : List (List UInt8)} {f : Nat → List UInt8} {T : TypeId} (hW : W = w.alloc (.cells (l.map fun x => Value.string (bs x)).toArray T)) (hf : ∀ k, k < l.length → f k = l.getD k []) : StT w.heap.size l.length f W ∧ Below w.heap.size w W := by
  have h1 : W.heap[w.heap.size]? = some (.cells (l.map fun x => Value.string (bs x)).toArray T (0, 0)) := by rw [hW]; exact heap_alloc_new w _
  refine ⟨⟨(Array.getElem?_eq_some_iff.1 h1).1, fun k hk => ?_⟩, by rw [hW]; exact (Below.refl _ _).alloc (Nat.le_refl _) _⟩
  rw [hf k hk]
  simp [World.cell?, h1, hk]

set_option maxRecDepth 100000 in
theorem needs_any (w : World) : Calls Tryd.prog 10 #[] w fun e w' => e = .returned (.slice (some ⟨w.heap.size, 0, none⟩) 14 14) ∧ StT w.heap.size 14 fNd w' ∧ Below w.heap.size w w' := by
  obtain ⟨W, hW⟩ : ∃ W, W = w.alloc (.cells (fNds.map fun x => Value.string (bs x)).toArray 9) := ⟨_, rfl⟩
  have HE := hid (stT_new (f := fNd) hW (fun k _ => rfl))
  go_enter Tryd.func10, Tryd.ntmps10
  go_wp2_with fail
  go_ret
  exact ⟨rfl, by rw [hW] at HE; exact HE.out⟩
set_option maxRecDepth 100000 in
theorem words_any (w : World) : Calls Tryd.prog 14 #[] w fun e w' => e = .returned (.slice (some ⟨w.heap.size, 0, none⟩) 14 14) ∧ StT w.heap.size 14 fWd w' ∧ Below w.heap.size w w' := by
  obtain ⟨W, hW⟩ : ∃ W, W = w.alloc (.cells (fWds.map fun x => Value.string (bs x)).toArray 9) := ⟨_, rfl⟩
  have HE := hid (stT_new (f := fWd) hW (fun k _ => rfl))
  go_enter Tryd.func14, Tryd.ntmps14
  go_wp2_with fail
  go_ret
  exact ⟨rfl, by rw [hW] at HE; exact HE.out⟩

/-- the letters against the slots -/
def ltr (k i : Nat) : Nat := ((fNd k).getD i 0).toNat
theorem fNd_len : ∀ k, k < 14 → 1 ≤ (fNd k).length ∧ (fNd k).length ≤ 3 := by decide
theorem fNd_ltr : ∀ k, k < 14 → ∀ i, i < 3 → (i < (fNd k).length → fSl k i ≠ 0 ∧ ltr k i = (if fSl k i = 2 then 65 else 97) + i) ∧ (¬ i < (fNd k).length → fSl k i = 0) := by decide
theorem bs_ltr (k i : Nat) (h : i < (bs (fNd k)).size) : ((bs (fNd k))[i]).toNat = ltr k i := by
  have h2 : i < (fNd k).length := by rw [bs_size] at h; exact h
  rw [bs_get, ltr, List.getD_eq_getElem?_getD, List.getElem?_eq_getElem h2]
  rfl
/-- a field, by its letter -/
theorem get_any (x : InsZ) (c i : Nat) (w : World) (hi : i < 3) (hc : c = 97 + i ∨ c = 65 + i) : Calls Tryd.prog 12 #[.agg #[.int .i64 x.op, .int .i64 x.a, .int .i64 x.b, .int .i64 x.c], .int .u8 (c : Int)] w fun e w' => e = .returned (.int .i64 (fldz x i)) ∧ Below w.heap.size w w' := by
  obtain ⟨W0, hW0⟩ : ∃ W0, W0 = w.alloc (.cells #[.int .i64 x.op, .int .i64 x.a, .int .i64 x.b, .int .i64 x.c] 40) := ⟨_, rfl⟩
  have HB : Hid (Below w.heap.size w W0) := by unfold Hid; rw [hW0]; exact (Below.refl _ _).alloc (Nat.le_refl _) _
  obtain rfl | rfl | rfl | rfl | rfl | rfl : c = 97 ∨ c = 65 ∨ c = 98 ∨ c = 66 ∨ c = 99 ∨ c = 67 := by omega
  · obtain rfl : i = 0 := by omega
    go_enter Tryd.func12, Tryd.ntmps12
    go_wp2_with fail
    rw [← hW0]
    go_ret
    exact ⟨rfl, HB.out⟩
  · obtain rfl : i = 0 := by omega
    go_enter Tryd.func12, Tryd.ntmps12
    go_wp2_with fail
    rw [← hW0]
    go_ret
    exact ⟨rfl, HB.out⟩
  · obtain rfl : i = 1 := by omega
    go_enter Tryd.func12, Tryd.ntmps12
    go_wp2_with fail
    rw [← hW0]
    go_ret
    exact ⟨rfl, HB.out⟩
  · obtain rfl : i = 1 := by omega
    go_enter Tryd.func12, Tryd.ntmps12
    go_wp2_with fail
    rw [← hW0]
    go_ret
    exact ⟨rfl, HB.out⟩
  · obtain rfl : i = 2 := by omega
    go_enter Tryd.func12, Tryd.ntmps12
    go_wp2_with fail
    rw [← hW0]
    go_ret
    exact ⟨rfl, HB.out⟩
  · obtain rfl : i = 2 := by omega
    go_enter Tryd.func12, Tryd.ntmps12
    go_wp2_with fail
    rw [← hW0]
    go_ret
    exact ⟨rfl, HB.out⟩

set_option maxRecDepth 100000 in
set_option maxHeartbeats 4000000 in
theorem proper_any (x : InsZ) (w : World) : Calls Tryd.prog 11 #[.agg #[.int .i64 x.op, .int .i64 x.a, .int .i64 x.b, .int .i64 x.c]] w fun e w' => e = .returned (.bool (decide (WrI x))) ∧ Below w.heap.size w w' := by
  obtain ⟨W0, hW0⟩ : ∃ W0, W0 = w.alloc (.cells #[.int .i64 x.op, .int .i64 x.a, .int .i64 x.b, .int .i64 x.c] 40) := ⟨_, rfl⟩
  have hb0 : Below w.heap.size w W0 := by rw [hW0]; exact (Below.refl _ _).alloc (Nat.le_refl _) _
  have hs0 : W0.heap[w.heap.size]? = some (.cells #[.int .i64 x.op, .int .i64 x.a, .int .i64 x.b, .int .i64 x.c] 40 (0, 0)) := by rw [hW0]; exact heap_alloc_new w _
  have hl0 := (Array.getElem?_eq_some_iff.1 hs0).1
  have HB0 := hid hb0
  obtain ⟨B, hB⟩ : ∃ B, B = w.heap.size := ⟨_, rfl⟩
  have HBE := hid hB
  rw [← hB] at hs0 hl0
  have HC0 : Hid (∀ W, Below W0.heap.size W0 W → W.cell? ⟨B, 0, none⟩ = some (.int .i64 x.op) ∧ W.cell? ⟨B, 1, none⟩ = some (.int .i64 (fldz x 0)) ∧ W.cell? ⟨B, 2, none⟩ = some (.int .i64 (fldz x 1)) ∧ W.cell? ⟨B, 3, none⟩ = some (.int .i64 (fldz x 2))) := fun W hW => by
    have h1 := (hW.block _ hl0).trans hs0
    exact ⟨by simp [World.cell?, h1], by simp [World.cell?, h1, fldz], by simp [World.cell?, h1, fldz], by simp [World.cell?, h1, fldz]⟩
  by_cases hop : 0 ≤ x.op ∧ x.op < 14
  · obtain ⟨op, hopn⟩ : ∃ op : Nat, x.op = (op : Int) := ⟨x.op.toNat, by omega⟩
    have hop14 : op < 14 := by omega
    have hopt : x.op.toNat = op := by omega
    have ho1 : ¬ (op : Int) < 0 := by omega
    have ho2 : ¬ (13 : Int) < (op : Int) := by omega
    have ho3 : (op : Int) < 14 := by omega
    have HLN := fNd_len op hop14
    have HLT := hid (fNd_ltr op hop14)
    have hsz : (bs (fNd op)).size = (fNd op).length := bs_size _
    have HBL := hid (bs_ltr op)
    obtain ⟨f, hf⟩ : ∃ f : Nat → Int, f = fldz x := ⟨_, rfl⟩
    have HDE : Hid (decide (WrI x) = (decide (ShN (f 0)) && decide (ShN (f 1)) && decide (ShN (f 2)) && ((decide (0 < (fNd op).length) || decide (f 0 = 0)) && (decide (1 < (fNd op).length) || decide (f 1 = 0)) && (decide (2 < (fNd op).length) || decide (f 2 = 0))))) := by
      unfold Hid
      rw [hf]
      have e0 := (HLT.out 0 (by omega))
      have e1 := (HLT.out 1 (by omega))
      have e2 := (HLT.out 2 (by omega))
      have hz : ∀ i, i < 3 → (fSl op i = 0 ↔ ¬ i < (fNd op).length) := fun i hi => ⟨fun h h2 => ((HLT.out i hi).1 h2).1 h, fun h => (HLT.out i hi).2 h⟩
      by_cases hw : WrI x
      · rw [decide_eq_true hw]
        have h0 := hw.2 0 (by omega)
        have h1 := hw.2 1 (by omega)
        have h2 := hw.2 2 (by omega)
        unfold WrF at h0 h1 h2
        rw [hopt] at h0 h1 h2
        rw [decide_eq_true h0.2, decide_eq_true h1.2, decide_eq_true h2.2]
        have g : ∀ i, i < 3 → (fSl op i = 0 → fldz x i = 0) → (decide (i < (fNd op).length) || decide (fldz x i = 0)) = true := fun i hi h => by
          by_cases c : i < (fNd op).length
          · rw [decide_eq_true c]; rfl
          · rw [decide_eq_true (h ((hz i hi).2 c))]; simp
        rw [g 0 (by omega) h0.1, g 1 (by omega) h1.1, g 2 (by omega) h2.1]
        rfl
      · rw [decide_eq_false hw]
        symm
        rw [Bool.eq_false_iff]
        intro h
        simp only [Bool.and_eq_true, Bool.or_eq_true, decide_eq_true_eq] at h
        obtain ⟨⟨⟨s0, s1⟩, s2⟩, ⟨t0, t1⟩, t2⟩ := h
        refine hw ⟨hop, fun i hi => ?_⟩
        unfold WrF
        rw [hopt]
        obtain rfl | rfl | rfl : i = 0 ∨ i = 1 ∨ i = 2 := by omega
        · exact ⟨fun h => t0.resolve_left ((hz 0 hi).1 h), s0⟩
        · exact ⟨fun h => t1.resolve_left ((hz 1 hi).1 h), s1⟩
        · exact ⟨fun h => t2.resolve_left ((hz 2 hi).1 h), s2⟩
    obtain ⟨R, hR⟩ : ∃ R, R = decide (WrI x) := ⟨_, rfl⟩
    rw [← hR] at HDE ⊢
    clear hR
    rw [hopn] at HC0 hW0 ⊢
    rw [← hf] at HC0
    obtain ⟨k0, k1, k2, k3⟩ := HC0.out W0 (Below.refl _ _)
    obtain ⟨d0, hd0⟩ : ∃ d0, d0 = decide (ShN (f 0)) := ⟨_, rfl⟩
    obtain ⟨d1, hd1⟩ : ∃ d1, d1 = decide (ShN (f 1)) := ⟨_, rfl⟩
    obtain ⟨d2, hd2⟩ : ∃ d2, d2 = decide (ShN (f 2)) := ⟨_, rfl⟩
    have HF0 : Hid (∀ W, Calls Tryd.prog 9 #[.int .i64 (f 0)] W fun e w' => e = .returned (.bool d0) ∧ w' = W) := fun W => by rw [hd0]; exact rfits11_any (f 0) W
    have HF1 : Hid (∀ W, Calls Tryd.prog 9 #[.int .i64 (f 1)] W fun e w' => e = .returned (.bool d1) ∧ w' = W) := fun W => by rw [hd1]; exact rfits11_any (f 1) W
    have HF2 : Hid (∀ W, Calls Tryd.prog 9 #[.int .i64 (f 2)] W fun e w' => e = .returned (.bool d2) ∧ w' = W) := fun W => by rw [hd2]; exact rfits11_any (f 2) W
    rw [← hd0, ← hd1, ← hd2] at HDE
    clear hd0 hd1 hd2
    have HND := hid (fun W => needs_any W)
    generalize x.a = xa at *
    generalize x.b = xb at *
    generalize x.c = xc at *
    obtain ⟨l, hl⟩ : ∃ l, l = bs (fNd op) := ⟨_, rfl⟩
    obtain ⟨nn, hnn⟩ : ∃ nn, nn = (fNd op).length := ⟨_, rfl⟩
    have HST : Hid (∀ G W, StT G 14 fNd W → W.cell? ⟨G, op, none⟩ = some (.string l)) := fun G W h => by rw [hl]; exact h.at' op hop14
    rw [← hl] at hsz HBL
    rw [← hnn] at hsz HLN HLT HDE
    rw [hB] at k0
    rw [hW0] at k0
    clear hop hopn hopt hop14 hb0 hs0 hl0 hl hnn hf hB k1 k2 k3
    go_enter Tryd.func11, Tryd.ntmps11
    go_wp2_with fail
    rw [← hW0]
    clear hW0 k0
    refine (HND.out W0).mono ?_
    rintro e w1 ⟨rfl, hst, hb1⟩
    have HS1 := hid (HST.out _ _ hst)
    obtain ⟨G, hG⟩ : ∃ G, G = W0.heap.size := ⟨_, rfl⟩
    rw [← hG] at HS1 ⊢
    obtain ⟨k0, k1, k2, k3⟩ := HC0.out w1 hb1
    have HB1 := hid hb1
    have s1 := HS1.out
    rw [← HBE.out]
    clear hst hb1 hG HST HND
    go_wp2_with fail
    refine (HF0.out _).mono ?_
    rintro e w2 ⟨rfl, rfl⟩
    go_wp2_with fail
    refine (HF1.out _).mono ?_
    rintro e w3 ⟨rfl, rfl⟩
    go_wp2_with fail
    refine (HF2.out _).mono ?_
    rintro e w4 ⟨rfl, rfl⟩
    have HO : Hid (Below w.heap.size w w4) := HB0.out.trans (HB1.out.mono HB0.out.size)
    by_cases hd : (d0 && d1 && d2) = true
    · obtain ⟨⟨rfl, rfl⟩, rfl⟩ : (d0 = true ∧ d1 = true) ∧ d2 = true := by simpa using hd
      simp only [Bool.true_and] at HDE
      clear hd HF0 HF1 HF2 s1
      obtain ⟨W5, hW5⟩ : ∃ W5, W5 = w4.alloc (.cells #[.bool false, .bool false, .bool false] 62) := ⟨_, rfl⟩
      have hb5 : Below w4.heap.size w4 W5 := by rw [hW5]; exact (Below.refl _ _).alloc (Nat.le_refl _) _
      have hs5 : W5.heap[w4.heap.size]? = some (.cells #[.bool false, .bool false, .bool false] 62 (0, 0)) := by rw [hW5]; exact heap_alloc_new w4 _
      obtain ⟨H, hH⟩ : ∃ H, H = w4.heap.size := ⟨_, rfl⟩
      rw [← hH] at hs5
      have HHB : Hid (w.heap.size ≤ H ∧ B < H) := ⟨by rw [hH]; exact HO.out.size, by rw [hH]; exact World.block_lt_of_cell? _ _ k0⟩
      have HR5 : Hid (∃ c0 c1 c2, W5.heap[H]? = some (.cells #[.bool c0, .bool c1, .bool c2] 62 (0, 0)) ∧ c0 = decide (0 < 0) ∧ c1 = decide (1 < 0) ∧ c2 = decide (2 < 0)) := ⟨_, _, _, hs5, rfl, rfl, rfl⟩
      have HO5 : Hid (Below w.heap.size w W5) := HO.out.trans (hb5.mono HO.out.size)
      have HK5 : Hid (∀ W, Below w4.heap.size w4 W → W.cell? ⟨B, 1, none⟩ = some (.int .i64 (f 0)) ∧ W.cell? ⟨B, 2, none⟩ = some (.int .i64 (f 1)) ∧ W.cell? ⟨B, 3, none⟩ = some (.int .i64 (f 2))) := fun W hW => (HC0.out W (HB1.out.trans (hW.mono HB1.out.size))).2
      have HB5 := hid hb5
      clear hb5 hs5 k0 k1 k2 k3 HC0
      go_wp2_with fail
      rw [← hW5, ← hH]
      have HHE := hid hH
      clear hW5 hH
      go_loopw [9, 10] (fun iv _ wr => ∃ i : Nat, i ≤ nn ∧ iv = .int .i64 i ∧ Hid (∃ c0 c1 c2, wr.heap[H]? = some (.cells #[.bool c0, .bool c1, .bool c2] 62 (0, 0)) ∧ c0 = decide (0 < i) ∧ c1 = decide (1 < i) ∧ c2 = decide (2 < i)) ∧ Hid (Below w4.heap.size w4 wr)) (fun iv _ _ => nn - (intOf iv).toNat)
      case atStart => exact ⟨0, Nat.zero_le _, rfl, HR5, HB5⟩
      case round =>
        obtain ⟨i, hi, rfl, HR, HB⟩ := hrel
        obtain ⟨c0, c1, c2, hh, e0, e1, e2⟩ := HR.out
        have q0 : wr.cell? ⟨H, 0, none⟩ = some (.bool c0) := by simp [World.cell?, hh]
        have q1 : wr.cell? ⟨H, 1, none⟩ = some (.bool c1) := by simp [World.cell?, hh]
        have q2 : wr.cell? ⟨H, 2, none⟩ = some (.bool c2) := by simp [World.cell?, hh]
        by_cases hlt : i < nn
        · have hlt2 : (i : Int) < (nn : Int) := by omega
          have hi3 : i < 3 := by omega
          have hls : i < l.size := by omega
          have hlz : (i : Int) < (l.size : Int) := by omega
          have hb := HBL.out i hls
          have hlt5 := ((HLT.out i hi3).1 hlt).2
          have HFR : Hid (∀ j, wr.frozen? ⟨H, j, none⟩ = false) := fun j => by simp [World.frozen?, hh]
          have HHH := hid hh
          have HB' := hid HB.out
          have HB9 : Hid (∀ (j : Nat) (v : Value), Below w4.heap.size w4 (wr.setCell ⟨H, j, none⟩ v)) := fun j v => HB.out.setCell (p := ⟨H, j, none⟩) (by rw [HHE.out]; exact Nat.le_refl _) v
          clear hh HR HB HB'
          obtain rfl | rfl | rfl : i = 0 ∨ i = 1 ∨ i = 2 := by omega
          · have fr := HFR.out 0
            have HNX : Hid (∃ c0 c1 c2, (wr.setCell ⟨H, 0, none⟩ (.bool true)).heap[H]? = some (.cells #[.bool c0, .bool c1, .bool c2] 62 (0, 0)) ∧ c0 = decide (0 < 1) ∧ c1 = decide (1 < 1) ∧ c2 = decide (2 < 1)) := by
              refine ⟨true, c1, c2, ?_, ?_, ?_, ?_⟩
              · show (wr.heap.modify H _)[H]? = _
                rw [Array.getElem?_modify, if_pos rfl, HHH.out]
                rfl
              · rfl
              · exact e1
              · exact e2
            have HB5 := hid (HB9.out 0 (.bool true))
            by_cases hs2 : fSl op 0 = 2
            · rw [if_pos hs2] at hlt5
              rw [hlt5] at hb
              clear hlt5 hs2 e0 e1 e2 HHH HFR HB9
              go_wp2_with fail
              go_roundw
              case rel => exact ⟨1, by omega, by go_num, HNX, HB5⟩
              case measure => simp [intOf]; omega
            · rw [if_neg hs2] at hlt5
              rw [hlt5] at hb
              clear hlt5 hs2 e0 e1 e2 HHH HFR HB9
              go_wp2_with fail
              go_roundw
              case rel => exact ⟨1, by omega, by go_num, HNX, HB5⟩
              case measure => simp [intOf]; omega
          · have fr := HFR.out 1
            have HNX : Hid (∃ c0 c1 c2, (wr.setCell ⟨H, 1, none⟩ (.bool true)).heap[H]? = some (.cells #[.bool c0, .bool c1, .bool c2] 62 (0, 0)) ∧ c0 = decide (0 < 2) ∧ c1 = decide (1 < 2) ∧ c2 = decide (2 < 2)) := by
              refine ⟨c0, true, c2, ?_, ?_, ?_, ?_⟩
              · show (wr.heap.modify H _)[H]? = _
                rw [Array.getElem?_modify, if_pos rfl, HHH.out]
                rfl
              · exact e0
              · rfl
              · exact e2
            have HB5 := hid (HB9.out 1 (.bool true))
            by_cases hs2 : fSl op 1 = 2
            · rw [if_pos hs2] at hlt5
              rw [hlt5] at hb
              clear hlt5 hs2 e0 e1 e2 HHH HFR HB9
              go_wp2_with fail
              go_roundw
              case rel => exact ⟨2, by omega, by go_num, HNX, HB5⟩
              case measure => simp [intOf]; omega
            · rw [if_neg hs2] at hlt5
              rw [hlt5] at hb
              clear hlt5 hs2 e0 e1 e2 HHH HFR HB9
              go_wp2_with fail
              go_roundw
              case rel => exact ⟨2, by omega, by go_num, HNX, HB5⟩
              case measure => simp [intOf]; omega
          · have fr := HFR.out 2
            have HNX : Hid (∃ c0 c1 c2, (wr.setCell ⟨H, 2, none⟩ (.bool true)).heap[H]? = some (.cells #[.bool c0, .bool c1, .bool c2] 62 (0, 0)) ∧ c0 = decide (0 < 3) ∧ c1 = decide (1 < 3) ∧ c2 = decide (2 < 3)) := by
              refine ⟨c0, c1, true, ?_, ?_, ?_, ?_⟩
              · show (wr.heap.modify H _)[H]? = _
                rw [Array.getElem?_modify, if_pos rfl, HHH.out]
                rfl
              · exact e0
              · exact e1
              · rfl
            have HB5 := hid (HB9.out 2 (.bool true))
            by_cases hs2 : fSl op 2 = 2
            · rw [if_pos hs2] at hlt5
              rw [hlt5] at hb
              clear hlt5 hs2 e0 e1 e2 HHH HFR HB9
              go_wp2_with fail
              go_roundw
              case rel => exact ⟨3, by omega, by go_num, HNX, HB5⟩
              case measure => simp [intOf]; omega
            · rw [if_neg hs2] at hlt5
              rw [hlt5] at hb
              clear hlt5 hs2 e0 e1 e2 HHH HFR HB9
              go_wp2_with fail
              go_roundw
              case rel => exact ⟨3, by omega, by go_num, HNX, HB5⟩
              case measure => simp [intOf]; omega
        · obtain rfl : i = nn := by omega
          have hlt2 : ¬ (i : Int) < (i : Int) := by omega
          obtain ⟨k1, k2, k3⟩ := HK5.out wr HB.out
          have HOF : Hid (Below w.heap.size w wr) := HO.out.trans (HB.out.mono HO.out.size)
          clear hh HR HB HLT HBL
          obtain rfl | rfl | rfl : i = 1 ∨ i = 2 ∨ i = 3 := by omega
          · have e0' : c0 = true := e0
            have e1' : c1 = false := e1
            have e2' : c2 = false := e2
            subst e0' e1' e2'
            by_cases h1 : f 1 = 0
            · have h1' : (f 1 == 0) = true := by rw [h1]; rfl
              by_cases h2 : f 2 = 0
              · have h2' : (f 2 == 0) = true := by rw [h2]; rfl
                have HRT : Hid (R = true) := by unfold Hid; rw [HDE.out, decide_eq_true h1, decide_eq_true h2]; rfl
                clear h1 h2 e0 e1 e2 HDE
                go_wp2_with fail
                go_ret
                exact ⟨by rw [HRT.out]; rfl, HOF.out⟩
              · have h2' : (f 2 == 0) = false := by rw [beq_eq_false_iff_ne]; exact h2
                have HRT : Hid (R = false) := by unfold Hid; rw [HDE.out, decide_eq_true h1, decide_eq_false h2]; rfl
                clear h1 h2 e0 e1 e2 HDE
                go_wp2_with fail
                go_ret
                exact ⟨by rw [HRT.out]; rfl, HOF.out⟩
            · have h1' : (f 1 == 0) = false := by rw [beq_eq_false_iff_ne]; exact h1
              have HRT : Hid (R = false) := by unfold Hid; rw [HDE.out, decide_eq_false h1]; simp
              clear h1 e0 e1 e2 HDE
              go_wp2_with fail
              go_ret
              exact ⟨by rw [HRT.out]; rfl, HOF.out⟩
          · have e0' : c0 = true := e0
            have e1' : c1 = true := e1
            have e2' : c2 = false := e2
            subst e0' e1' e2'
            by_cases h2 : f 2 = 0
            · have h2' : (f 2 == 0) = true := by rw [h2]; rfl
              have HRT : Hid (R = true) := by unfold Hid; rw [HDE.out, decide_eq_true h2]; simp
              clear h2 e0 e1 e2 HDE
              go_wp2_with fail
              go_ret
              exact ⟨by rw [HRT.out]; rfl, HOF.out⟩
            · have h2' : (f 2 == 0) = false := by rw [beq_eq_false_iff_ne]; exact h2
              have HRT : Hid (R = false) := by unfold Hid; rw [HDE.out, decide_eq_false h2]; simp
              clear h2 e0 e1 e2 HDE
              go_wp2_with fail
              go_ret
              exact ⟨by rw [HRT.out]; rfl, HOF.out⟩
          · have e0' : c0 = true := e0
            have e1' : c1 = true := e1
            have e2' : c2 = true := e2
            subst e0' e1' e2'
            have HRT : Hid (R = true) := by unfold Hid; rw [HDE.out]; simp
            clear e0 e1 e2 HDE
            go_wp2_with fail
            go_ret
            exact ⟨by rw [HRT.out]; rfl, HOF.out⟩
    · have HRF : Hid (R = false) := by
        unfold Hid
        rw [HDE.out, Bool.eq_false_iff.2 hd]
        rfl
      clear HDE
      cases d0 with
      | false =>
        go_wp2_with fail
        go_ret
        exact ⟨by rw [HRF.out]; rfl, HO.out⟩
      | true =>
        cases d1 with
        | false =>
          go_wp2_with fail
          go_ret
          exact ⟨by rw [HRF.out]; rfl, HO.out⟩
        | true =>
          cases d2 with
          | false =>
            go_wp2_with fail
            go_ret
            exact ⟨by rw [HRF.out]; rfl, HO.out⟩
          | true => exact absurd rfl hd
  · have hr : decide (WrI x) = false := decide_eq_false fun h => hop h.1
    rw [hr]
    obtain ⟨k0, _, _, _⟩ := HC0.out W0 (Below.refl _ _)
    rw [hB, hW0] at k0
    by_cases h1 : x.op < 0
    · clear hop hr hb0 hs0 hl0 hB
      go_enter Tryd.func11, Tryd.ntmps11
      go_wp2_with fail
      rw [← hW0]
      go_ret
      exact ⟨rfl, HB0.out⟩
    · have h2 : (13 : Int) < x.op := by omega
      clear hop hr hb0 hs0 hl0 hB
      go_enter Tryd.func11, Tryd.ntmps11
      go_wp2_with fail
      rw [← hW0]
      go_ret
      exact ⟨rfl, HB0.out⟩

end Go.Proofs.YtjibpfdhaejfdaaDoor
