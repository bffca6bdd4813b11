/- The reference of code as text: Print. -/
import Derived.Test.YtjibpfdhaejfdaaDoorAqF
import Derived.Test.YtjibpfdhaejfdaaDoorAqH
namespace Go.Proofs.YtjibpfdhaejfdaaDoor
open Go.RowKit

theorem mkb_nn {L : List InsZ} {m nn n : Nat} (hn3 : nn ≤ 3) (h : ∀ i, i < 3 → ¬ i < nn → fSl (insat L m).op.toNat i = 0) : ∀ j, j < n + 1 → mkb L m nn j = mkb L m 3 j := by
  have step : ∀ i, i < 3 → ¬ i < nn → ∀ j, j < n + 1 → mkb L m (i + 1) j = mkb L m i j := fun i hi hnn => mkb_same hi n (fun h2 => by have := h i hi hnn; omega)
  intro j hj
  obtain rfl | rfl | rfl | rfl : nn = 0 ∨ nn = 1 ∨ nn = 2 ∨ nn = 3 := by omega
  · rw [step 2 (by omega) (by omega) j hj, step 1 (by omega) (by omega) j hj, step 0 (by omega) (by omega) j hj]
  · rw [step 2 (by omega) (by omega) j hj, step 1 (by omega) (by omega) j hj]
  · rw [step 2 (by omega) (by omega) j hj]
  · rfl
theorem insT_nn {n nn : Nat} {x : InsZ} (hn3 : nn ≤ 3) (h : ∀ i, i < 3 → ¬ i < nn → fSl x.op.toNat i = 0) : insT n x nn = insT n x 3 := by
  have step : ∀ i, i < 3 → ¬ i < nn → insT n x (i + 1) = insT n x i := fun i hi hnn => by
    show insT n x i ++ argT n (fSl x.op.toNat i) (fldz x i) = _
    rw [h i hi hnn]; unfold argT; rw [if_pos rfl, List.append_nil]
  obtain rfl | rfl | rfl | rfl : nn = 0 ∨ nn = 1 ∨ nn = 2 ∨ nn = 3 := by omega
  · rw [step 2 (by omega) (by omega), step 1 (by omega) (by omega), step 0 (by omega) (by omega)]
  · rw [step 2 (by omega) (by omega), step 1 (by omega) (by omega)]
  · rw [step 2 (by omega) (by omega)]
  · rfl
/-- what a letter tells of its slot -/
theorem ltr_at {k i : Nat} (hk : k < 14) (hi : i < (fNd k).length) : i < 3 ∧ fSl k i ≠ 0 ∧ (ltr k i = 97 + i ∨ ltr k i = 65 + i) ∧ (ltr k i < 97 ↔ fSl k i = 2) := by
  have h3 := (fNd_len k hk).2
  have h := ((fNd_ltr k hk i (by omega)).1 hi)
  refine ⟨by omega, h.1, ?_, ?_⟩
  · rw [h.2]; split <;> omega
  · rw [h.2]; split
    · simp [*]; omega
    · simp [*]
set_option maxRecDepth 100000 in
set_option maxHeartbeats 8000000 in
theorem rprintA_any (size : Int) (aL : Option Addr) (cL : Nat) (L : List InsZ) (w : World) (hn : L.length ≤ 281474976710656) (hI : LstI w.heap.size w aL cL L) :
    Calls Tryd.prog 5 #[.agg #[.int .i64 size, .slice aL L.length cL]] w fun e w' => (if 4096 < L.length then e = .returned (.tuple #[.string (bs []), .int .i64 9]) else if WrC size L then e = .returned (.tuple #[.string (bs (prT size L)), .int .i64 0]) else e = .returned (.tuple #[.string (bs []), .int .i64 3])) ∧ Below w.heap.size w w' := by
  obtain ⟨i0, hi, hz0, hz1, hz2⟩ := info_parts (show (Tryd.prog.info? 4).map (fun i => (i.zero, i.size, i.bytes)) = some (some (.bool false), 1, 1) by kernel_rfl)
  obtain ⟨W0, hW0⟩ : ∃ W0, W0 = w.alloc (.cells #[.int .i64 size, .slice aL L.length cL] 24) := ⟨_, rfl⟩
  have hb0 : Below w.heap.size w W0 := by rw [hW0]; exact (Below.refl _ _).alloc (Nat.le_refl _) _
  have hs0 : W0.heap[w.heap.size]? = some (.cells #[.int .i64 size, .slice aL L.length cL] 24 (0, 0)) := by rw [hW0]; exact heap_alloc_new w _
  have HB0 := hid hb0
  have hl0 := (Array.getElem?_eq_some_iff.1 hs0).1
  have HC0 : Hid (∀ W, Below W0.heap.size W0 W → W.cell? ⟨w.heap.size, 0, none⟩ = some (.int .i64 size) ∧ W.cell? ⟨w.heap.size, 1, none⟩ = some (.slice aL L.length cL)) := fun W hW => by
    have h1 := (hW.block _ hl0).trans hs0
    exact ⟨by simp [World.cell?, h1], by simp [World.cell?, h1]⟩
  obtain ⟨k0, k1⟩ := HC0.out W0 (Below.refl _ _)
  rw [hW0] at k0 k1
  by_cases hb : 4096 < L.length
  · simp only [if_pos hb]
    have hb' : (4096 : Int) < (L.length : Int) := by omega
    clear hI hs0 hb0
    go_enter Tryd.func5, Tryd.ntmps5
    go_wp2_with fail
    rw [← hW0]
    go_ret2
    exact ⟨rfl, HB0.out⟩
  · simp only [if_neg hb]
    have hb' : ¬ (4096 : Int) < (L.length : Int) := by omega
    have HFS := hid (fun W => rfits11_any size W)
    have HIX : Hid (∀ W, Below w.heap.size w W → ∀ k, k < L.length → ∃ b o, aL = some ⟨b, o, none⟩ ∧ W.cell? ⟨b, o + k * 4, none⟩ = some (.int .i64 (insat L k).op) ∧ W.cell? ⟨b, o + k * 4 + 1, none⟩ = some (.int .i64 (insat L k).a) ∧ W.cell? ⟨b, o + k * 4 + 2, none⟩ = some (.int .i64 (insat L k).b) ∧ W.cell? ⟨b, o + k * 4 + 3, none⟩ = some (.int .i64 (insat L k).c)) := fun W hW k hk => by
      obtain ⟨b, o, h1, _, h3, h4, h5, h6⟩ := (hI.below hW).row k hk
      exact ⟨b, o, h1, h3, h4, h5, h6⟩
    obtain ⟨Q, hQ⟩ : ∃ Q : Ending → Prop, Q = fun e => if WrC size L then e = .returned (.tuple #[.string (bs (prT size L)), .int .i64 0]) else e = .returned (.tuple #[.string (bs []), .int .i64 3]) := ⟨_, rfl⟩
    have HQN : Hid (¬ WrC size L → Q (.returned (.tuple #[.string (bs []), .int .i64 3]))) := fun h => by rw [hQ]; show if WrC size L then _ else _; rw [if_neg h]
    have HQY : Hid (WrC size L → Q (.returned (.tuple #[.string (bs (prT size L)), .int .i64 0]))) := fun h => by rw [hQ]; show if WrC size L then _ else _; rw [if_pos h]
    show Calls _ _ _ w fun e w' => (fun e => if WrC size L then e = .returned (.tuple #[.string (bs (prT size L)), .int .i64 0]) else e = .returned (.tuple #[.string (bs []), .int .i64 3])) e ∧ Below w.heap.size w w'
    rw [← hQ]
    clear hQ
    by_cases hsh : ShN size
    · rw [decide_eq_true hsh] at HFS
      have HNS : Hid (∀ k, k < L.length → ¬ WrI (insat L k) → Q (.returned (.tuple #[.string (bs []), .int .i64 3]))) := fun k hk h => HQN.out fun h2 => h (h2.2 k hk)
      have HND := hid (fun W => needs_any W)
      have HWD := hid (fun W => words_any W)
      have HPR := hid (fun x W => proper_any x W)
      have hn4 : L.length ≤ 4096 := by omega
      have HSH := hid hsh
      obtain ⟨n, hn'⟩ : ∃ n, n = L.length := ⟨_, rfl⟩
      have HNN := hid hn'
      simp only [← hn'] at HC0 HIX HNS hn4 hb' k1 hW0 ⊢
      have hnw : IntKind.i64.wrap ((n : Int) + 1) = ((n + 1 : Nat) : Int) := by rw [IntKind.wrap_i64]; omega
      have HST := hid (mkb_start L)
      clear hI hs0 hb0 hl0 hsh hn' hb hn HQN
      go_enter Tryd.func5, Tryd.ntmps5
      go_wp2_with fail
      rw [← hW0]
      refine (HFS.out _).mono ?_
      rintro e w1 ⟨rfl, rfl⟩
      clear k0 k1 hW0
      go_wp2_with (refine wpList_make_full _ rfl _ _ _ rfl w.heap.size 4 i0 _ 1 Tryd.underlying36 hi hz0 hz1 .i64 .i64 _ _ (n + 1) rfl rfl rfl rfl (by rw [hz2]; omega) (by unfold maxLen; omega) HB0.out.size ?_)
      intro w2 hown hgr
      have hb2 : Below w1.heap.size w1 w2 := ⟨hgr.os, hgr.tape, hgr.output, hgr.size, fun k hk => hgr.block k hk (by simp)⟩
      have HR2 : Hid (BRow w1.heap.size (n + 1) (mkb L 0 0) w2) := brow_start hown rfl HST.out
      have HB2 := hid hb2
      obtain ⟨M, hM⟩ : ∃ M, M = w1.heap.size := ⟨_, rfl⟩
      have HME := hid hM
      rw [← hM] at HR2 ⊢
      clear hown hgr hb2 hM HST
      go_wp2_with fail
      refine (HND.out w2).mono ?_
      rintro e w3 ⟨rfl, hst, hb3⟩
      obtain ⟨A, hA⟩ : ∃ A, A = w2.heap.size := ⟨_, rfl⟩
      rw [← hA] at hst ⊢
      have HA3 := hid hst
      have HR3 : Hid (BRow M (n + 1) (mkb L 0 0) w3) := HR2.out.below hb3 HR2.out.lt
      have HB3 : Hid (Below w1.heap.size w1 w3) := HB2.out.trans (hb3.mono HB2.out.size)
      have HMA : Hid (M ≠ A) := by unfold Hid; have := HR2.out.lt; omega
      clear hst hb3 hA HND HR2 HB2
      go_wp2_with fail
      go_loopw [8] (fun iv wr => ∃ i : Nat, i ≤ n ∧ iv = .int .i64 i ∧ Hid (BRow M (n + 1) (mkb L i 0) wr) ∧ Hid (StT A 14 fNd wr) ∧ Hid (∀ k, k < i → WrI (insat L k)) ∧ Hid (Below w1.heap.size w1 wr)) (fun iv _ => n - (intOf iv).toNat)
      case atStart => exact ⟨0, Nat.zero_le _, rfl, HR3, HA3, fun k hk => absurd hk (Nat.not_lt_zero k), HB3⟩
      case round =>
        obtain ⟨i, hi', rfl, HR, HA, HWI, HB⟩ := hrel
        by_cases hlt : i < n
        · have hlt2 : (i : Int) < (n : Int) := by omega
          have his : IntKind.i64.wrap ((i : Int) + 1) = (i : Int) + 1 := by rw [IntKind.wrap_i64]; omega
          have HOW : Hid (Below w.heap.size w wr) := HB0.out.trans (HB.out.mono HB0.out.size)
          obtain ⟨b, o, rfl, x0, x1, x2, x3⟩ := HIX.out wr HOW.out i hlt
          have cc1 := (HC0.out wr HB.out).2
          have HNI := hid (HNS.out i hlt)
          have HWN : Hid (WrI (insat L i) → ∀ k, k < i + 1 → WrI (insat L k)) := fun h k hk => by
            by_cases e : k = i
            · subst e; exact h
            · exact HWI.out k (by omega)
          have HSM := hid (fun (j : Nat) (hj : j < 3) h => mkb_same (L := L) (m := i) hj n h)
          have HPU : Hid (∀ (j v : Nat), j < 3 → fSl (insat L i).op.toNat j = 2 → fldz (insat L i) j = (v : Int) → ∀ k, mkb L i (j + 1) k = (mkb L i j k || decide (k = v))) := fun j v h1 h2 h5 k => mkb_put h1 h2 h5 k
          have HNX : Hid (∀ nn, nn ≤ 3 → (∀ j, j < 3 → ¬ j < nn → fSl (insat L i).op.toNat j = 0) → ∀ k, k < n + 1 → mkb L (i + 1) 0 k = mkb L i nn k) := fun nn h1 h2 k hk => by rw [← mkb_next, mkb_nn (n := n) h1 h2 k hk]
          have HPX := hid (fun W => HPR.out (insat L i) W)
          generalize mkb L i = MI at *
          obtain ⟨MN, hMN⟩ : ∃ MN, MN = mkb L (i + 1) 0 := ⟨_, rfl⟩
          have HMN := hid hMN
          rw [← hMN] at HNX
          clear hMN
          generalize insat L i = x at *
          obtain ⟨W4, hW4⟩ : ∃ W4, W4 = wr.alloc (.cells #[.int .i64 x.op, .int .i64 x.a, .int .i64 x.b, .int .i64 x.c] 40) := ⟨_, rfl⟩
          have hb4 : Below wr.heap.size wr W4 := by rw [hW4]; exact (Below.refl _ _).alloc (Nat.le_refl _) _
          have hs4 : W4.heap[wr.heap.size]? = some (.cells #[.int .i64 x.op, .int .i64 x.a, .int .i64 x.b, .int .i64 x.c] 40 (0, 0)) := by rw [hW4]; exact heap_alloc_new wr _
          obtain ⟨X, hX⟩ : ∃ X, X = wr.heap.size := ⟨_, rfl⟩
          have HXE := hid hX
          rw [← hX] at hs4
          have HS4 := hid hs4
          have HB4 := hid hb4
          clear hb4 hs4 hX HWI
          by_cases hwx : WrI x
          · obtain ⟨op, hop⟩ : ∃ op : Nat, x.op = (op : Int) := ⟨x.op.toNat, by have := hwx.1; omega⟩
            have hop14 : op < 14 := by have := hwx.1; omega
            have hopt : x.op.toNat = op := by omega
            have hop2 : (op : Int) < 14 := by omega
            rw [decide_eq_true hwx] at HPX
            have HWN2 := hid (HWN.out hwx)
            rw [hopt] at HPU HNX HSM
            rw [hop] at HPX HS4 hW4 x0
            have HXC : Hid (∀ W : World, W.heap[X]? = some (.cells #[.int .i64 (op : Int), .int .i64 x.a, .int .i64 x.b, .int .i64 x.c] 40 (0, 0)) → W.cell? ⟨X, 0, none⟩ = some (.int .i64 (op : Int)) ∧ W.cell? ⟨X, 1, none⟩ = some (.int .i64 x.a) ∧ W.cell? ⟨X, 2, none⟩ = some (.int .i64 x.b) ∧ W.cell? ⟨X, 3, none⟩ = some (.int .i64 x.c)) := fun W h1 => ⟨by simp [World.cell?, h1], by simp [World.cell?, h1], by simp [World.cell?, h1], by simp [World.cell?, h1]⟩
            have HGE : Hid (∀ (c j : Nat) W, j < 3 → (c = 97 + j ∨ c = 65 + j) → Calls Tryd.prog 12 #[.agg #[.int .i64 (op : Int), .int .i64 x.a, .int .i64 x.b, .int .i64 x.c], .int .u8 (c : Int)] W fun e w' => e = .returned (.int .i64 (fldz x j)) ∧ Below W.heap.size W w') := fun c j W h1 h2 => by rw [← hop]; exact get_any x c j W h1 h2
            have HLT := hid (fun (j : Nat) (h : j < (fNd op).length) => ltr_at hop14 h)
            have HNZ : Hid (∀ j, j < 3 → ¬ j < (fNd op).length → fSl op j = 0) := fun j h1 h2 => (fNd_ltr op hop14 j h1).2 h2
            have hn3 := (fNd_len op hop14).2
            have HBY := hid (bs_ltr op)
            have hsz : (bs (fNd op)).size = (fNd op).length := bs_size _
            have HCL : Hid (∀ W, StT A 14 fNd W → W.cell? ⟨A, op, none⟩ = some (.string (bs (fNd op)))) := fun W h => h.at' op hop14
            have HLF := hid hwx.2
            generalize bs (fNd op) = l at *
            generalize (fNd op).length = nn at *
            clear hwx hop hopt hop14 HWN HNI
            go_wp2_with fail
            rw [← hW4, ← HXE.out]
            clear hW4 x0 x1 x2 x3 cc1
            refine (HPX.out W4).mono ?_
            rintro e w6 ⟨rfl, hb6⟩
            have hbr : Below wr.heap.size wr w6 := HB4.out.trans (hb6.mono HB4.out.size)
            have HS6 : Hid (w6.heap[X]? = some (.cells #[.int .i64 (op : Int), .int .i64 x.a, .int .i64 x.b, .int .i64 x.c] 40 (0, 0))) := (hb6.block X (Array.getElem?_eq_some_iff.1 HS4.out).1).trans HS4.out
            have HR6 : Hid (BRow M (n + 1) (MI 0) w6) := HR.out.below hbr HR.out.lt
            have HA6 : Hid (StT A 14 fNd w6) := HA.out.below hbr HA.out.lt
            have HB6 : Hid (Below w1.heap.size w1 w6) := HB.out.trans (hbr.mono HB.out.size)
            have HMX : Hid (M ≠ X ∧ A ≠ X) := ⟨by rw [HXE.out]; have := HR.out.lt; omega, by rw [HXE.out]; have := HA.out.lt; omega⟩
            obtain ⟨y0, _, _, _⟩ := HXC.out w6 HS6.out
            have y4 := HCL.out w6 HA6.out
            clear hb6 hbr HPX HR HA HB HS4 HB4 HOW
            go_wp2_with fail
            clear y0 y4
            go_loopw [12] (fun jv wr => ∃ j : Nat, j ≤ nn ∧ jv = .int .i64 j ∧ Hid (BRow M (n + 1) (MI j) wr) ∧ Hid (StT A 14 fNd wr) ∧ Hid (wr.heap[X]? = some (.cells #[.int .i64 (op : Int), .int .i64 x.a, .int .i64 x.b, .int .i64 x.c] 40 (0, 0))) ∧ Hid (Below w1.heap.size w1 wr)) (fun jv _ => nn - (intOf jv).toNat)
            case atStart => exact ⟨0, Nat.zero_le _, rfl, HR6, HA6, HS6, HB6⟩
            case round =>
              obtain ⟨j, hj', rfl, HR, HA, HXI, HB⟩ := hrel
              by_cases hlj : j < nn
              · have hlj2 : (j : Int) < (nn : Int) := by omega
                have hjs : IntKind.i64.wrap ((j : Int) + 1) = (j : Int) + 1 := by rw [IntKind.wrap_i64]; omega
                have hls : j < l.size := by omega
                have hlz : (j : Int) < (l.size : Int) := by omega
                obtain ⟨hj3, hs0, hcc, hc97⟩ := HLT.out j hlj
                have hby := HBY.out j hls
                generalize ltr op j = c at *
                have HGT := hid (fun W => HGE.out c j W hj3 hcc)
                have HSJ := hid (HSM.out j hj3)
                have HPJ := hid (fun v => HPU.out j v hj3)
                have HC97 := hid hc97
                generalize fldz x j = v at *
                clear hcc hs0 hc97
                go_wp2_with fail
                refine wp_region_held_drew (S := fun W => W.cell? ⟨X, 0, none⟩ = some (.int .i64 (op : Int)) ∧ W.cell? ⟨X, 1, none⟩ = some (.int .i64 x.a) ∧ W.cell? ⟨X, 2, none⟩ = some (.int .i64 x.b) ∧ W.cell? ⟨X, 3, none⟩ = some (.int .i64 x.c)) (by kernel_rfl) (HXC.out wr.drew HXI.out) (fun hHeld => ?_)
                refine wpAnyH_takeU (i := 0) (v := .agg #[.int .i64 (op : Int), .int .i64 x.a, .int .i64 x.b, .int .i64 x.c]) rfl (by kernel_rfl) (by kernel_rfl) (by kernel_rfl) (fun _ _ _ h => h) (by rfl) (fun W hC => by (obtain ⟨y0, y1, y2, y3⟩ := hC); go_simp) hHeld ?_
                simp only [Act.put, List.setIfInBounds_toArray, List.set_cons_zero, List.set_cons_succ]
                refine wpAnyH_takeU (i := 1) (v := .string l) rfl (by kernel_rfl) (by kernel_rfl) (by kernel_rfl) (fun _ _ _ h => h) (by rfl) (fun W hC => by go_simp) hHeld ?_
                simp only [Act.put, List.setIfInBounds_toArray, List.set_cons_zero, List.set_cons_succ]
                refine wpAnyH_takeU (i := 2) (v := .int .i64 (j : Int)) rfl (by kernel_rfl) (by kernel_rfl) (by kernel_rfl) (fun _ _ _ h => h) (by rfl) (fun W hC => by go_simp) hHeld ?_
                simp only [Act.put, List.setIfInBounds_toArray, List.set_cons_zero, List.set_cons_succ]
                refine wpAnyH_takeU (i := 3) (v := .int .u8 (c : Int)) rfl (by kernel_rfl) (by kernel_rfl) (by kernel_rfl) (fun _ _ _ h => h) (by rfl) (fun W hC => by go_simp) hHeld ?_
                simp only [Act.put, List.setIfInBounds_toArray, List.set_cons_zero, List.set_cons_succ]
                refine wpAnyH_ready (rs := [4]) (by kernel_rfl) (by simp) ?_
                refine AllReadyH.consU rfl (fun K' hK' => ?_) AllReadyH.nil
                go_simp
                refine (HGT.out wr.drew).mono ?_
                rintro e w5 ⟨rfl, hb5⟩
                have hb5' : Below wr.heap.size wr w5 := (Below.refl _ _).drew.trans hb5
                have HX5 : Hid (w5.heap[X]? = some (.cells #[.int .i64 (op : Int), .int .i64 x.a, .int .i64 x.b, .int .i64 x.c] 40 (0, 0))) := (hb5'.block X (Array.getElem?_eq_some_iff.1 HXI.out).1).trans HXI.out
                refine hK'.out _ _ (HXC.out w5 HX5.out) (fun hHeld => ?_)
                clear hK' K'
                refine wpAnyH_takeU (i := 5) (v := .int .i64 v) rfl (by kernel_rfl) (by kernel_rfl) (by kernel_rfl) (fun _ _ _ h => h) (by rfl) (fun W hC => by go_simp) hHeld ?_
                simp only [Act.put, List.setIfInBounds_toArray, List.set_cons_zero, List.set_cons_succ]
                refine wpAnyH_done (by kernel_rfl) ?_ _
                clear hHeld
                have HA5 : Hid (StT A 14 fNd w5) := HA.out.below hb5' HA.out.lt
                have HR5 : Hid (BRow M (n + 1) (MI j) w5) := HR.out.below hb5' HR.out.lt
                have HB5 : Hid (Below w1.heap.size w1 w5) := HB.out.trans (hb5'.mono HB.out.size)
                clear hb5 hb5' HR HA HB HXI HGT
                by_cases hs2 : fSl op j = 2
                · have hc7 : (c : Int) < 97 := by have := HC97.out.2 hs2; omega
                  by_cases hv0 : 0 ≤ v
                  · by_cases hv1 : v ≤ (n : Int)
                    · obtain ⟨vn, hvn⟩ : ∃ vn : Nat, v = (vn : Int) := ⟨v.toNat, by omega⟩
                      have hvl : vn < n + 1 := by omega
                      have hvl2 : (vn : Int) < ((n + 1 : Nat) : Int) := by omega
                      have HE := hid (HPJ.out vn hs2 hvn)
                      have k1 := HR5.out.cells vn hvl
                      have k2 := HR5.out.soft vn
                      have HR7 : Hid (BRow M (n + 1) (MI (j + 1)) (w5.setCell ⟨M, vn, none⟩ (.bool true))) := (HR5.out.set hvl).congr (fun k _ => HE.out k)
                      have HB7 : Hid (Below w1.heap.size w1 (w5.setCell ⟨M, vn, none⟩ (.bool true))) := HB5.out.setCell (p := ⟨M, vn, none⟩) (by rw [HME.out]; exact Nat.le_refl _) _
                      have HX7 : Hid ((w5.setCell ⟨M, vn, none⟩ (.bool true)).heap[X]? = some (.cells #[.int .i64 (op : Int), .int .i64 x.a, .int .i64 x.b, .int .i64 x.c] 40 (0, 0))) := by unfold Hid; rw [Below.heap_setCell _ _ _ _ (fun e => HMX.out.1 e.symm)]; exact HX5.out
                      have HA7 : Hid (StT A 14 fNd (w5.setCell ⟨M, vn, none⟩ (.bool true))) := ⟨by simpa using HA5.out.lt, fun k hk => (World.cell?_of_block (w := w5) (a := ⟨A, k, none⟩) (Below.heap_setCell _ _ _ _ (fun e => HMA.out e.symm))).trans (HA5.out.at' k hk)⟩
                      subst hvn
                      clear hs2 HE HR5 HB5 HA5 HX5 HSJ HPJ
                      go_wp2_with fail
                      go_roundw
                      case rel => exact ⟨j + 1, by omega, by go_num, HR7, HA7, HX7, HB7⟩
                      case measure => simp [intOf]; omega
                    · have HR7 : Hid (BRow M (n + 1) (MI (j + 1)) w5) := HR5.out.congr (HSJ.out fun h => hv1 h.2.2)
                      clear hs2 HR5 HSJ HPJ
                      go_wp2_with fail
                      go_roundw
                      case rel => exact ⟨j + 1, by omega, by go_num, HR7, HA5, HX5, HB5⟩
                      case measure => simp [intOf]; omega
                  · have HR7 : Hid (BRow M (n + 1) (MI (j + 1)) w5) := HR5.out.congr (HSJ.out fun h => hv0 h.2.1)
                    clear hs2 HR5 HSJ HPJ
                    go_wp2_with fail
                    go_roundw
                    case rel => exact ⟨j + 1, by omega, by go_num, HR7, HA5, HX5, HB5⟩
                    case measure => simp [intOf]; omega
                · have hc7 : ¬ (c : Int) < 97 := fun h => hs2 (HC97.out.1 (by omega))
                  have HR7 : Hid (BRow M (n + 1) (MI (j + 1)) w5) := HR5.out.congr (HSJ.out fun h => hs2 h.1)
                  clear hs2 HR5 HSJ HPJ
                  go_wp2_with fail
                  go_roundw
                  case rel => exact ⟨j + 1, by omega, by go_num, HR7, HA5, HX5, HB5⟩
                  case measure => simp [intOf]; omega
              · obtain rfl : j = nn := by omega
                have hlj2 : ¬ (j : Int) < (j : Int) := by omega
                have HR7 : Hid (BRow M (n + 1) MN wr) := HR.out.congr (HNX.out j hn3 HNZ.out)
                clear HR
                go_wp2_with fail
                go_roundw
                case rel => exact ⟨i + 1, by omega, by go_num, by rw [← HMN.out]; exact HR7, HA, HWN2, HB⟩
                case measure => simp [intOf]; omega
          · rw [decide_eq_false hwx] at HPX
            have HNO := hid (HNI.out hwx)
            clear hwx HWN HNI
            go_wp2_with fail
            rw [← hW4, ← HXE.out]
            clear hW4 x0 x1 x2 x3 cc1
            refine (HPX.out W4).mono ?_
            rintro e w6 ⟨rfl, hb6⟩
            have HB6 : Hid (Below w.heap.size w w6) := HOW.out.trans ((HB4.out.trans (hb6.mono HB4.out.size)).mono HOW.out.size)
            clear hb6
            go_wp2_with fail
            go_ret2
            exact ⟨HNO.out, HB6.out⟩
        · obtain rfl : n = i := by omega
          have hlt2 : ¬ (n : Int) < (n : Int) := by omega
          have hwc : WrC size L := ⟨HSH.out, fun k hk => HWI.out k (by rw [HNN.out]; exact hk)⟩
          have HYY := hid (HQY.out hwc)
          have hnL : n = L.length := HNN.out
          have HDS : Hid (∀ W, Calls Tryd.prog 13 #[.int .i64 size] W fun e w' => e = .returned (.string (bs (Lib.itoa size))) ∧ w' = W) := fun W => digits_any size W (by have := hwc.1.1; omega) (by have := hwc.1.2; omega)
          have HDK : Hid (∀ k : Nat, k ≤ n → ∀ W, Calls Tryd.prog 13 #[.int .i64 (k : Int)] W fun e w' => e = .returned (.string (bs (Lib.itoa (k : Int)))) ∧ w' = W) := fun k hk W => digits_any (k : Int) W (by omega) (by omega)
          have HDV : Hid (∀ k j, k < n → j < 3 → ∀ W, Calls Tryd.prog 13 #[.int .i64 (fldz (insat L k) j)] W fun e w' => e = .returned (.string (bs (Lib.itoa (fldz (insat L k) j)))) ∧ w' = W) := fun k j hk hj W => by
            have h := ((hwc.2 k (by omega)).2 j hj).2
            unfold ShN at h
            exact digits_any _ W (by omega) (by omega)
          have HZK : Hid (∀ k : Nat, k ≤ n → (bs (Lib.itoa (k : Int))).size ≤ 30) := fun k hk => by rw [bs_size]; have := itz_len (k : Int) (.inr (by omega)); omega
          have HZV : Hid (∀ k j, k < n → j < 3 → (bs (Lib.itoa (fldz (insat L k) j))).size ≤ 30) := fun k j hk hj => by rw [bs_size]; have := itz_len _ (.inl ((hwc.2 k (by omega)).2 j hj).2); omega
          have hzs : (bs (Lib.itoa size)).size ≤ 30 := by rw [bs_size]; have := itz_len size (.inl hwc.1); omega
          obtain ⟨Bd, hBd⟩ : ∃ Bd : Nat → ByteArray, Bd = fun k => bs (bodT size L k) := ⟨_, rfl⟩
          obtain ⟨Bl, hBl⟩ : ∃ Bl : Nat → ByteArray, Bl = fun k => bs (bodT size L k ++ lnT L k) := ⟨_, rfl⟩
          have HD0 : Hid (Bd 0 = (⟨#[115, 105, 122, 101, 32]⟩ : ByteArray) ++ bs (Lib.itoa size) ++ (⟨#[10]⟩ : ByteArray)) := by
            unfold Hid
            rw [hBd]
            show bs ([115, 105, 122, 101, 32] ++ Lib.itoa size ++ [10]) = _
            rw [← bs_app, ← bs_app]
            rfl
          have HL0 : Hid (∀ k, mkb L n 0 k = false → Bl k = Bd k) := fun k h => by
            rw [hBl, hBd]
            show bs (bodT size L k ++ lnT L k) = bs (bodT size L k)
            unfold lnT
            rw [← hnL, h]
            simp
          have HL1 : Hid (∀ k, mkb L n 0 k = true → Bl k = Bd k ++ (⟨#[108]⟩ : ByteArray) ++ bs (Lib.itoa (k : Int)) ++ (⟨#[58, 10]⟩ : ByteArray)) := fun k h => by
            rw [hBl, hBd]
            show bs (bodT size L k ++ lnT L k) = bs (bodT size L k) ++ bs [108] ++ bs (Lib.itoa (k : Int)) ++ bs [58, 10]
            unfold lnT
            rw [← hnL, h, bs_app, bs_app, bs_app]
            congr 1
            simp [lblT]
          have HPE : Hid (bs (prT size L) = Bl n) := by unfold Hid; rw [hBl, hnL]; rfl
          have HZB : Hid (∀ k, k ≤ n → (Bd k).size ≤ 500000 ∧ (Bl k).size ≤ 500030) := fun k hk => by
            rw [hBd, hBl]
            show (bs (bodT size L k)).size ≤ 500000 ∧ (bs (bodT size L k ++ lnT L k)).size ≤ 500030
            rw [bs_size, bs_size, List.length_append]
            have h1 := bodT_len size L hwc (by omega) k (by omega)
            have h2 := lnT_len L k (by omega)
            omega
          have HXX : Hid (∀ k, k < n → ∃ BX : Nat → ByteArray, BX 0 = Bl k ++ bs (fWd (insat L k).op.toNat) ∧ (∀ j, j ≤ 3 → (BX j).size ≤ 600000) ∧
              (∀ j, fSl (insat L k).op.toNat j ≠ 0 → fSl (insat L k).op.toNat j = 2 → ToL n (fldz (insat L k) j) → BX (j + 1) = BX j ++ (⟨#[32]⟩ : ByteArray) ++ ((⟨#[108]⟩ : ByteArray) ++ bs (Lib.itoa (fldz (insat L k) j)))) ∧
              (∀ j, fSl (insat L k).op.toNat j ≠ 0 → ¬ (fSl (insat L k).op.toNat j = 2 ∧ ToL n (fldz (insat L k) j)) → BX (j + 1) = BX j ++ (⟨#[32]⟩ : ByteArray) ++ bs (Lib.itoa (fldz (insat L k) j))) ∧
              (∀ nn, nn ≤ 3 → (∀ j, j < 3 → ¬ j < nn → fSl (insat L k).op.toNat j = 0) → Bd (k + 1) = BX nn ++ (⟨#[10]⟩ : ByteArray))) := fun k hk => by
            refine ⟨fun j => bs (bodT size L k ++ lnT L k ++ insT n (insat L k) j), ?_, fun j hj => ?_, fun j h0 h2 h5 => ?_, fun j h0 h2 => ?_, fun nn h1 h2 => ?_⟩
            · rw [hBl]
              exact (bs_app _ _).symm
            · show (bs _).size ≤ _
              rw [bs_size, List.length_append, List.length_append]
              have h1 := bodT_len size L hwc (by omega) k (by omega)
              have h2 := lnT_len L k (by omega)
              have h5 := insT_len n (insat L k) (hwc.2 k (by omega)).2 j hj
              omega
            · show bs (bodT size L k ++ lnT L k ++ (insT n (insat L k) j ++ argT n (fSl (insat L k).op.toNat j) (fldz (insat L k) j))) = bs _ ++ bs [32] ++ (bs [108] ++ bs _)
              unfold argT
              rw [if_neg h0, if_pos ⟨h2, h5⟩, bs_app, bs_app, bs_app]
              congr 1
              simp [lblT]
            · show bs (bodT size L k ++ lnT L k ++ (insT n (insat L k) j ++ argT n (fSl (insat L k).op.toNat j) (fldz (insat L k) j))) = bs _ ++ bs [32] ++ bs _
              unfold argT
              rw [if_neg h0, if_neg h2, bs_app, bs_app]
              congr 1
              simp
            · rw [hBd]
              show bs (bodT size L k ++ lnT L k ++ (insT L.length (insat L k) 3 ++ [10])) = bs (bodT size L k ++ lnT L k ++ insT n (insat L k) nn) ++ bs [10]
              rw [insT_nn h1 h2, hnL, bs_app]
              congr 1
              simp
          have HIC : Hid (∀ k, k < n → WrI (insat L k)) := HWI.out
          rw [HPE.out] at HYY
          obtain ⟨MM, hMM⟩ : ∃ MM, MM = mkb L n 0 := ⟨_, rfl⟩
          rw [← hMM] at HL0 HL1 HR
          have cc1 := (HC0.out wr HB.out).1
          clear hwc hnL hBd hBl hMM HPE HNS HQY HWI HNN HSH
          generalize bs (Lib.itoa size) = SZ at *
          go_wp2_with fail
          clear cc1
          refine (HDS.out wr).mono ?_
          rintro e w4 ⟨rfl, rfl⟩
          go_wp2_with fail
          rw [← HD0.out]
          refine (HWD.out w4).mono ?_
          rintro e w5 ⟨rfl, hst, hb5⟩
          obtain ⟨D, hD⟩ : ∃ D, D = w4.heap.size := ⟨_, rfl⟩
          rw [← hD] at hst ⊢
          have HD5 := hid hst
          have HR5 : Hid (BRow M (n + 1) MM w5) := HR.out.below hb5 HR.out.lt
          have HA5 : Hid (StT A 14 fNd w5) := HA.out.below hb5 HA.out.lt
          have HB5 : Hid (Below w1.heap.size w1 w5) := HB.out.trans (hb5.mono HB.out.size)
          clear hst hb5 hD HR HA HB HDS HWD HD0
          go_wp2_with fail
          go_loopw [15, 17] (fun sv iv wr => ∃ k : Nat, k ≤ n ∧ iv = .int .i64 k ∧ sv = .string (Bd k) ∧ Hid (BRow M (n + 1) MM wr) ∧ Hid (StT A 14 fNd wr) ∧ Hid (StT D 14 fWd wr) ∧ Hid (Below w1.heap.size w1 wr)) (fun _ iv _ => n + 1 - (intOf iv).toNat)
          case atStart => exact ⟨0, Nat.zero_le _, rfl, rfl, HR5, HA5, HD5, HB5⟩
          case round =>
            obtain ⟨i, hi', rfl, rfl, HR, HA, HD, HB⟩ := hrel
            have hle : (i : Int) ≤ (n : Int) := by omega
            have hle1 : (i : Int) < ((n + 1 : Nat) : Int) := by omega
            have his : IntKind.i64.wrap ((i : Int) + 1) = (i : Int) + 1 := by rw [IntKind.wrap_i64]; omega
            have HOW : Hid (Below w.heap.size w wr) := HB0.out.trans (HB.out.mono HB0.out.size)
            have q1 := HR.out.cells i (by omega)
            have hzk := HZK.out i hi'
            have hzb := HZB.out i hi'
            have HDI := hid (HDK.out i hi')
            have HLF := hid (HL0.out i)
            have HLT1 := hid (HL1.out i)
            by_cases hlt : i < n
            · have hlt2 : (i : Int) < (n : Int) := by omega
              have hne : ((i : Int) == (n : Int)) = false := by rw [beq_eq_false_iff_ne]; omega
              obtain ⟨b, o, rfl, x0, x1, x2, x3⟩ := HIX.out wr HOW.out i hlt
              have cc1 := (HC0.out wr HB.out).2
              obtain ⟨BX, hX0, hZX, hXA, hXB, hXN⟩ := HXX.out i hlt
              have hwx := HIC.out i hlt
              have HDG := hid (fun j hj => HDV.out i j hlt hj)
              have HZD := hid (fun j hj => HZV.out i j hlt hj)
              obtain ⟨BN, hBN⟩ : ∃ BN, BN = Bd (i + 1) := ⟨_, rfl⟩
              have HBN := hid hBN
              rw [← hBN] at hXN
              generalize insat L i = x at *
              obtain ⟨op, hop⟩ : ∃ op : Nat, x.op = (op : Int) := ⟨x.op.toNat, by have := hwx.1; omega⟩
              have hop14 : op < 14 := by have := hwx.1; omega
              have hopt : x.op.toNat = op := by omega
              have hop2 : (op : Int) < 14 := by omega
              rw [hopt] at hX0 hXA hXB hXN
              rw [hop] at x0
              obtain ⟨W4, hW4⟩ : ∃ W4, W4 = wr.alloc (.cells #[.int .i64 (op : Int), .int .i64 x.a, .int .i64 x.b, .int .i64 x.c] 40) := ⟨_, rfl⟩
              have hb4 : Below wr.heap.size wr W4 := by rw [hW4]; exact (Below.refl _ _).alloc (Nat.le_refl _) _
              have hs4 : W4.heap[wr.heap.size]? = some (.cells #[.int .i64 (op : Int), .int .i64 x.a, .int .i64 x.b, .int .i64 x.c] 40 (0, 0)) := by rw [hW4]; exact heap_alloc_new wr _
              obtain ⟨X, hX⟩ : ∃ X, X = wr.heap.size := ⟨_, rfl⟩
              have HXE := hid hX
              rw [← hX] at hs4
              have HS4 := hid hs4
              have HR4 : Hid (BRow M (n + 1) MM W4) := HR.out.below hb4 HR.out.lt
              have HA4 : Hid (StT A 14 fNd W4) := HA.out.below hb4 HA.out.lt
              have HD4 : Hid (StT D 14 fWd W4) := HD.out.below hb4 HD.out.lt
              have HB4 : Hid (Below w1.heap.size w1 W4) := HB.out.trans (hb4.mono HB.out.size)
              have HXC : Hid (∀ W : World, W.heap[X]? = some (.cells #[.int .i64 (op : Int), .int .i64 x.a, .int .i64 x.b, .int .i64 x.c] 40 (0, 0)) → W.cell? ⟨X, 0, none⟩ = some (.int .i64 (op : Int)) ∧ W.cell? ⟨X, 1, none⟩ = some (.int .i64 x.a) ∧ W.cell? ⟨X, 2, none⟩ = some (.int .i64 x.b) ∧ W.cell? ⟨X, 3, none⟩ = some (.int .i64 x.c)) := fun W h1 => ⟨by simp [World.cell?, h1], by simp [World.cell?, h1], by simp [World.cell?, h1], by simp [World.cell?, h1]⟩
              have HGE : Hid (∀ (c j : Nat) W, j < 3 → (c = 97 + j ∨ c = 65 + j) → Calls Tryd.prog 12 #[.agg #[.int .i64 (op : Int), .int .i64 x.a, .int .i64 x.b, .int .i64 x.c], .int .u8 (c : Int)] W fun e w' => e = .returned (.int .i64 (fldz x j)) ∧ Below W.heap.size W w') := fun c j W h1 h2 => by rw [← hop]; exact get_any x c j W h1 h2
              have HLT := hid (fun (j : Nat) (h : j < (fNd op).length) => ltr_at hop14 h)
              have hn3 := (fNd_len op hop14).2
              have HXN : Hid (BN = BX (fNd op).length ++ (⟨#[10]⟩ : ByteArray)) := hXN _ hn3 (fun j h1 h2 => (fNd_ltr op hop14 j h1).2 h2)
              rw [hBN] at HXN
              have HBY := hid (bs_ltr op)
              have hsz : (bs (fNd op)).size = (fNd op).length := bs_size _
              have HX0 := hid hX0
              have HZX := hid hZX
              have HBA : Hid (∀ j, fSl op j ≠ 0 → fSl op j = 2 → ToL n (fldz x j) → BX (j + 1) = BX j ++ (⟨#[32]⟩ : ByteArray) ++ ((⟨#[108]⟩ : ByteArray) ++ bs (Lib.itoa (fldz x j)))) := hXA
              have HBB : Hid (∀ j, fSl op j ≠ 0 → ¬ (fSl op j = 2 ∧ ToL n (fldz x j)) → BX (j + 1) = BX j ++ (⟨#[32]⟩ : ByteArray) ++ bs (Lib.itoa (fldz x j))) := hXB
              obtain ⟨y0, _, _, _⟩ := HXC.out W4 HS4.out
              have y4 := HA4.out.at' op hop14
              have y5 := HD4.out.at' op hop14
              have hzw : (bs (fWd op)).size ≤ 4 := by rw [bs_size]; exact fWd_len op
              rw [hW4] at y0 y4 y5
              rw [HXE.out] at y0
              generalize bs (fNd op) = l at *
              generalize (fNd op).length = nn at *
              generalize bs (fWd op) = SW at *
              clear hwx hop hopt hop14 hX0 hZX hXA hXB hXN hb4 hs4 hX hBN HR HA HD HB HIC
              have hzl := hzb.2
              have hzd := hzb.1
              clear hzb
              cases hMk : MM i with
              | false =>
                rw [hMk] at q1
                have hBl := HLF.out hMk
                rw [hBl] at HX0
                clear hMk HLF HLT1 HDI hBl hzl hzk
                generalize Bd i = BI at *
                go_wp2_with fail
                rw [← hW4, ← HXE.out]
                clear hW4 x0 x1 x2 x3 y0 y4 y5
                rw [← HX0.out]
                go_loopw [15, 20] (fun sv jv wr => ∃ j : Nat, j ≤ nn ∧ jv = .int .i64 j ∧ sv = .string (BX j) ∧ Hid (BRow M (n + 1) MM wr) ∧ Hid (StT A 14 fNd wr) ∧ Hid (StT D 14 fWd wr) ∧ Hid (wr.heap[X]? = some (.cells #[.int .i64 (op : Int), .int .i64 x.a, .int .i64 x.b, .int .i64 x.c] 40 (0, 0))) ∧ Hid (Below w1.heap.size w1 wr)) (fun _ jv _ => nn - (intOf jv).toNat)
                case atStart => exact ⟨0, Nat.zero_le _, rfl, rfl, HR4, HA4, HD4, HS4, HB4⟩
                case round =>
                  obtain ⟨j, hj', rfl, rfl, HR, HA, HD, HXI, HB⟩ := hrel
                  by_cases hlj : j < nn
                  · have hlj2 : (j : Int) < (nn : Int) := by omega
                    have hjs : IntKind.i64.wrap ((j : Int) + 1) = (j : Int) + 1 := by rw [IntKind.wrap_i64]; omega
                    have hls : j < l.size := by omega
                    have hlz : (j : Int) < (l.size : Int) := by omega
                    obtain ⟨hj3, hs0, hcc, hc97⟩ := HLT.out j hlj
                    have hby := HBY.out j hls
                    have HXA := hid (HBA.out j hs0)
                    have HXB := hid (HBB.out j hs0)
                    have HDJ := hid (HDG.out j hj3)
                    have hz1 := HZX.out j (by omega)
                    have hz2 := HZD.out j hj3
                    generalize ltr op j = c at *
                    have HGT := hid (fun W => HGE.out c j W hj3 hcc)
                    have HC97 := hid hc97
                    obtain ⟨SD, hSD⟩ : ∃ SD, SD = bs (Lib.itoa (fldz x j)) := ⟨_, rfl⟩
                    rw [← hSD] at HXA HXB HDJ hz2
                    clear hSD
                    generalize fldz x j = v at *
                    obtain ⟨B0, hB0⟩ : ∃ B0, B0 = BX j := ⟨_, rfl⟩
                    rw [← hB0] at HXA HXB hz1 ⊢
                    clear hcc hs0 hc97 hB0
                    go_wp2_with fail
                    refine wp_region_held_drew (S := fun W => W.cell? ⟨X, 0, none⟩ = some (.int .i64 (op : Int)) ∧ W.cell? ⟨X, 1, none⟩ = some (.int .i64 x.a) ∧ W.cell? ⟨X, 2, none⟩ = some (.int .i64 x.b) ∧ W.cell? ⟨X, 3, none⟩ = some (.int .i64 x.c)) (by kernel_rfl) (HXC.out wr.drew HXI.out) (fun hHeld => ?_)
                    refine wpAnyH_takeU (i := 0) (v := .agg #[.int .i64 (op : Int), .int .i64 x.a, .int .i64 x.b, .int .i64 x.c]) rfl (by kernel_rfl) (by kernel_rfl) (by kernel_rfl) (fun _ _ _ h => h) (by rfl) (fun W hC => by (obtain ⟨y0, y1, y2, y3⟩ := hC); go_simp) hHeld ?_
                    simp only [Act.put, List.setIfInBounds_toArray, List.set_cons_zero, List.set_cons_succ]
                    refine wpAnyH_takeU (i := 1) (v := .string l) rfl (by kernel_rfl) (by kernel_rfl) (by kernel_rfl) (fun _ _ _ h => h) (by rfl) (fun W hC => by go_simp) hHeld ?_
                    simp only [Act.put, List.setIfInBounds_toArray, List.set_cons_zero, List.set_cons_succ]
                    refine wpAnyH_takeU (i := 2) (v := .int .i64 (j : Int)) rfl (by kernel_rfl) (by kernel_rfl) (by kernel_rfl) (fun _ _ _ h => h) (by rfl) (fun W hC => by go_simp) hHeld ?_
                    simp only [Act.put, List.setIfInBounds_toArray, List.set_cons_zero, List.set_cons_succ]
                    refine wpAnyH_takeU (i := 3) (v := .int .u8 (c : Int)) rfl (by kernel_rfl) (by kernel_rfl) (by kernel_rfl) (fun _ _ _ h => h) (by rfl) (fun W hC => by go_simp) hHeld ?_
                    simp only [Act.put, List.setIfInBounds_toArray, List.set_cons_zero, List.set_cons_succ]
                    refine wpAnyH_ready (rs := [4]) (by kernel_rfl) (by simp) ?_
                    refine AllReadyH.consU rfl (fun K' hK' => ?_) AllReadyH.nil
                    go_simp
                    refine (HGT.out wr.drew).mono ?_
                    rintro e w5 ⟨rfl, hb5⟩
                    have hb5' : Below wr.heap.size wr w5 := (Below.refl _ _).drew.trans hb5
                    have HX5 : Hid (w5.heap[X]? = some (.cells #[.int .i64 (op : Int), .int .i64 x.a, .int .i64 x.b, .int .i64 x.c] 40 (0, 0))) := (hb5'.block X (Array.getElem?_eq_some_iff.1 HXI.out).1).trans HXI.out
                    refine hK'.out _ _ (HXC.out w5 HX5.out) (fun hHeld => ?_)
                    clear hK' K'
                    refine wpAnyH_takeU (i := 5) (v := .int .i64 v) rfl (by kernel_rfl) (by kernel_rfl) (by kernel_rfl) (fun _ _ _ h => h) (by rfl) (fun W hC => by go_simp) hHeld ?_
                    simp only [Act.put, List.setIfInBounds_toArray, List.set_cons_zero, List.set_cons_succ]
                    refine wpAnyH_done (by kernel_rfl) ?_ _
                    clear hHeld
                    have HA5 : Hid (StT A 14 fNd w5) := HA.out.below hb5' HA.out.lt
                    have HD5 : Hid (StT D 14 fWd w5) := HD.out.below hb5' HD.out.lt
                    have HR5 : Hid (BRow M (n + 1) MM w5) := HR.out.below hb5' HR.out.lt
                    have HB5 : Hid (Below w1.heap.size w1 w5) := HB.out.trans (hb5'.mono HB.out.size)
                    clear hb5 hb5' HR HA HD HB HXI HGT
                    go_wp2_with fail
                    refine (HDJ.out w5).mono ?_
                    rintro e w7 ⟨rfl, rfl⟩
                    by_cases hs2 : fSl op j = 2
                    · have hc7 : (c : Int) < 97 := by have := HC97.out.2 hs2; omega
                      by_cases hv0 : 0 ≤ v
                      · by_cases hv1 : v ≤ (n : Int)
                        · have HE := hid (HXA.out hs2 ⟨hv0, hv1⟩)
                          clear hs2 HXA HXB
                          go_wp2_with fail
                          go_roundw
                          case rel => exact ⟨j + 1, by omega, by go_num, congrArg Value.string HE.out.symm, HR5, HA5, HD5, HX5, HB5⟩
                          case measure => simp [intOf]; omega
                        · have HE := hid (HXB.out fun h => hv1 h.2.2)
                          clear hs2 HXA HXB
                          go_wp2_with fail
                          go_roundw
                          case rel => exact ⟨j + 1, by omega, by go_num, congrArg Value.string HE.out.symm, HR5, HA5, HD5, HX5, HB5⟩
                          case measure => simp [intOf]; omega
                      · have HE := hid (HXB.out fun h => hv0 h.2.1)
                        clear hs2 HXA HXB
                        go_wp2_with fail
                        go_roundw
                        case rel => exact ⟨j + 1, by omega, by go_num, congrArg Value.string HE.out.symm, HR5, HA5, HD5, HX5, HB5⟩
                        case measure => simp [intOf]; omega
                    · have hc7 : ¬ (c : Int) < 97 := fun h => hs2 (HC97.out.1 (by omega))
                      have HE := hid (HXB.out fun h => hs2 h.1)
                      clear hs2 HXA HXB
                      go_wp2_with fail
                      go_roundw
                      case rel => exact ⟨j + 1, by omega, by go_num, congrArg Value.string HE.out.symm, HR5, HA5, HD5, HX5, HB5⟩
                      case measure => simp [intOf]; omega
                  · obtain rfl : j = nn := by omega
                    have hlj2 : ¬ (j : Int) < (j : Int) := by omega
                    have HE := hid HXN.out
                    have hz1 := HZX.out j (by omega)
                    obtain ⟨B0, hB0⟩ : ∃ B0, B0 = BX j := ⟨_, rfl⟩
                    rw [← hB0] at HE hz1 ⊢
                    clear hB0
                    go_wp2_with fail
                    go_roundw
                    case rel => exact ⟨i + 1, by omega, by go_num, congrArg Value.string HE.out.symm, HR, HA, HD, HB⟩
                    case measure => simp [intOf]; omega
              | true =>
                rw [hMk] at q1
                have hBl := HLT1.out hMk
                rw [hBl] at HX0
                clear hMk HLF HLT1 hBl hzl
                generalize Bd i = BI at *
                generalize bs (Lib.itoa (i : Int)) = SI at *
                go_wp2_with fail
                refine (HDI.out wr).mono ?_
                rintro e w9 ⟨rfl, rfl⟩
                clear HDI
                go_wp2_with fail
                rw [← hW4, ← HXE.out]
                clear hW4 x0 x1 x2 x3 y0 y4 y5
                rw [← HX0.out]
                go_loopw [15, 20] (fun sv jv wr => ∃ j : Nat, j ≤ nn ∧ jv = .int .i64 j ∧ sv = .string (BX j) ∧ Hid (BRow M (n + 1) MM wr) ∧ Hid (StT A 14 fNd wr) ∧ Hid (StT D 14 fWd wr) ∧ Hid (wr.heap[X]? = some (.cells #[.int .i64 (op : Int), .int .i64 x.a, .int .i64 x.b, .int .i64 x.c] 40 (0, 0))) ∧ Hid (Below w1.heap.size w1 wr)) (fun _ jv _ => nn - (intOf jv).toNat)
                case atStart => exact ⟨0, Nat.zero_le _, rfl, rfl, HR4, HA4, HD4, HS4, HB4⟩
                case round =>
                  obtain ⟨j, hj', rfl, rfl, HR, HA, HD, HXI, HB⟩ := hrel
                  by_cases hlj : j < nn
                  · have hlj2 : (j : Int) < (nn : Int) := by omega
                    have hjs : IntKind.i64.wrap ((j : Int) + 1) = (j : Int) + 1 := by rw [IntKind.wrap_i64]; omega
                    have hls : j < l.size := by omega
                    have hlz : (j : Int) < (l.size : Int) := by omega
                    obtain ⟨hj3, hs0, hcc, hc97⟩ := HLT.out j hlj
                    have hby := HBY.out j hls
                    have HXA := hid (HBA.out j hs0)
                    have HXB := hid (HBB.out j hs0)
                    have HDJ := hid (HDG.out j hj3)
                    have hz1 := HZX.out j (by omega)
                    have hz2 := HZD.out j hj3
                    generalize ltr op j = c at *
                    have HGT := hid (fun W => HGE.out c j W hj3 hcc)
                    have HC97 := hid hc97
                    obtain ⟨SD, hSD⟩ : ∃ SD, SD = bs (Lib.itoa (fldz x j)) := ⟨_, rfl⟩
                    rw [← hSD] at HXA HXB HDJ hz2
                    clear hSD
                    generalize fldz x j = v at *
                    obtain ⟨B0, hB0⟩ : ∃ B0, B0 = BX j := ⟨_, rfl⟩
                    rw [← hB0] at HXA HXB hz1 ⊢
                    clear hcc hs0 hc97 hB0
                    go_wp2_with fail
                    refine wp_region_held_drew (S := fun W => W.cell? ⟨X, 0, none⟩ = some (.int .i64 (op : Int)) ∧ W.cell? ⟨X, 1, none⟩ = some (.int .i64 x.a) ∧ W.cell? ⟨X, 2, none⟩ = some (.int .i64 x.b) ∧ W.cell? ⟨X, 3, none⟩ = some (.int .i64 x.c)) (by kernel_rfl) (HXC.out wr.drew HXI.out) (fun hHeld => ?_)
                    refine wpAnyH_takeU (i := 0) (v := .agg #[.int .i64 (op : Int), .int .i64 x.a, .int .i64 x.b, .int .i64 x.c]) rfl (by kernel_rfl) (by kernel_rfl) (by kernel_rfl) (fun _ _ _ h => h) (by rfl) (fun W hC => by (obtain ⟨y0, y1, y2, y3⟩ := hC); go_simp) hHeld ?_
                    simp only [Act.put, List.setIfInBounds_toArray, List.set_cons_zero, List.set_cons_succ]
                    refine wpAnyH_takeU (i := 1) (v := .string l) rfl (by kernel_rfl) (by kernel_rfl) (by kernel_rfl) (fun _ _ _ h => h) (by rfl) (fun W hC => by go_simp) hHeld ?_
                    simp only [Act.put, List.setIfInBounds_toArray, List.set_cons_zero, List.set_cons_succ]
                    refine wpAnyH_takeU (i := 2) (v := .int .i64 (j : Int)) rfl (by kernel_rfl) (by kernel_rfl) (by kernel_rfl) (fun _ _ _ h => h) (by rfl) (fun W hC => by go_simp) hHeld ?_
                    simp only [Act.put, List.setIfInBounds_toArray, List.set_cons_zero, List.set_cons_succ]
                    refine wpAnyH_takeU (i := 3) (v := .int .u8 (c : Int)) rfl (by kernel_rfl) (by kernel_rfl) (by kernel_rfl) (fun _ _ _ h => h) (by rfl) (fun W hC => by go_simp) hHeld ?_
                    simp only [Act.put, List.setIfInBounds_toArray, List.set_cons_zero, List.set_cons_succ]
                    refine wpAnyH_ready (rs := [4]) (by kernel_rfl) (by simp) ?_
                    refine AllReadyH.consU rfl (fun K' hK' => ?_) AllReadyH.nil
                    go_simp
                    refine (HGT.out wr.drew).mono ?_
                    rintro e w5 ⟨rfl, hb5⟩
                    have hb5' : Below wr.heap.size wr w5 := (Below.refl _ _).drew.trans hb5
                    have HX5 : Hid (w5.heap[X]? = some (.cells #[.int .i64 (op : Int), .int .i64 x.a, .int .i64 x.b, .int .i64 x.c] 40 (0, 0))) := (hb5'.block X (Array.getElem?_eq_some_iff.1 HXI.out).1).trans HXI.out
                    refine hK'.out _ _ (HXC.out w5 HX5.out) (fun hHeld => ?_)
                    clear hK' K'
                    refine wpAnyH_takeU (i := 5) (v := .int .i64 v) rfl (by kernel_rfl) (by kernel_rfl) (by kernel_rfl) (fun _ _ _ h => h) (by rfl) (fun W hC => by go_simp) hHeld ?_
                    simp only [Act.put, List.setIfInBounds_toArray, List.set_cons_zero, List.set_cons_succ]
                    refine wpAnyH_done (by kernel_rfl) ?_ _
                    clear hHeld
                    have HA5 : Hid (StT A 14 fNd w5) := HA.out.below hb5' HA.out.lt
                    have HD5 : Hid (StT D 14 fWd w5) := HD.out.below hb5' HD.out.lt
                    have HR5 : Hid (BRow M (n + 1) MM w5) := HR.out.below hb5' HR.out.lt
                    have HB5 : Hid (Below w1.heap.size w1 w5) := HB.out.trans (hb5'.mono HB.out.size)
                    clear hb5 hb5' HR HA HD HB HXI HGT
                    go_wp2_with fail
                    refine (HDJ.out w5).mono ?_
                    rintro e w7 ⟨rfl, rfl⟩
                    by_cases hs2 : fSl op j = 2
                    · have hc7 : (c : Int) < 97 := by have := HC97.out.2 hs2; omega
                      by_cases hv0 : 0 ≤ v
                      · by_cases hv1 : v ≤ (n : Int)
                        · have HE := hid (HXA.out hs2 ⟨hv0, hv1⟩)
                          clear hs2 HXA HXB
                          go_wp2_with fail
                          go_roundw
                          case rel => exact ⟨j + 1, by omega, by go_num, congrArg Value.string HE.out.symm, HR5, HA5, HD5, HX5, HB5⟩
                          case measure => simp [intOf]; omega
                        · have HE := hid (HXB.out fun h => hv1 h.2.2)
                          clear hs2 HXA HXB
                          go_wp2_with fail
                          go_roundw
                          case rel => exact ⟨j + 1, by omega, by go_num, congrArg Value.string HE.out.symm, HR5, HA5, HD5, HX5, HB5⟩
                          case measure => simp [intOf]; omega
                      · have HE := hid (HXB.out fun h => hv0 h.2.1)
                        clear hs2 HXA HXB
                        go_wp2_with fail
                        go_roundw
                        case rel => exact ⟨j + 1, by omega, by go_num, congrArg Value.string HE.out.symm, HR5, HA5, HD5, HX5, HB5⟩
                        case measure => simp [intOf]; omega
                    · have hc7 : ¬ (c : Int) < 97 := fun h => hs2 (HC97.out.1 (by omega))
                      have HE := hid (HXB.out fun h => hs2 h.1)
                      clear hs2 HXA HXB
                      go_wp2_with fail
                      go_roundw
                      case rel => exact ⟨j + 1, by omega, by go_num, congrArg Value.string HE.out.symm, HR5, HA5, HD5, HX5, HB5⟩
                      case measure => simp [intOf]; omega
                  · obtain rfl : j = nn := by omega
                    have hlj2 : ¬ (j : Int) < (j : Int) := by omega
                    have HE := hid HXN.out
                    have hz1 := HZX.out j (by omega)
                    obtain ⟨B0, hB0⟩ : ∃ B0, B0 = BX j := ⟨_, rfl⟩
                    rw [← hB0] at HE hz1 ⊢
                    clear hB0
                    go_wp2_with fail
                    go_roundw
                    case rel => exact ⟨i + 1, by omega, by go_num, congrArg Value.string HE.out.symm, HR, HA, HD, HB⟩
                    case measure => simp [intOf]; omega
            · obtain rfl : i = n := by omega
              have hne : ((i : Int) == (i : Int)) = true := by simp
              cases hMk : MM i with
              | false =>
                rw [hMk] at q1
                have HBL := hid (HLF.out hMk)
                rw [HBL.out] at HYY
                clear hMk HLF HLT1 HDI HBL
                generalize Bd i = BI at *
                go_wp2_with fail
                go_ret2
                exact ⟨HYY.out, HOW.out⟩
              | true =>
                rw [hMk] at q1
                have HBL := hid (HLT1.out hMk)
                rw [HBL.out] at HYY
                have hzd := hzb.1
                clear hMk HLF HLT1 HBL hzb
                generalize Bd i = BI at *
                generalize bs (Lib.itoa (i : Int)) = SI at *
                go_wp2_with fail
                refine (HDI.out wr).mono ?_
                rintro e w9 ⟨rfl, rfl⟩
                go_wp2_with fail
                go_ret2
                exact ⟨HYY.out, HOW.out⟩
    · rw [decide_eq_false hsh] at HFS
      have HNO := hid (HQN.out fun h => hsh h.1)
      clear hI hs0 hb0 hl0 hsh
      go_enter Tryd.func5, Tryd.ntmps5
      go_wp2_with fail
      rw [← hW0]
      clear k0 k1 hW0
      refine (HFS.out _).mono ?_
      rintro e w1 ⟨rfl, rfl⟩
      go_wp2_with fail
      go_ret2
      exact ⟨HNO.out, HB0.out⟩

end Go.Proofs.YtjibpfdhaejfdaaDoor
