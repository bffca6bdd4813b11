/- Package asm: isWritable, label. -/
import Derived.Test.YtjibpfdhaejfdaaDoorAqB
namespace Go.Proofs.YtjibpfdhaejfdaaDoor
open Go.RowKit

section
variable {P : Program} {ops : Array Oper} {Q : Exit → Act → World → Prop} {md : Region.Mode} {S : World → Prop}
/-- an operation that is not wanted is passed by -/
theorem wpAnyH_skipU {i : Nat} {oi : Oper} {rest : List Oper} {fuel : Nat} {listed : Array Bool} {a : Act} {w : World} (hl : ops.toList.drop i = oi :: rest)
    (hs : Region.noSelect ops = true) (hf : Region.free md ops listed i = true) (hr : (Region.ready md ops listed).contains i = true)
    (hQ : ∀ c a w, Q (.panic c) (a.put oi.dst undef) w → Q (.panic c) a w) (hw : Region.wanted oi (yielded ops a.tmps) = false) (hS : S w)
    (h : wpAnyH P md ops Q S fuel (listed.setIfInBounds i true) (a.put oi.dst undef) w) : wpAnyH P md ops Q S (fuel + 1) listed a w :=
  wpAnyH_take (drop_atU hl) hs hf hr hQ (Or.inr ⟨hw, rfl⟩) hS h
end

theorem okA_wr (x : InsZ) : OkA (fSl x.op.toNat) (fldz x) ↔ ∀ i, i < 3 → WrF x i := Iff.rfl

set_option maxRecDepth 100000 in
set_option maxHeartbeats 4000000 in
theorem isWritable_any (size : Int) (aL : Option Addr) (cL : Nat) (L : List InsZ) (w : World) (hG : FmW w) (hn : L.length ≤ 4096) (hI : LstI w.heap.size w aL cL L) :
    Calls Tryd.prog 7 #[.agg #[.int .i64 size, .slice aL L.length cL]] w fun e w' => e = .returned (.bool (decide (WrC size L))) ∧ Below w.heap.size w w' := by
  have HSH := hid (fun W => isShort_any size W)
  have HOP := hid (fun n W => isOp_any n W)
  have HFI := hid (fun x W => fields_any x W)
  have HAR := hid (fun s f W => areW_any s f W)
  obtain ⟨W0, hW0⟩ : ∃ W0, W0 = w.alloc (.cells #[.int .i64 size, .slice aL L.length cL] 24) := ⟨_, rfl⟩
  have hb0 : Below w.heap.size w W0 := by rw [hW0]; exact (Below.refl _ _).alloc (Nat.le_refl _) _
  have HB0 := hid hb0
  have HIX : Hid (∀ W, Below w.heap.size w W → ∀ k, k < L.length → ∃ b o, aL = some ⟨b, o, none⟩ ∧ W.cell? ⟨b, o + k * 4, none⟩ = some (.int .i64 (insat L k).op) ∧ W.cell? ⟨b, o + k * 4 + 1, none⟩ = some (.int .i64 (insat L k).a) ∧ W.cell? ⟨b, o + k * 4 + 2, none⟩ = some (.int .i64 (insat L k).b) ∧ W.cell? ⟨b, o + k * 4 + 3, none⟩ = some (.int .i64 (insat L k).c)) := fun W hW k hk => by
    obtain ⟨b, o, h1, _, h3, h4, h5, h6⟩ := (hI.below hW).row k hk
    exact ⟨b, o, h1, h3, h4, h5, h6⟩
  obtain ⟨R, hR⟩ : ∃ R, R = decide (WrC size L) := ⟨_, rfl⟩
  have HN1 : Hid (¬ ShN size → R = false) := fun h => by rw [hR]; exact decide_eq_false fun h2 => h h2.1
  have HN2 : Hid (∀ k, k < L.length → ¬ WrI (insat L k) → R = false) := fun k hk h => by rw [hR]; exact decide_eq_false fun h2 => h (h2.2 k hk)
  have HY : Hid (ShN size → (∀ k, k < L.length → WrI (insat L k)) → R = true) := fun h1 h2 => by rw [hR]; exact decide_eq_true ⟨h1, h2⟩
  have HG := hid hG
  rw [← hR]
  obtain ⟨n, hn'⟩ : ∃ n, n = L.length := ⟨_, rfl⟩
  simp only [← hn'] at HIX HN2 HY hn hW0 ⊢
  clear hR hb0 hI hG hn'
  by_cases hsh : ShN size
  · rw [decide_eq_true hsh] at HSH
    have HYY : Hid ((∀ k, k < n → WrI (insat L k)) → R = true) := fun h => HY.out hsh h
    clear hsh HN1 HY
    go_enter Tryd.func7, Tryd.ntmps7
    go_wp2_with fail
    refine (HSH.out _).mono ?_
    rintro e w1 ⟨rfl, rfl⟩
    go_wp2_with fail
    rw [← hW0]
    clear hW0
    go_loopw [4, 12] (fun _ iv wr => ∃ k : Nat, k ≤ n ∧ iv = .int .i64 k ∧ Hid (∀ j, j < k → WrI (insat L j)) ∧ Hid (Below w.heap.size w wr)) (fun _ iv _ => n - (intOf iv).toNat)
    case atStart => exact ⟨0, Nat.zero_le _, rfl, fun j hj => absurd hj (Nat.not_lt_zero j), HB0⟩
    case round =>
      obtain ⟨k, hk, rfl, HI, HB⟩ := hrel
      by_cases hlt : k < n
      · have hlt2 : (k : Int) < (n : Int) := by omega
        have hks : IntKind.i64.wrap ((k : Int) + 1) = (k : Int) + 1 := by rw [IntKind.wrap_i64]; omega
        obtain ⟨b, o, rfl, x0, x1, x2, x3⟩ := HIX.out wr HB.out k hlt
        have HNK := hid (HN2.out k hlt)
        have HWS : Hid (WrI (insat L k) → ∀ j, j < k + 1 → WrI (insat L j)) := fun h j hj => by
          by_cases e : j = k
          · subst e; exact h
          · exact HI.out j (by omega)
        generalize hx : insat L k = x at *
        clear hx HI
        obtain ⟨W1, hW1⟩ : ∃ W1, W1 = wr.alloc (.cells #[.int .i64 x.op, .int .i64 x.a, .int .i64 x.b, .int .i64 x.c] 40) := ⟨_, rfl⟩
        have hb1 : Below wr.heap.size wr W1 := by rw [hW1]; exact (Below.refl _ _).alloc (Nat.le_refl _) _
        have hs1 : W1.heap[wr.heap.size]? = some (.cells #[.int .i64 x.op, .int .i64 x.a, .int .i64 x.b, .int .i64 x.c] 40 (0, 0)) := by rw [hW1]; exact heap_alloc_new wr _
        have hl1 := (Array.getElem?_eq_some_iff.1 hs1).1
        have HB1 : Hid (Below w.heap.size w W1) := HB.out.trans (hb1.mono HB.out.size)
        obtain ⟨B, hB⟩ : ∃ B, B = wr.heap.size := ⟨_, rfl⟩
        rw [← hB] at hs1 hl1
        have HCX : Hid (∀ W, Below W1.heap.size W1 W → W.cell? ⟨B, 0, none⟩ = some (.int .i64 x.op) ∧ W.cell? ⟨B, 1, none⟩ = some (.int .i64 x.a) ∧ W.cell? ⟨B, 2, none⟩ = some (.int .i64 x.b) ∧ W.cell? ⟨B, 3, none⟩ = some (.int .i64 x.c)) := fun W hW => by
          have h1 := (hW.block B hl1).trans hs1
          exact ⟨by simp [World.cell?, h1], by simp [World.cell?, h1], by simp [World.cell?, h1], by simp [World.cell?, h1]⟩
        by_cases hop : 0 ≤ x.op ∧ x.op < 14
        · obtain ⟨op, hopn⟩ : ∃ op : Nat, x.op = (op : Int) := ⟨x.op.toNat, by omega⟩
          have hop14 : op < 14 := by omega
          have hopt : x.op.toNat = op := by omega
          have HSL : Hid (∀ W, Below W1.heap.size W1 W → (W.cell? ⟨B, 0, none⟩ = some (.int .i64 (op : Int)) ∧ W.cell? ⟨B, 1, none⟩ = some (.int .i64 x.a) ∧ W.cell? ⟨B, 2, none⟩ = some (.int .i64 x.b) ∧ W.cell? ⟨B, 3, none⟩ = some (.int .i64 x.c) ∧ W.cell? ⟨0, op * 4 + 1, none⟩ = some (.int .i64 (fSl op 0 : Nat)) ∧ W.cell? ⟨0, op * 4 + 2, none⟩ = some (.int .i64 (fSl op 1 : Nat)) ∧ W.cell? ⟨0, op * 4 + 3, none⟩ = some (.int .i64 (fSl op 2 : Nat)))) := fun W hW => by
            have h1 := HCX.out W hW
            rw [hopn] at h1
            have h2 := HG.out.keep (HB1.out.trans (hW.mono HB1.out.size))
            exact ⟨h1.1, h1.2.1, h1.2.2.1, h1.2.2.2, h2.s0 op hop14, h2.s1 op hop14, h2.s2 op hop14⟩
          have HO1 : Hid (∀ W, Calls Tryd.prog 17 #[.int .i64 (op : Int)] W fun e w' => e = .returned (.bool true) ∧ w' = W) := fun W => by
            have h := HOP.out (op : Int) W
            rw [decide_eq_true ⟨by omega, by omega⟩] at h
            exact h
          have HFX := hid (fun W => HFI.out x W)
          rw [hopn] at HFX
          have hop2 : (op : Int) < 14 := by omega
          have HAX := hid (fun W => HAR.out (fSl op) (fldz x) W)
          have HWR : Hid (WrI x ↔ OkA (fSl op) (fldz x)) := by
            unfold Hid
            rw [← hopt, okA_wr]
            exact ⟨fun h => h.2, fun h => ⟨hop, h⟩⟩
          rw [hopn] at hW1 x0
          by_cases hw : OkA (fSl op) (fldz x)
          · have HW2 := hid (HWS.out (HWR.out.2 hw))
            rw [decide_eq_true hw] at HAX
            clear hw hopn hopt hop HWR HNK HWS hs1 hl1 hb1
            go_wp2_with fail
            rw [← hW1, ← hB]
            clear hW1 hB x0 x1 x2 x3
            refine wp_region_held_drew (S := fun W => W.cell? ⟨B, 0, none⟩ = some (.int .i64 (op : Int)) ∧ W.cell? ⟨B, 1, none⟩ = some (.int .i64 x.a) ∧ W.cell? ⟨B, 2, none⟩ = some (.int .i64 x.b) ∧ W.cell? ⟨B, 3, none⟩ = some (.int .i64 x.c) ∧ W.cell? ⟨0, op * 4 + 1, none⟩ = some (.int .i64 (fSl op 0 : Nat)) ∧ W.cell? ⟨0, op * 4 + 2, none⟩ = some (.int .i64 (fSl op 1 : Nat)) ∧ W.cell? ⟨0, op * 4 + 3, none⟩ = some (.int .i64 (fSl op 2 : Nat))) (by kernel_rfl) (HSL.out W1.drew (Below.refl _ _).drew) (fun hHeld => ?_)
            refine wpAnyH_takeU (i := 0) (v := .pointer (some ⟨B, 0, none⟩)) rfl (by kernel_rfl) (by kernel_rfl) (by kernel_rfl) (fun _ _ _ h => h) (by rfl) (fun W hC => by go_simp) hHeld ?_
            simp only [Act.put, List.setIfInBounds_toArray, List.set_cons_zero, List.set_cons_succ]
            refine wpAnyH_takeU (i := 1) (v := .int .i64 (op : Int)) rfl (by kernel_rfl) (by kernel_rfl) (by kernel_rfl) (fun _ _ _ h => h) (by rfl) (fun W hC => by (obtain ⟨y0, y1, y2, y3, y4, y5, y6⟩ := hC); go_simp) hHeld ?_
            simp only [Act.put, List.setIfInBounds_toArray, List.set_cons_zero, List.set_cons_succ]
            refine wpAnyH_ready (rs := [2]) (by kernel_rfl) (by simp) ?_
            refine AllReadyH.consU rfl (fun K' hK' => ?_) AllReadyH.nil
            go_simp
            refine (HO1.out W1.drew).mono ?_
            rintro e w3 ⟨rfl, rfl⟩
            refine hK'.out _ _ (HSL.out W1.drew (Below.refl _ _).drew) (fun hHeld => ?_)
            clear hK' K'
            refine wpAnyH_takeU (i := 3) (v := .bool false) rfl (by kernel_rfl) (by kernel_rfl) (by kernel_rfl) (fun _ _ _ h => h) (by rfl) (fun W hC => by go_simp) hHeld ?_
            simp only [Act.put, List.setIfInBounds_toArray, List.set_cons_zero, List.set_cons_succ]
            refine wpAnyH_takeU (i := 4) (v := .bool false) rfl (by kernel_rfl) (by kernel_rfl) (by kernel_rfl) (fun _ _ _ h => h) (by rfl) (fun W hC => by go_simp) hHeld ?_
            simp only [Act.put, List.setIfInBounds_toArray, List.set_cons_zero, List.set_cons_succ]
            refine wpAnyH_takeU (i := 5) (v := .pointer (some ⟨B, 0, none⟩)) rfl (by kernel_rfl) (by kernel_rfl) (by kernel_rfl) (fun _ _ _ h => h) (by rfl) (fun W hC => by go_simp) hHeld ?_
            simp only [Act.put, List.setIfInBounds_toArray, List.set_cons_zero, List.set_cons_succ]
            refine wpAnyH_takeU (i := 6) (v := .int .i64 (op : Int)) rfl (by kernel_rfl) (by kernel_rfl) (by kernel_rfl) (fun _ _ _ h => h) (by rfl) (fun W hC => by (obtain ⟨y0, y1, y2, y3, y4, y5, y6⟩ := hC); go_simp) hHeld ?_
            simp only [Act.put, List.setIfInBounds_toArray, List.set_cons_zero, List.set_cons_succ]
            refine wpAnyH_takeU (i := 7) (v := .pointer (some ⟨0, op * 4, none⟩)) rfl (by kernel_rfl) (by kernel_rfl) (by kernel_rfl) (fun _ _ _ h => h) (by rfl) (fun W hC => by go_simp) hHeld ?_
            simp only [Act.put, List.setIfInBounds_toArray, List.set_cons_zero, List.set_cons_succ]
            refine wpAnyH_takeU (i := 8) (v := .pointer (some ⟨0, op * 4 + 1, none⟩)) rfl (by kernel_rfl) (by kernel_rfl) (by kernel_rfl) (fun _ _ _ h => h) (by rfl) (fun W hC => by go_simp) hHeld ?_
            simp only [Act.put, List.setIfInBounds_toArray, List.set_cons_zero, List.set_cons_succ]
            refine wpAnyH_takeU (i := 9) (v := .agg #[.int .i64 (fSl op 0 : Nat), .int .i64 (fSl op 1 : Nat), .int .i64 (fSl op 2 : Nat)]) rfl (by kernel_rfl) (by kernel_rfl) (by kernel_rfl) (fun _ _ _ h => h) (by rfl) (fun W hC => by (obtain ⟨y0, y1, y2, y3, y4, y5, y6⟩ := hC); go_simp) hHeld ?_
            simp only [Act.put, List.setIfInBounds_toArray, List.set_cons_zero, List.set_cons_succ]
            refine wpAnyH_takeU (i := 10) (v := .agg #[.int .i64 (op : Int), .int .i64 x.a, .int .i64 x.b, .int .i64 x.c]) rfl (by kernel_rfl) (by kernel_rfl) (by kernel_rfl) (fun _ _ _ h => h) (by rfl) (fun W hC => by (obtain ⟨y0, y1, y2, y3, y4, y5, y6⟩ := hC); go_simp) hHeld ?_
            simp only [Act.put, List.setIfInBounds_toArray, List.set_cons_zero, List.set_cons_succ]
            refine wpAnyH_ready (rs := [11]) (by kernel_rfl) (by simp) ?_
            refine AllReadyH.consU rfl (fun K' hK' => ?_) AllReadyH.nil
            go_simp
            refine (HFX.out W1.drew).mono ?_
            rintro e w4 ⟨rfl, hb4⟩
            have hB4 : Below W1.heap.size W1 w4 := (Below.refl _ _).drew.trans hb4
            refine hK'.out _ _ (HSL.out w4 hB4) (fun hHeld => ?_)
            clear hK' K'
            refine wpAnyH_ready (rs := [12]) (by kernel_rfl) (by simp) ?_
            refine AllReadyH.consU rfl (fun K' hK' => ?_) AllReadyH.nil
            go_simp
            refine (HAX.out w4).mono ?_
            rintro e w5 ⟨rfl, hb5⟩
            have hB5 : Below W1.heap.size W1 w5 := hB4.trans (hb5.mono hB4.size)
            refine hK'.out _ _ (HSL.out w5 hB5) (fun hHeld => ?_)
            clear hK' K'
            refine wpAnyH_takeU (i := 13) (v := .bool false) rfl (by kernel_rfl) (by kernel_rfl) (by kernel_rfl) (fun _ _ _ h => h) (by rfl) (fun W hC => by go_simp) hHeld ?_
            simp only [Act.put, List.setIfInBounds_toArray, List.set_cons_zero, List.set_cons_succ]
            refine wpAnyH_takeU (i := 14) (v := .bool false) rfl (by kernel_rfl) (by kernel_rfl) (by kernel_rfl) (fun _ _ _ h => h) (by rfl) (fun W hC => by go_simp) hHeld ?_
            simp only [Act.put, List.setIfInBounds_toArray, List.set_cons_zero, List.set_cons_succ]
            refine wpAnyH_done (by kernel_rfl) ?_ _
            have HB5 : Hid (Below w.heap.size w w5) := HB1.out.trans (hB5.mono HB1.out.size)
            clear hHeld hb4 hB4 hb5 hB5 HSL HCX HB1 HB HAX HFX HO1
            go_wp2_with fail
            go_roundw
            case rel => exact ⟨k + 1, by omega, by go_num, HW2, HB5⟩
            case measure => simp [intOf]; omega
          · have HRF := hid (HNK.out fun h => hw (HWR.out.1 h))
            rw [decide_eq_false hw] at HAX
            clear hw hopn hopt hop HWR HNK HWS hs1 hl1 hb1
            go_wp2_with fail
            rw [← hW1, ← hB]
            clear hW1 hB x0 x1 x2 x3
            refine wp_region_held_drew (S := fun W => W.cell? ⟨B, 0, none⟩ = some (.int .i64 (op : Int)) ∧ W.cell? ⟨B, 1, none⟩ = some (.int .i64 x.a) ∧ W.cell? ⟨B, 2, none⟩ = some (.int .i64 x.b) ∧ W.cell? ⟨B, 3, none⟩ = some (.int .i64 x.c) ∧ W.cell? ⟨0, op * 4 + 1, none⟩ = some (.int .i64 (fSl op 0 : Nat)) ∧ W.cell? ⟨0, op * 4 + 2, none⟩ = some (.int .i64 (fSl op 1 : Nat)) ∧ W.cell? ⟨0, op * 4 + 3, none⟩ = some (.int .i64 (fSl op 2 : Nat))) (by kernel_rfl) (HSL.out W1.drew (Below.refl _ _).drew) (fun hHeld => ?_)
            refine wpAnyH_takeU (i := 0) (v := .pointer (some ⟨B, 0, none⟩)) rfl (by kernel_rfl) (by kernel_rfl) (by kernel_rfl) (fun _ _ _ h => h) (by rfl) (fun W hC => by go_simp) hHeld ?_
            simp only [Act.put, List.setIfInBounds_toArray, List.set_cons_zero, List.set_cons_succ]
            refine wpAnyH_takeU (i := 1) (v := .int .i64 (op : Int)) rfl (by kernel_rfl) (by kernel_rfl) (by kernel_rfl) (fun _ _ _ h => h) (by rfl) (fun W hC => by (obtain ⟨y0, y1, y2, y3, y4, y5, y6⟩ := hC); go_simp) hHeld ?_
            simp only [Act.put, List.setIfInBounds_toArray, List.set_cons_zero, List.set_cons_succ]
            refine wpAnyH_ready (rs := [2]) (by kernel_rfl) (by simp) ?_
            refine AllReadyH.consU rfl (fun K' hK' => ?_) AllReadyH.nil
            go_simp
            refine (HO1.out W1.drew).mono ?_
            rintro e w3 ⟨rfl, rfl⟩
            refine hK'.out _ _ (HSL.out W1.drew (Below.refl _ _).drew) (fun hHeld => ?_)
            clear hK' K'
            refine wpAnyH_takeU (i := 3) (v := .bool false) rfl (by kernel_rfl) (by kernel_rfl) (by kernel_rfl) (fun _ _ _ h => h) (by rfl) (fun W hC => by go_simp) hHeld ?_
            simp only [Act.put, List.setIfInBounds_toArray, List.set_cons_zero, List.set_cons_succ]
            refine wpAnyH_takeU (i := 4) (v := .bool false) rfl (by kernel_rfl) (by kernel_rfl) (by kernel_rfl) (fun _ _ _ h => h) (by rfl) (fun W hC => by go_simp) hHeld ?_
            simp only [Act.put, List.setIfInBounds_toArray, List.set_cons_zero, List.set_cons_succ]
            refine wpAnyH_takeU (i := 5) (v := .pointer (some ⟨B, 0, none⟩)) rfl (by kernel_rfl) (by kernel_rfl) (by kernel_rfl) (fun _ _ _ h => h) (by rfl) (fun W hC => by go_simp) hHeld ?_
            simp only [Act.put, List.setIfInBounds_toArray, List.set_cons_zero, List.set_cons_succ]
            refine wpAnyH_takeU (i := 6) (v := .int .i64 (op : Int)) rfl (by kernel_rfl) (by kernel_rfl) (by kernel_rfl) (fun _ _ _ h => h) (by rfl) (fun W hC => by (obtain ⟨y0, y1, y2, y3, y4, y5, y6⟩ := hC); go_simp) hHeld ?_
            simp only [Act.put, List.setIfInBounds_toArray, List.set_cons_zero, List.set_cons_succ]
            refine wpAnyH_takeU (i := 7) (v := .pointer (some ⟨0, op * 4, none⟩)) rfl (by kernel_rfl) (by kernel_rfl) (by kernel_rfl) (fun _ _ _ h => h) (by rfl) (fun W hC => by go_simp) hHeld ?_
            simp only [Act.put, List.setIfInBounds_toArray, List.set_cons_zero, List.set_cons_succ]
            refine wpAnyH_takeU (i := 8) (v := .pointer (some ⟨0, op * 4 + 1, none⟩)) rfl (by kernel_rfl) (by kernel_rfl) (by kernel_rfl) (fun _ _ _ h => h) (by rfl) (fun W hC => by go_simp) hHeld ?_
            simp only [Act.put, List.setIfInBounds_toArray, List.set_cons_zero, List.set_cons_succ]
            refine wpAnyH_takeU (i := 9) (v := .agg #[.int .i64 (fSl op 0 : Nat), .int .i64 (fSl op 1 : Nat), .int .i64 (fSl op 2 : Nat)]) rfl (by kernel_rfl) (by kernel_rfl) (by kernel_rfl) (fun _ _ _ h => h) (by rfl) (fun W hC => by (obtain ⟨y0, y1, y2, y3, y4, y5, y6⟩ := hC); go_simp) hHeld ?_
            simp only [Act.put, List.setIfInBounds_toArray, List.set_cons_zero, List.set_cons_succ]
            refine wpAnyH_takeU (i := 10) (v := .agg #[.int .i64 (op : Int), .int .i64 x.a, .int .i64 x.b, .int .i64 x.c]) rfl (by kernel_rfl) (by kernel_rfl) (by kernel_rfl) (fun _ _ _ h => h) (by rfl) (fun W hC => by (obtain ⟨y0, y1, y2, y3, y4, y5, y6⟩ := hC); go_simp) hHeld ?_
            simp only [Act.put, List.setIfInBounds_toArray, List.set_cons_zero, List.set_cons_succ]
            refine wpAnyH_ready (rs := [11]) (by kernel_rfl) (by simp) ?_
            refine AllReadyH.consU rfl (fun K' hK' => ?_) AllReadyH.nil
            go_simp
            refine (HFX.out W1.drew).mono ?_
            rintro e w4 ⟨rfl, hb4⟩
            have hB4 : Below W1.heap.size W1 w4 := (Below.refl _ _).drew.trans hb4
            refine hK'.out _ _ (HSL.out w4 hB4) (fun hHeld => ?_)
            clear hK' K'
            refine wpAnyH_ready (rs := [12]) (by kernel_rfl) (by simp) ?_
            refine AllReadyH.consU rfl (fun K' hK' => ?_) AllReadyH.nil
            go_simp
            refine (HAX.out w4).mono ?_
            rintro e w5 ⟨rfl, hb5⟩
            have hB5 : Below W1.heap.size W1 w5 := hB4.trans (hb5.mono hB4.size)
            refine hK'.out _ _ (HSL.out w5 hB5) (fun hHeld => ?_)
            clear hK' K'
            refine wpAnyH_takeU (i := 13) (v := .bool true) rfl (by kernel_rfl) (by kernel_rfl) (by kernel_rfl) (fun _ _ _ h => h) (by rfl) (fun W hC => by go_simp) hHeld ?_
            simp only [Act.put, List.setIfInBounds_toArray, List.set_cons_zero, List.set_cons_succ]
            refine wpAnyH_takeU (i := 14) (v := .bool true) rfl (by kernel_rfl) (by kernel_rfl) (by kernel_rfl) (fun _ _ _ h => h) (by rfl) (fun W hC => by go_simp) hHeld ?_
            simp only [Act.put, List.setIfInBounds_toArray, List.set_cons_zero, List.set_cons_succ]
            refine wpAnyH_done (by kernel_rfl) ?_ _
            have HB5 : Hid (Below w.heap.size w w5) := HB1.out.trans (hB5.mono HB1.out.size)
            clear hHeld hb4 hB4 hb5 hB5 HSL HCX HB1 HB HAX HFX HO1
            go_wp2_with fail
            go_ret
            exact ⟨by rw [HRF.out]; rfl, HB5.out⟩
        · have HRF := hid (HNK.out fun h => hop h.1)
          have HO1 : Hid (∀ W, Calls Tryd.prog 17 #[.int .i64 x.op] W fun e w' => e = .returned (.bool false) ∧ w' = W) := fun W => by
            have h := HOP.out x.op W
            rw [decide_eq_false hop] at h
            exact h
          clear hop HNK HWS hs1 hl1 hb1
          go_wp2_with fail
          rw [← hW1, ← hB]
          clear hW1 hB x0 x1 x2 x3
          refine wp_region_held_drew (S := fun W => W.cell? ⟨B, 0, none⟩ = some (.int .i64 x.op) ∧ W.cell? ⟨B, 1, none⟩ = some (.int .i64 x.a) ∧ W.cell? ⟨B, 2, none⟩ = some (.int .i64 x.b) ∧ W.cell? ⟨B, 3, none⟩ = some (.int .i64 x.c)) (by kernel_rfl) (HCX.out W1.drew (Below.refl _ _).drew) (fun hHeld => ?_)
          refine wpAnyH_takeU (i := 0) (v := .pointer (some ⟨B, 0, none⟩)) rfl (by kernel_rfl) (by kernel_rfl) (by kernel_rfl) (fun _ _ _ h => h) (by rfl) (fun W hC => by go_simp) hHeld ?_
          simp only [Act.put, List.setIfInBounds_toArray, List.set_cons_zero, List.set_cons_succ]
          refine wpAnyH_takeU (i := 1) (v := .int .i64 x.op) rfl (by kernel_rfl) (by kernel_rfl) (by kernel_rfl) (fun _ _ _ h => h) (by rfl) (fun W hC => by (obtain ⟨y0, y1, y2, y3⟩ := hC); go_simp) hHeld ?_
          simp only [Act.put, List.setIfInBounds_toArray, List.set_cons_zero, List.set_cons_succ]
          refine wpAnyH_ready (rs := [2]) (by kernel_rfl) (by simp) ?_
          refine AllReadyH.consU rfl (fun K' hK' => ?_) AllReadyH.nil
          go_simp
          refine (HO1.out W1.drew).mono ?_
          rintro e w3 ⟨rfl, rfl⟩
          refine hK'.out _ _ (HCX.out W1.drew (Below.refl _ _).drew) (fun hHeld => ?_)
          clear hK' K'
          refine wpAnyH_takeU (i := 3) (v := .bool true) rfl (by kernel_rfl) (by kernel_rfl) (by kernel_rfl) (fun _ _ _ h => h) (by rfl) (fun W hC => by go_simp) hHeld ?_
          simp only [Act.put, List.setIfInBounds_toArray, List.set_cons_zero, List.set_cons_succ]
          refine wpAnyH_takeU (i := 4) (v := .bool true) rfl (by kernel_rfl) (by kernel_rfl) (by kernel_rfl) (fun _ _ _ h => h) (by rfl) (fun W hC => by go_simp) hHeld ?_
          simp only [Act.put, List.setIfInBounds_toArray, List.set_cons_zero, List.set_cons_succ]
          refine wpAnyH_skipU (i := 5) rfl (by kernel_rfl) (by kernel_rfl) (by kernel_rfl) (fun _ _ _ h => h) (by rfl) hHeld ?_
          simp only [Act.put, List.setIfInBounds_toArray, List.set_cons_zero, List.set_cons_succ]
          refine wpAnyH_skipU (i := 6) rfl (by kernel_rfl) (by kernel_rfl) (by kernel_rfl) (fun _ _ _ h => h) (by rfl) hHeld ?_
          simp only [Act.put, List.setIfInBounds_toArray, List.set_cons_zero, List.set_cons_succ]
          refine wpAnyH_skipU (i := 7) rfl (by kernel_rfl) (by kernel_rfl) (by kernel_rfl) (fun _ _ _ h => h) (by rfl) hHeld ?_
          simp only [Act.put, List.setIfInBounds_toArray, List.set_cons_zero, List.set_cons_succ]
          refine wpAnyH_skipU (i := 8) rfl (by kernel_rfl) (by kernel_rfl) (by kernel_rfl) (fun _ _ _ h => h) (by rfl) hHeld ?_
          simp only [Act.put, List.setIfInBounds_toArray, List.set_cons_zero, List.set_cons_succ]
          refine wpAnyH_skipU (i := 9) rfl (by kernel_rfl) (by kernel_rfl) (by kernel_rfl) (fun _ _ _ h => h) (by rfl) hHeld ?_
          simp only [Act.put, List.setIfInBounds_toArray, List.set_cons_zero, List.set_cons_succ]
          refine wpAnyH_skipU (i := 10) rfl (by kernel_rfl) (by kernel_rfl) (by kernel_rfl) (fun _ _ _ h => h) (by rfl) hHeld ?_
          simp only [Act.put, List.setIfInBounds_toArray, List.set_cons_zero, List.set_cons_succ]
          refine wpAnyH_skipU (i := 11) rfl (by kernel_rfl) (by kernel_rfl) (by kernel_rfl) (fun _ _ _ h => h) (by rfl) hHeld ?_
          simp only [Act.put, List.setIfInBounds_toArray, List.set_cons_zero, List.set_cons_succ]
          refine wpAnyH_skipU (i := 12) rfl (by kernel_rfl) (by kernel_rfl) (by kernel_rfl) (fun _ _ _ h => h) (by rfl) hHeld ?_
          simp only [Act.put, List.setIfInBounds_toArray, List.set_cons_zero, List.set_cons_succ]
          refine wpAnyH_skipU (i := 13) rfl (by kernel_rfl) (by kernel_rfl) (by kernel_rfl) (fun _ _ _ h => h) (by rfl) hHeld ?_
          simp only [Act.put, List.setIfInBounds_toArray, List.set_cons_zero, List.set_cons_succ]
          refine wpAnyH_takeU (i := 14) (v := .bool true) rfl (by kernel_rfl) (by kernel_rfl) (by kernel_rfl) (fun _ _ _ h => h) (by rfl) (fun W hC => by go_simp) hHeld ?_
          simp only [Act.put, List.setIfInBounds_toArray, List.set_cons_zero, List.set_cons_succ]
          refine wpAnyH_done (by kernel_rfl) ?_ _
          have HB5 : Hid (Below w.heap.size w W1.drew) := HB1.out.drew
          clear hHeld HCX HB1 HB HO1
          go_wp2_with fail
          go_ret
          exact ⟨by rw [HRF.out]; rfl, HB5.out⟩
      · obtain rfl : k = n := by omega
        have hlt2 : ¬ (k : Int) < (k : Int) := by omega
        have HRT := hid (HYY.out HI.out)
        go_wp2_with fail
        go_ret
        exact ⟨by rw [HRT.out]; rfl, HB.out⟩
  · have HRF := hid (HN1.out hsh)
    rw [decide_eq_false hsh] at HSH
    clear hsh HN1 HY
    go_enter Tryd.func7, Tryd.ntmps7
    go_wp2_with fail
    refine (HSH.out _).mono ?_
    rintro e w1 ⟨rfl, rfl⟩
    go_wp2_with fail
    rw [← hW0]
    go_ret
    exact ⟨by rw [HRF.out]; rfl, HB0.out⟩

end Go.Proofs.YtjibpfdhaejfdaaDoor
