/- Package asm: label, instruction. -/
import Derived.Test.YtjibpfdhaejfdaaDoorAqC
namespace Go.Proofs.YtjibpfdhaejfdaaDoor
open Go.RowKit

/-- the library's table of powers of ten -/
def PowA (w : World) : Prop := Lib.TabIs Tryd.prog w "internal/strconv.uint64pow10" .u64 Lib.pow10Tab
theorem Tryd.gpowA : Tryd.prog.globalNamed "internal/strconv.uint64pow10" = some 2 := by kernel_rfl
theorem PowA.below {n : Nat} {w w' : World} (h : PowA w) (hb : Below n w w') (hn : 2 < n) : PowA w' := by
  unfold PowA Lib.TabIs World.var? at *
  rw [Tryd.gpowA] at h ⊢
  simp only [Option.bind_some] at h ⊢
  rw [hb.block _ hn]
  exact h
theorem PowA.lt {w : World} (h : PowA w) : 2 < w.heap.size := by
  unfold PowA Lib.TabIs World.var? at h
  rw [Tryd.gpowA] at h
  simp only [Option.bind_some] at h
  rcases Nat.lt_or_ge 2 w.heap.size with g | g
  · exact g
  · rw [Array.getElem?_eq_none g] at h; cases h
theorem PowA.keep {w w' : World} (h : PowA w) (hb : Below w.heap.size w w') : PowA w' := h.below hb h.lt
theorem itz_any (n : Int) (w : World) (h0 : -9223372036854775808 ≤ n) (h1 : n ≤ 9223372036854775807) (h : PowA w) : Calls Tryd.prog 21 #[.int .i64 n] w fun e w' => e = .returned (.string (bs (Lib.itoa n))) ∧ Below w.heap.size w w' := by
  refine (Tryd.strconv_Itoa n h0 h1 w h).mono ?_
  rintro e w' ⟨rfl, k, os, rfl⟩
  refine ⟨by simp [bs], ⟨rfl, rfl, rfl, by simp [Sort.grow], fun j hj => ?_⟩⟩
  show ((w.drewN k).heap ++ os)[j]? = _
  rw [Array.getElem?_append_left (by exact hj)]
  rfl

theorem label_any (k : Int) (w : World) (h0 : -9223372036854775808 ≤ k) (h1 : k ≤ 9223372036854775807) (h : PowA w) : Calls Tryd.prog 23 #[.int .i64 k] w fun e w' => e = .returned (.string (bs (lblT k))) ∧ Below w.heap.size w w' := by
  have HIT := hid (itz_any k w h0 h1 h)
  have hz : (bs (Lib.itoa k)).size ≤ 21 := by rw [bs_size]; exact Lib.itoa_length_le k h0 h1
  have HE : Hid (bs (lblT k) = (⟨#[108]⟩ : ByteArray) ++ bs (Lib.itoa k)) := (bs_app [108] (Lib.itoa k)).symm
  generalize bs (lblT k) = RES at *
  generalize bs (Lib.itoa k) = S at *
  go_enter Tryd.func23, Tryd.ntmps23
  go_wp2_with fail
  refine HIT.out.mono ?_
  rintro e w1 ⟨rfl, hb1⟩
  have HB1 := hid hb1
  clear hb1
  go_wp2_with fail
  go_ret
  exact ⟨by rw [HE.out]; rfl, HB1.out⟩

set_option maxRecDepth 100000 in
set_option maxHeartbeats 4000000 in
theorem instr_any (x : InsZ) (n : Nat) (w : World) (hG : FmW w) (hP : PowA w) (hx : WrI x) :
    Calls Tryd.prog 24 #[.agg #[.int .i64 x.op, .int .i64 x.a, .int .i64 x.b, .int .i64 x.c], .int .i64 (n : Int)] w fun e w' => e = .returned (.string (bs (insT n x 3))) ∧ Below w.heap.size w w' := by
  obtain ⟨⟨hop0, hop1⟩, hF⟩ := hx
  obtain ⟨op, hop⟩ : ∃ op : Nat, x.op = (op : Int) := ⟨x.op.toNat, by omega⟩
  have hopt : x.op.toNat = op := by omega
  have hop14 : op < 14 := by omega
  have hop2 : (op : Int) < 14 := by omega
  obtain ⟨W0, hW0⟩ : ∃ W0, W0 = w.alloc (.cells #[.int .i64 x.op, .int .i64 x.a, .int .i64 x.b, .int .i64 x.c] 40) := ⟨_, rfl⟩
  have hb0 : Below w.heap.size w W0 := by rw [hW0]; exact (Below.refl _ _).alloc (Nat.le_refl _) _
  have hs0 : W0.heap[w.heap.size]? = some (.cells #[.int .i64 x.op, .int .i64 x.a, .int .i64 x.b, .int .i64 x.c] 40 (0, 0)) := by rw [hW0]; exact heap_alloc_new w _
  have hl0 := (Array.getElem?_eq_some_iff.1 hs0).1
  have HB0 := hid hb0
  have HC0 : Hid (∀ W, Below W0.heap.size W0 W → W.cell? ⟨w.heap.size, 0, none⟩ = some (.int .i64 (op : Int))) := fun W hW => by
    have h1 := (hW.block _ hl0).trans hs0
    rw [hop] at h1
    simp [World.cell?, h1]
  have HFX : Hid (∀ W, Calls Tryd.prog 19 #[.agg #[.int .i64 (op : Int), .int .i64 x.a, .int .i64 x.b, .int .i64 x.c]] W fun e w' => e = .returned (.agg #[.int .i64 (fldz x 0), .int .i64 (fldz x 1), .int .i64 (fldz x 2)]) ∧ Below W.heap.size W w') := fun W => by rw [← hop]; exact fields_any x W
  have HG : Hid (∀ W, Below w.heap.size w W → W.cell? ⟨0, op * 4, none⟩ = some (.string (bs (fWd op))) ∧ W.cell? ⟨0, op * 4 + 1, none⟩ = some (.int .i64 (fSl op 0 : Nat)) ∧ W.cell? ⟨0, op * 4 + 2, none⟩ = some (.int .i64 (fSl op 1 : Nat)) ∧ W.cell? ⟨0, op * 4 + 3, none⟩ = some (.int .i64 (fSl op 2 : Nat))) := fun W hW => by
    have h := hG.keep hW
    exact ⟨h.wd op hop14, h.s0 op hop14, h.s1 op hop14, h.s2 op hop14⟩
  have HIT : Hid (∀ i, i < 3 → ∀ W, Below w.heap.size w W → Calls Tryd.prog 21 #[.int .i64 (fldz x i)] W fun e w' => e = .returned (.string (bs (Lib.itoa (fldz x i)))) ∧ Below W.heap.size W w') := fun i hi W hW => by
    have h := (hF i hi).2
    unfold ShN at h
    exact itz_any (fldz x i) W (by omega) (by omega) (hP.keep hW)
  have HLB : Hid (∀ i, i < 3 → ∀ W, Below w.heap.size w W → Calls Tryd.prog 23 #[.int .i64 (fldz x i)] W fun e w' => e = .returned (.string (bs (lblT (fldz x i)))) ∧ Below W.heap.size W w') := fun i hi W hW => by
    have h := (hF i hi).2
    unfold ShN at h
    exact label_any (fldz x i) W (by omega) (by omega) (hP.keep hW)
  have HHL := hid (fun i W => hasLabel_any (fldz x i) n W)
  have HZ : Hid (∀ i, i ≤ 3 → (bs (insT n x i)).size ≤ 100) := fun i hi => by
    rw [bs_size]
    have := insT_len n x hF i hi
    omega
  have HZI : Hid (∀ i, i < 3 → (bs (Lib.itoa (fldz x i))).size ≤ 21) := fun i hi => by rw [bs_size]; exact itz_len _ (.inl (hF i hi).2)
  have HZL : Hid (∀ i, i < 3 → (bs (lblT (fldz x i))).size ≤ 22) := fun i hi => by
    rw [bs_size]
    have := itz_len _ (.inl (hF i hi).2)
    unfold lblT
    simp
    omega
  have HSN : Hid (∀ i, fSl op i = 0 → bs (insT n x (i + 1)) = bs (insT n x i)) := fun i h => by
    show bs (insT n x i ++ argT n (fSl x.op.toNat i) (fldz x i)) = _
    rw [hopt]; unfold argT; rw [if_pos h, List.append_nil]
  have HSL : Hid (∀ i, fSl op i = 2 → ToL n (fldz x i) → bs (insT n x (i + 1)) = bs (insT n x i) ++ ((⟨#[32]⟩ : ByteArray) ++ bs (lblT (fldz x i)))) := fun i h h2 => by
    show bs (insT n x i ++ argT n (fSl x.op.toNat i) (fldz x i)) = _
    rw [hopt]; unfold argT; rw [if_neg (by omega), if_pos ⟨h, h2⟩, ← bs_app]
    congr 1
  have HSI : Hid (∀ i, fSl op i ≠ 0 → ¬ (fSl op i = 2 ∧ ToL n (fldz x i)) → bs (insT n x (i + 1)) = bs (insT n x i) ++ ((⟨#[32]⟩ : ByteArray) ++ bs (Lib.itoa (fldz x i)))) := fun i h h2 => by
    show bs (insT n x i ++ argT n (fSl x.op.toNat i) (fldz x i)) = _
    rw [hopt]; unfold argT; rw [if_neg h, if_neg h2, ← bs_app]
    congr 1
  have H0 : Hid (bs (insT n x 0) = bs (fWd op)) := by unfold Hid; show bs (fWd x.op.toNat) = _; rw [hopt]
  have HL2 : Hid (∀ i, fSl op i ≤ 2) := fun i => fSl_lt op i
  obtain ⟨T, hT⟩ : ∃ T : Nat → ByteArray, T = fun i => bs (insT n x i) := ⟨_, rfl⟩
  have HT : Hid (∀ i, bs (insT n x i) = T i) := fun i => by rw [hT]
  simp only [HT.out] at HZ HSN HSL HSI H0 ⊢
  have HTO : Hid (∀ i, decide (ToL n (fldz x i)) = decide (ToL n (fldz x i))) := fun _ => rfl
  obtain ⟨sl, hsl⟩ : ∃ sl : Nat → Nat, sl = fSl op := ⟨_, rfl⟩
  obtain ⟨f, hf⟩ : ∃ f : Nat → Int, f = fldz x := ⟨_, rfl⟩
  rw [← hsl] at HG HSN HSL HSI HL2
  rw [← hf] at HFX HIT HLB HHL HZI HZL HSL HSI
  rw [hop] at hW0 ⊢
  have i0 := idx3_0 (.int .i64 (sl 0 : Int)) (.int .i64 (sl 1 : Int)) (.int .i64 (sl 2 : Int))
  have i1 := idx3_1 (.int .i64 (sl 0 : Int)) (.int .i64 (sl 1 : Int)) (.int .i64 (sl 2 : Int))
  have i2 := idx3_2 (.int .i64 (sl 0 : Int)) (.int .i64 (sl 1 : Int)) (.int .i64 (sl 2 : Int))
  obtain ⟨g0, g1, g2, g3⟩ := HG.out W0 HB0.out
  obtain ⟨a, ha⟩ : ∃ a, a = x.a := ⟨_, rfl⟩
  obtain ⟨b, hb⟩ : ∃ b, b = x.b := ⟨_, rfl⟩
  obtain ⟨c, hc⟩ : ∃ c, c = x.c := ⟨_, rfl⟩
  rw [← ha, ← hb, ← hc] at HFX hW0 ⊢
  rw [hW0] at g0 g1 g2 g3
  clear hop0 hop1 hF hop hopt hop14 hb0 hs0 hl0 HTO hT HT hsl hf ha hb hc hG hP
  go_enter Tryd.func24, Tryd.ntmps24
  go_wp2_with fail
  rw [← hW0]
  clear hW0 g0 g1 g2 g3
  refine (HFX.out W0).mono ?_
  rintro e w1 ⟨rfl, hb1⟩
  have HO1 : Hid (Below w.heap.size w w1) := HB0.out.trans (hb1.mono HB0.out.size)
  obtain ⟨W2, hW2⟩ : ∃ W2, W2 = w1.alloc (.cells #[.int .i64 (f 0), .int .i64 (f 1), .int .i64 (f 2)] 51) := ⟨_, rfl⟩
  have hb2 : Below w1.heap.size w1 W2 := by rw [hW2]; exact (Below.refl _ _).alloc (Nat.le_refl _) _
  have hs2 : W2.heap[w1.heap.size]? = some (.cells #[.int .i64 (f 0), .int .i64 (f 1), .int .i64 (f 2)] 51 (0, 0)) := by rw [hW2]; exact heap_alloc_new w1 _
  have hl2 := (Array.getElem?_eq_some_iff.1 hs2).1
  have HB2 : Hid (Below w.heap.size w W2) := HO1.out.trans (hb2.mono HO1.out.size)
  obtain ⟨F, hFe⟩ : ∃ F, F = w1.heap.size := ⟨_, rfl⟩
  rw [← hFe] at hs2 hl2
  have HCF : Hid (∀ W, Below W2.heap.size W2 W → W.cell? ⟨F, 0, none⟩ = some (.int .i64 (f 0)) ∧ W.cell? ⟨F, 1, none⟩ = some (.int .i64 (f 1)) ∧ W.cell? ⟨F, 2, none⟩ = some (.int .i64 (f 2))) := fun W hW => by
    have h1 := (hW.block F hl2).trans hs2
    exact ⟨by simp [World.cell?, h1], by simp [World.cell?, h1], by simp [World.cell?, h1]⟩
  have c0 := HC0.out W2 (hb1.trans (hb2.mono hb1.size))
  obtain ⟨g0, g1, g2, g3⟩ := HG.out W2 HB2.out
  rw [hW2] at c0 g0 g1 g2 g3
  clear hb1 hb2 hs2 hl2 HC0 HG HFX
  go_wp2_with fail
  rw [← hW2, ← hFe, ← H0.out]
  clear hW2 hFe c0 g0 g1 g2 g3 HB0 HO1 H0
  go_loopw [5, 21] (fun tv iv wr => ∃ i : Nat, i ≤ 3 ∧ iv = .int .i64 i ∧ tv = .string (T i) ∧ Hid (Below W2.heap.size W2 wr)) (fun _ iv _ => 3 - (intOf iv).toNat)
  case atStart => exact ⟨0, by omega, rfl, rfl, Below.refl _ _⟩
  case round =>
    obtain ⟨i, hi, rfl, rfl, HBR⟩ := hrel
    obtain ⟨q0, q1, q2⟩ := HCF.out wr HBR.out
    have HBW : Hid (Below w.heap.size w wr) := HB2.out.trans (HBR.out.mono HB2.out.size)
    obtain h0 | h0 | h0 | h0 : i = 0 ∨ i = 1 ∨ i = 2 ∨ i = 3 := by omega
    · subst h0
      have hz := HZ.out 0 (by omega)
      have hzi := HZI.out 0 (by omega)
      have hzl := HZL.out 0 (by omega)
      have HS0 := hid (HSN.out 0)
      have HS1 := hid (HSL.out 0)
      have HS2 := hid (HSI.out 0)
      have HI1 := hid (HIT.out 0 (by omega) wr HBW.out)
      have HI2 := hid (HLB.out 0 (by omega) wr HBW.out)
      have HH := hid (HHL.out 0 wr)
      have hl := HL2.out 0
      generalize T 0 = T0 at *
      by_cases hs : sl 0 = 0
      · have hs' : ((sl 0 : Int) == 0) = true := by rw [hs]; rfl
        have HE := hid (HS0.out hs)
        clear HI1 HI2 HH hs HS0 HS1 HS2
        go_wp2_with fail
        go_roundw
        case rel => exact ⟨1, by omega, by go_num, congrArg Value.string HE.out.symm, HBR⟩
        case measure => simp [intOf]
      · have hs' : ((sl 0 : Int) == 0) = false := by rw [beq_eq_false_iff_ne]; omega
        by_cases hs2 : sl 0 = 2
        · have hs2' : ((sl 0 : Int) == 2) = true := by rw [hs2]; rfl
          by_cases ht : ToL n (f 0)
          · have HE := hid (HS1.out hs2 ht)
            rw [decide_eq_true ht] at HH
            clear hs hs2 ht HS0 HS1 HS2 HI1
            generalize bs (lblT (f 0)) = S at *
            go_wp2_with fail
            refine HH.out.mono ?_
            rintro e w5 ⟨rfl, rfl⟩
            go_wp2_with fail
            refine HI2.out.mono ?_
            rintro e w6 ⟨rfl, hb6⟩
            have HB6 : Hid (Below W2.heap.size W2 w6) := HBR.out.trans (hb6.mono HBR.out.size)
            clear hb6 HI2 HH
            go_wp2_with fail
            go_roundw
            case rel => exact ⟨1, by omega, by go_num, congrArg Value.string HE.out.symm, HB6⟩
            case measure => simp [intOf]
          · have HE := hid (HS2.out hs fun h => ht h.2)
            rw [decide_eq_false ht] at HH
            clear hs hs2 ht HS0 HS1 HS2 HI2
            generalize bs (Lib.itoa (f 0)) = S at *
            go_wp2_with fail
            refine HH.out.mono ?_
            rintro e w5 ⟨rfl, rfl⟩
            go_wp2_with fail
            refine HI1.out.mono ?_
            rintro e w6 ⟨rfl, hb6⟩
            have HB6 : Hid (Below W2.heap.size W2 w6) := HBR.out.trans (hb6.mono HBR.out.size)
            clear hb6 HI1 HH
            go_wp2_with fail
            go_roundw
            case rel => exact ⟨1, by omega, by go_num, congrArg Value.string HE.out.symm, HB6⟩
            case measure => simp [intOf]
        · have hs2' : ((sl 0 : Int) == 2) = false := by rw [beq_eq_false_iff_ne]; omega
          have HE := hid (HS2.out hs fun h => hs2 h.1)
          clear hs hs2 HS0 HS1 HS2 HI2 HH
          generalize bs (Lib.itoa (f 0)) = S at *
          go_wp2_with fail
          refine HI1.out.mono ?_
          rintro e w6 ⟨rfl, hb6⟩
          have HB6 : Hid (Below W2.heap.size W2 w6) := HBR.out.trans (hb6.mono HBR.out.size)
          clear hb6 HI1
          go_wp2_with fail
          go_roundw
          case rel => exact ⟨1, by omega, by go_num, congrArg Value.string HE.out.symm, HB6⟩
          case measure => simp [intOf]
    · subst h0
      have hz := HZ.out 1 (by omega)
      have hzi := HZI.out 1 (by omega)
      have hzl := HZL.out 1 (by omega)
      have HS0 := hid (HSN.out 1)
      have HS1 := hid (HSL.out 1)
      have HS2 := hid (HSI.out 1)
      have HI1 := hid (HIT.out 1 (by omega) wr HBW.out)
      have HI2 := hid (HLB.out 1 (by omega) wr HBW.out)
      have HH := hid (HHL.out 1 wr)
      have hl := HL2.out 1
      generalize T 1 = T0 at *
      by_cases hs : sl 1 = 0
      · have hs' : ((sl 1 : Int) == 0) = true := by rw [hs]; rfl
        have HE := hid (HS0.out hs)
        clear HI1 HI2 HH hs HS0 HS1 HS2
        go_wp2_with fail
        go_roundw
        case rel => exact ⟨2, by omega, by go_num, congrArg Value.string HE.out.symm, HBR⟩
        case measure => simp [intOf]
      · have hs' : ((sl 1 : Int) == 0) = false := by rw [beq_eq_false_iff_ne]; omega
        by_cases hs2 : sl 1 = 2
        · have hs2' : ((sl 1 : Int) == 2) = true := by rw [hs2]; rfl
          by_cases ht : ToL n (f 1)
          · have HE := hid (HS1.out hs2 ht)
            rw [decide_eq_true ht] at HH
            clear hs hs2 ht HS0 HS1 HS2 HI1
            generalize bs (lblT (f 1)) = S at *
            go_wp2_with fail
            refine HH.out.mono ?_
            rintro e w5 ⟨rfl, rfl⟩
            go_wp2_with fail
            refine HI2.out.mono ?_
            rintro e w6 ⟨rfl, hb6⟩
            have HB6 : Hid (Below W2.heap.size W2 w6) := HBR.out.trans (hb6.mono HBR.out.size)
            clear hb6 HI2 HH
            go_wp2_with fail
            go_roundw
            case rel => exact ⟨2, by omega, by go_num, congrArg Value.string HE.out.symm, HB6⟩
            case measure => simp [intOf]
          · have HE := hid (HS2.out hs fun h => ht h.2)
            rw [decide_eq_false ht] at HH
            clear hs hs2 ht HS0 HS1 HS2 HI2
            generalize bs (Lib.itoa (f 1)) = S at *
            go_wp2_with fail
            refine HH.out.mono ?_
            rintro e w5 ⟨rfl, rfl⟩
            go_wp2_with fail
            refine HI1.out.mono ?_
            rintro e w6 ⟨rfl, hb6⟩
            have HB6 : Hid (Below W2.heap.size W2 w6) := HBR.out.trans (hb6.mono HBR.out.size)
            clear hb6 HI1 HH
            go_wp2_with fail
            go_roundw
            case rel => exact ⟨2, by omega, by go_num, congrArg Value.string HE.out.symm, HB6⟩
            case measure => simp [intOf]
        · have hs2' : ((sl 1 : Int) == 2) = false := by rw [beq_eq_false_iff_ne]; omega
          have HE := hid (HS2.out hs fun h => hs2 h.1)
          clear hs hs2 HS0 HS1 HS2 HI2 HH
          generalize bs (Lib.itoa (f 1)) = S at *
          go_wp2_with fail
          refine HI1.out.mono ?_
          rintro e w6 ⟨rfl, hb6⟩
          have HB6 : Hid (Below W2.heap.size W2 w6) := HBR.out.trans (hb6.mono HBR.out.size)
          clear hb6 HI1
          go_wp2_with fail
          go_roundw
          case rel => exact ⟨2, by omega, by go_num, congrArg Value.string HE.out.symm, HB6⟩
          case measure => simp [intOf]
    · subst h0
      have hz := HZ.out 2 (by omega)
      have hzi := HZI.out 2 (by omega)
      have hzl := HZL.out 2 (by omega)
      have HS0 := hid (HSN.out 2)
      have HS1 := hid (HSL.out 2)
      have HS2 := hid (HSI.out 2)
      have HI1 := hid (HIT.out 2 (by omega) wr HBW.out)
      have HI2 := hid (HLB.out 2 (by omega) wr HBW.out)
      have HH := hid (HHL.out 2 wr)
      have hl := HL2.out 2
      generalize T 2 = T0 at *
      by_cases hs : sl 2 = 0
      · have hs' : ((sl 2 : Int) == 0) = true := by rw [hs]; rfl
        have HE := hid (HS0.out hs)
        clear HI1 HI2 HH hs HS0 HS1 HS2
        go_wp2_with fail
        go_roundw
        case rel => exact ⟨3, by omega, by go_num, congrArg Value.string HE.out.symm, HBR⟩
        case measure => simp [intOf]
      · have hs' : ((sl 2 : Int) == 0) = false := by rw [beq_eq_false_iff_ne]; omega
        by_cases hs2 : sl 2 = 2
        · have hs2' : ((sl 2 : Int) == 2) = true := by rw [hs2]; rfl
          by_cases ht : ToL n (f 2)
          · have HE := hid (HS1.out hs2 ht)
            rw [decide_eq_true ht] at HH
            clear hs hs2 ht HS0 HS1 HS2 HI1
            generalize bs (lblT (f 2)) = S at *
            go_wp2_with fail
            refine HH.out.mono ?_
            rintro e w5 ⟨rfl, rfl⟩
            go_wp2_with fail
            refine HI2.out.mono ?_
            rintro e w6 ⟨rfl, hb6⟩
            have HB6 : Hid (Below W2.heap.size W2 w6) := HBR.out.trans (hb6.mono HBR.out.size)
            clear hb6 HI2 HH
            go_wp2_with fail
            go_roundw
            case rel => exact ⟨3, by omega, by go_num, congrArg Value.string HE.out.symm, HB6⟩
            case measure => simp [intOf]
          · have HE := hid (HS2.out hs fun h => ht h.2)
            rw [decide_eq_false ht] at HH
            clear hs hs2 ht HS0 HS1 HS2 HI2
            generalize bs (Lib.itoa (f 2)) = S at *
            go_wp2_with fail
            refine HH.out.mono ?_
            rintro e w5 ⟨rfl, rfl⟩
            go_wp2_with fail
            refine HI1.out.mono ?_
            rintro e w6 ⟨rfl, hb6⟩
            have HB6 : Hid (Below W2.heap.size W2 w6) := HBR.out.trans (hb6.mono HBR.out.size)
            clear hb6 HI1 HH
            go_wp2_with fail
            go_roundw
            case rel => exact ⟨3, by omega, by go_num, congrArg Value.string HE.out.symm, HB6⟩
            case measure => simp [intOf]
        · have hs2' : ((sl 2 : Int) == 2) = false := by rw [beq_eq_false_iff_ne]; omega
          have HE := hid (HS2.out hs fun h => hs2 h.1)
          clear hs hs2 HS0 HS1 HS2 HI2 HH
          generalize bs (Lib.itoa (f 2)) = S at *
          go_wp2_with fail
          refine HI1.out.mono ?_
          rintro e w6 ⟨rfl, hb6⟩
          have HB6 : Hid (Below W2.heap.size W2 w6) := HBR.out.trans (hb6.mono HBR.out.size)
          clear hb6 HI1
          go_wp2_with fail
          go_roundw
          case rel => exact ⟨3, by omega, by go_num, congrArg Value.string HE.out.symm, HB6⟩
          case measure => simp [intOf]
    · subst h0
      go_wp2_with fail
      go_ret
      exact ⟨rfl, HBW.out⟩

end Go.Proofs.YtjibpfdhaejfdaaDoor
