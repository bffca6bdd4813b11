/- Package asm: targets: which instructions some field goes to. -/
import Derived.Test.YtjibpfdhaejfdaaDoorAqD
import Derived.Test.YtjibpfdhaejfdaaDoorAqS
namespace Go.Proofs.YtjibpfdhaejfdaaDoor
open Go.RowKit

/-- a row of yes and no -/
structure BRow (g n : Nat) (f : Nat → Bool) (w : World) : Prop where
  lt : g < w.heap.size
  cells : ∀ j, j < n → w.cell? ⟨g, j, none⟩ = some (.bool (f j))
  soft : ∀ j, w.frozen? ⟨g, j, none⟩ = false
  kd : ∃ c f, w.heap[g]? = some (.cells c 4 f)
theorem BRow.below {g n n0 : Nat} {f : Nat → Bool} {w w' : World} (h : BRow g n f w) (e : Below n0 w w') (hg : g < n0) : BRow g n f w' :=
  ⟨Nat.lt_of_lt_of_le h.lt e.size, fun j hj => (e.cell (p := ⟨g, j, none⟩) hg).trans (h.cells j hj), fun j => (World.frozen?_of_block (w := w) (a := ⟨g, j, none⟩) (e.block g hg)).trans (h.soft j), by obtain ⟨c, f', hk⟩ := h.kd; exact ⟨c, f', (e.block g hg).trans hk⟩⟩
theorem BRow.congr {g n : Nat} {f f' : Nat → Bool} {w : World} (h : BRow g n f w) (e : ∀ j, j < n → f' j = f j) : BRow g n f' w := ⟨h.lt, fun j hj => by rw [e j hj]; exact h.cells j hj, h.soft, h.kd⟩
theorem BRow.set {g n k : Nat} {f : Nat → Bool} {w : World} (h : BRow g n f w) (hk : k < n) : BRow g n (fun j => f j || decide (j = k)) (w.setCell ⟨g, k, none⟩ (.bool true)) := by
  refine ⟨by simpa using h.lt, fun j hj => ?_, fun j => by rw [World.frozen?_setCell]; exact h.soft j, ?_⟩
  rotate_left
  · obtain ⟨c, f', hk⟩ := h.kd
    have h1 : (w.setCell ⟨g, k, none⟩ (.bool true)).heap[g]? = some (.cells (c.setIfInBounds k (.bool true)) 4 f') := by
      show (w.heap.modify g _)[g]? = _
      rw [Array.getElem?_modify, if_pos rfl, hk]
      rfl
    exact ⟨_, _, h1⟩
  by_cases e : j = k
  · subst e
    simp only [decide_true, Bool.or_true]
    exact World.cell?_setCell_same _ _ _ (h.cells j hj)
  · rw [decide_eq_false e, Bool.or_false]
    exact (World.cell?_setCell_other _ _ _ _ (by intro e1; injection e1 with _ h2 _; omega)).trans (h.cells j hj)
theorem brow_start {base g n : Nat} {w : World} {vs : List Value} (hown : w.ownsRow base 4 1 (.slice (some ⟨g, 0, none⟩) n n) n vs) (hvs : vs = (madeCells #[.bool false] n).toList) {f : Nat → Bool} (hf : ∀ j, f j = false) : BRow g n f w := by
  refine ⟨(hown.lt g rfl).2, fun j hj => ?_, fun j => ?_, ?_⟩
  · rw [hown.cellAt j (by omega), hvs, hf j]
    simp [madeCells, hj, Nat.mod_one]
  · rcases hown.2 with ⟨e, _⟩ | ⟨g', cp', cur, e1, _, hgg, _⟩
    · cases e
    · injection e1 with e1 _ e3
      injection e1 with e1
      injection e1 with e1
      subst e1
      simp [World.frozen?, hgg]
  · rcases hown.2 with ⟨e, _⟩ | ⟨g', cp', cur, e1, _, hgg, _⟩
    · cases e
    · injection e1 with e1 _ e3
      injection e1 with e1
      injection e1 with e1
      subst e1
      exact ⟨_, _, hgg⟩
theorem BRow.others {g n b : Nat} {f : Nat → Bool} {w w' : World} (h : BRow g n f w) (e : Lib.OthersKept 5 (some b) w w') (hs : w.heap.size ≤ w'.heap.size) (hne : g ≠ b) : BRow g n f w' := by
  obtain ⟨c, fz, hk⟩ := h.kd
  have h1 : w'.heap[g]? = w.heap[g]? := (e g _ hk (fun e2 => hne (Option.some.inj e2)) (fun c' fz' e2 => by injection e2 with _ e3 _; exact absurd e3 (by decide))).trans hk.symm
  exact ⟨Nat.lt_of_lt_of_le h.lt hs, fun j hj => (World.cell?_of_block (w := w) (a := ⟨g, j, none⟩) h1).trans (h.cells j hj), fun j => (World.frozen?_of_block (w := w) (a := ⟨g, j, none⟩) h1).trans (h.soft j), ⟨c, fz, h1.trans hk⟩⟩

theorem mkb_same {L : List InsZ} {m i : Nat} (hi : i < 3) (n : Nat) (h : ¬ (fSl (insat L m).op.toNat i = 2 ∧ ToL n (fldz (insat L m) i))) : ∀ j, j < n + 1 → mkb L m (i + 1) j = mkb L m i j := fun j hj => by
  rw [mkb_more L m i j hi, decide_eq_false (fun h2 => h ⟨h2.1, by rw [h2.2]; unfold ToL; omega⟩), Bool.or_false]
theorem mkb_put {L : List InsZ} {m i v : Nat} (hi : i < 3) (h1 : fSl (insat L m).op.toNat i = 2) (h2 : fldz (insat L m) i = (v : Int)) (j : Nat) : mkb L m (i + 1) j = (mkb L m i j || decide (j = v)) := by
  rw [mkb_more L m i j hi]
  congr 1
  by_cases e : j = v
  · rw [decide_eq_true e, decide_eq_true ⟨h1, by rw [h2, e]⟩]
  · rw [decide_eq_false e, decide_eq_false (fun h => e (by have := h.2; rw [h2] at this; omega))]

set_option maxRecDepth 100000 in
set_option maxHeartbeats 4000000 in
theorem targets_any (aL : Option Addr) (cL : Nat) (L : List InsZ) (w : World) (hG : FmW w) (hn : L.length ≤ 4096) (hI : LstI w.heap.size w aL cL L) (hw : ∀ k, k < L.length → WrI (insat L k)) :
    Calls Tryd.prog 22 #[.slice aL L.length cL] w fun e w' => ∃ G, e = .returned (.slice (some ⟨G, 0, none⟩) (L.length + 1) (L.length + 1)) ∧ w.heap.size ≤ G ∧ BRow G (L.length + 1) (mkb L L.length 0) w' ∧ Below w.heap.size w w' := by
  obtain ⟨i0, hi, hz0, hz1, hz2⟩ := info_parts (show (Tryd.prog.info? 4).map (fun i => (i.zero, i.size, i.bytes)) = some (some (.bool false), 1, 1) by kernel_rfl)
  have HFI := hid (fun x W => fields_any x W)
  have HIX : Hid (∀ W, Below w.heap.size w W → ∀ k, k < L.length → ∃ b o, aL = some ⟨b, o, none⟩ ∧ W.cell? ⟨b, o + k * 4, none⟩ = some (.int .i64 (insat L k).op) ∧ W.cell? ⟨b, o + k * 4 + 1, none⟩ = some (.int .i64 (insat L k).a) ∧ W.cell? ⟨b, o + k * 4 + 2, none⟩ = some (.int .i64 (insat L k).b) ∧ W.cell? ⟨b, o + k * 4 + 3, none⟩ = some (.int .i64 (insat L k).c)) := fun W hW k hk => by
    obtain ⟨b, o, h1, _, h3, h4, h5, h6⟩ := (hI.below hW).row k hk
    exact ⟨b, o, h1, h3, h4, h5, h6⟩
  have HW := hid hw
  have HG := hid hG
  have HHL := hid (fun v W => hasLabel_any v L.length W)
  have HSM := hid (fun (m i : Nat) (hi : i < 3) h => mkb_same (L := L) (m := m) hi L.length h)
  have HST := hid (mkb_start L)
  have HNX := hid (mkb_next L)
  obtain ⟨n, hn'⟩ : ∃ n, n = L.length := ⟨_, rfl⟩
  simp only [← hn'] at HIX HW HHL HSM hn ⊢
  have hnw : IntKind.i64.wrap ((n : Int) + 1) = ((n + 1 : Nat) : Int) := by rw [IntKind.wrap_i64]; omega
  have HNN := hid hn'
  clear hI hw hG hn'
  go_enter Tryd.func22, Tryd.ntmps22
  go_wp2_with (refine wpList_make_full _ rfl _ _ _ rfl w.heap.size 4 i0 _ 1 Tryd.underlying36 hi hz0 hz1 .i64 .i64 _ _ (n + 1) rfl rfl rfl rfl (by rw [hz2]; omega) (by unfold maxLen; omega) (by simp) ?_)
  intro w1 hown hgr
  have hb1 : Below w.heap.size w w1 := ⟨hgr.os, hgr.tape, hgr.output, hgr.size, fun k hk => hgr.block k hk (by simp)⟩
  have HR1 : Hid (BRow w.heap.size (n + 1) (mkb L 0 0) w1) := brow_start hown rfl HST.out
  have HB1 := hid hb1
  obtain ⟨G, hG⟩ : ∃ G, G = w.heap.size := ⟨_, rfl⟩
  have HGE := hid hG
  rw [← hG] at HR1 ⊢
  clear hown hgr hb1 hG
  go_wp2_with fail
  go_loopw [5, 6, 15] (fun _ _ iv wr => ∃ m : Nat, m ≤ n ∧ iv = .int .i64 m ∧ Hid (BRow G (n + 1) (mkb L m 0) wr) ∧ Hid (Below w.heap.size w wr)) (fun _ _ iv _ => n - (intOf iv).toNat)
  case atStart => exact ⟨0, Nat.zero_le _, rfl, HR1, HB1⟩
  case round =>
    obtain ⟨m, hm, rfl, HR, HB⟩ := hrel
    by_cases hlt : m < n
    · have hlt2 : (m : Int) < (n : Int) := by omega
      have hms : IntKind.i64.wrap ((m : Int) + 1) = (m : Int) + 1 := by rw [IntKind.wrap_i64]; omega
      obtain ⟨b, o, rfl, x0, x1, x2, x3⟩ := HIX.out wr HB.out m hlt
      have hwm := HW.out m hlt
      have HS0 := hid (HSM.out m)
      have HPU : Hid (∀ (i v : Nat), i < 3 → fSl (insat L m).op.toNat i = 2 → fldz (insat L m) i = (v : Int) → ∀ j, mkb L m (i + 1) j = (mkb L m i j || decide (j = v))) := fun i v h1 h2 h5 j => mkb_put h1 h2 h5 j
      have HN0 := hid (HNX.out m)
      generalize hM : mkb L m = M at *
      generalize hM1 : mkb L (m + 1) 0 = M1 at *
      generalize insat L m = x at *
      obtain ⟨⟨hop0, hop1⟩, hF⟩ := hwm
      obtain ⟨op, hop⟩ : ∃ op : Nat, x.op = (op : Int) := ⟨x.op.toNat, by omega⟩
      have hopt : x.op.toNat = op := by omega
      have hop14 : op < 14 := by omega
      have hop2 : (op : Int) < 14 := by omega
      rw [hopt] at HS0 HPU
      have HG9 : Hid (∀ W, Below w.heap.size w W → W.cell? ⟨0, op * 4 + 1, none⟩ = some (.int .i64 (fSl op 0 : Nat)) ∧ W.cell? ⟨0, op * 4 + 2, none⟩ = some (.int .i64 (fSl op 1 : Nat)) ∧ W.cell? ⟨0, op * 4 + 3, none⟩ = some (.int .i64 (fSl op 2 : Nat))) := fun W hW => by
        have h := HG.out.keep hW
        exact ⟨h.s0 op hop14, h.s1 op hop14, h.s2 op hop14⟩
      have HFX : Hid (∀ W, Calls Tryd.prog 19 #[.agg #[.int .i64 (op : Int), .int .i64 x.a, .int .i64 x.b, .int .i64 x.c]] W fun e w' => e = .returned (.agg #[.int .i64 (fldz x 0), .int .i64 (fldz x 1), .int .i64 (fldz x 2)]) ∧ Below W.heap.size W w') := fun W => by rw [← hop]; exact HFI.out x W
      obtain ⟨sl, hsl⟩ : ∃ sl : Nat → Nat, sl = fSl op := ⟨_, rfl⟩
      obtain ⟨f, hf⟩ : ∃ f : Nat → Int, f = fldz x := ⟨_, rfl⟩
      rw [← hsl] at HG9 HS0 HPU
      rw [← hf] at HFX HS0 HPU
      have j0 := idx3_0 (.int .i64 (sl 0 : Int)) (.int .i64 (sl 1 : Int)) (.int .i64 (sl 2 : Int))
      have j1 := idx3_1 (.int .i64 (sl 0 : Int)) (.int .i64 (sl 1 : Int)) (.int .i64 (sl 2 : Int))
      have j2 := idx3_2 (.int .i64 (sl 0 : Int)) (.int .i64 (sl 1 : Int)) (.int .i64 (sl 2 : Int))
      rw [hop] at x0
      obtain ⟨W2, hW2⟩ : ∃ W2, W2 = wr.alloc (.cells #[.int .i64 (op : Int), .int .i64 x.a, .int .i64 x.b, .int .i64 x.c] 40) := ⟨_, rfl⟩
      have hb2 : Below wr.heap.size wr W2 := by rw [hW2]; exact (Below.refl _ _).alloc (Nat.le_refl _) _
      have hs2 : W2.heap[wr.heap.size]? = some (.cells #[.int .i64 (op : Int), .int .i64 x.a, .int .i64 x.b, .int .i64 x.c] 40 (0, 0)) := by rw [hW2]; exact heap_alloc_new wr _
      have hl2 := (Array.getElem?_eq_some_iff.1 hs2).1
      obtain ⟨B, hB⟩ : ∃ B, B = wr.heap.size := ⟨_, rfl⟩
      rw [← hB] at hs2 hl2
      have HC2 : Hid (∀ W, Below W2.heap.size W2 W → W.cell? ⟨B, 0, none⟩ = some (.int .i64 (op : Int))) := fun W hW => by
        have h1 := (hW.block B hl2).trans hs2
        simp [World.cell?, h1]
      have HB2 := hid hb2
      have HO2 : Hid (Below w.heap.size w W2) := HB.out.trans (hb2.mono HB.out.size)
      generalize x.a = xa at *
      generalize x.b = xb at *
      generalize x.c = xc at *
      clear hop0 hop1 hF hop hopt hop14 hsl hf hb2 hs2 hl2
      go_wp2_with fail
      rw [← hW2, ← hB]
      clear hW2 hB x0 x1 x2 x3
      refine (HFX.out W2).mono ?_
      rintro e w3 ⟨rfl, hb3⟩
      have HO3 : Hid (Below w.heap.size w w3) := HO2.out.trans (hb3.mono HO2.out.size)
      obtain ⟨W4, hW4⟩ : ∃ W4, W4 = w3.alloc (.cells #[.int .i64 (f 0), .int .i64 (f 1), .int .i64 (f 2)] 51) := ⟨_, rfl⟩
      have hb4 : Below w3.heap.size w3 W4 := by rw [hW4]; exact (Below.refl _ _).alloc (Nat.le_refl _) _
      have hs4 : W4.heap[w3.heap.size]? = some (.cells #[.int .i64 (f 0), .int .i64 (f 1), .int .i64 (f 2)] 51 (0, 0)) := by rw [hW4]; exact heap_alloc_new w3 _
      have hl4 := (Array.getElem?_eq_some_iff.1 hs4).1
      have HO4 : Hid (Below w.heap.size w W4) := HO3.out.trans (hb4.mono HO3.out.size)
      have c0 := HC2.out W4 (hb3.trans (hb4.mono hb3.size))
      obtain ⟨g1, g2, g3⟩ := HG9.out W4 HO4.out
      rw [hW4] at c0 g1 g2 g3
      have HR4 : Hid (BRow G (n + 1) (M 0) W4) := (HR.out.below ((HB2.out.trans (hb3.mono HB2.out.size)).trans (hb4.mono (Nat.le_trans HB2.out.size hb3.size))) HR.out.lt)
      obtain ⟨F, hFe⟩ : ∃ F, F = w3.heap.size := ⟨_, rfl⟩
      have hGF : G < F := by
        have h1 := HR.out.lt
        have h2 := HB2.out.size
        have h5 := hb3.size
        omega
      rw [← hFe] at hs4 hl4
      have HF4 : Hid (W4.heap[F]? = some (.cells #[.int .i64 (f 0), .int .i64 (f 1), .int .i64 (f 2)] 51 (0, 0))) := hs4
      clear hb3 hb4 hs4 hl4 HFX HR HB HO2 HO3 HB2
      go_wp2_with fail
      rw [← hW4, ← hFe]
      clear hW4 hFe c0 g1 g2 g3
      go_loopw [7, 8, 26] (fun _ _ iv wi => ∃ i : Nat, i ≤ 3 ∧ iv = .int .i64 i ∧ Hid (BRow G (n + 1) (M i) wi) ∧ Hid (Below w.heap.size w wi) ∧ Hid (wi.heap[F]? = some (.cells #[.int .i64 (f 0), .int .i64 (f 1), .int .i64 (f 2)] 51 (0, 0)))) (fun _ _ iv _ => 3 - (intOf iv).toNat)
      case atStart => exact ⟨0, by omega, rfl, HR4, HO4, HF4⟩
      case round =>
        obtain ⟨i, hi3, rfl, HR, HB, HF⟩ := hrel
        obtain h0 | h0 | h0 | h0 : i = 0 ∨ i = 1 ∨ i = 2 ∨ i = 3 := by omega
        · subst h0
          have q0 : wr.cell? ⟨F, 0, none⟩ = some (.int .i64 (f 0)) := by simp [World.cell?, HF.out]
          have HH := hid (HHL.out (f 0) wr)
          have HS1 := hid (HS0.out 0 (by omega))
          have HP1 := hid (fun v => HPU.out 0 v (by omega))
          by_cases hs : sl 0 = 2
          · have hs' : ((sl 0 : Int) == 2) = true := by rw [hs]; rfl
            by_cases ht : ToL n (f 0)
            · obtain ⟨v, hv⟩ : ∃ v : Nat, f 0 = (v : Int) := ⟨(f 0).toNat, by have := ht.1; omega⟩
              have hvn : v < n + 1 := by have := ht.2; omega
              have hvn2 : (v : Int) < ((n + 1 : Nat) : Int) := by omega
              have HE := hid (HP1.out v hs hv)
              rw [decide_eq_true ht] at HH
              have HR2 : Hid (BRow G (n + 1) (M 1) (wr.setCell ⟨G, v, none⟩ (.bool true))) := (HR.out.set hvn).congr (fun j _ => HE.out j)
              have HB2 : Hid (Below w.heap.size w (wr.setCell ⟨G, v, none⟩ (.bool true))) := HB.out.setCell (p := ⟨G, v, none⟩) (by rw [HGE.out]; exact Nat.le_refl _) _
              have HF2 : Hid ((wr.setCell ⟨G, v, none⟩ (.bool true)).heap[F]? = some (.cells #[.int .i64 (f 0), .int .i64 (f 1), .int .i64 (f 2)] 51 (0, 0))) := by unfold Hid; rw [Below.heap_setCell _ _ _ _ (by show F ≠ G; omega)]; exact HF.out
              have k1 := HR.out.cells v hvn
              have k2 := HR.out.soft v
              rw [hv] at q0 HH
              clear hs ht hv HS1 HP1 HE HR HB HF
              go_wp2_with fail
              refine HH.out.mono ?_
              rintro e w5 ⟨rfl, rfl⟩
              go_wp2_with fail
              go_roundw
              case rel => exact ⟨1, by omega, by go_num, HR2, HB2, HF2⟩
              case measure => simp [intOf]
            · have HR2 : Hid (BRow G (n + 1) (M 1) wr) := HR.out.congr (HS1.out fun h => ht h.2)
              rw [decide_eq_false ht] at HH
              clear hs ht HS1 HP1 HR
              go_wp2_with fail
              refine HH.out.mono ?_
              rintro e w5 ⟨rfl, rfl⟩
              go_wp2_with fail
              go_roundw
              case rel => exact ⟨1, by omega, by go_num, HR2, HB, HF⟩
              case measure => simp [intOf]
          · have hs' : ((sl 0 : Int) == 2) = false := by rw [beq_eq_false_iff_ne]; omega
            have HR2 : Hid (BRow G (n + 1) (M 1) wr) := HR.out.congr (HS1.out fun h => hs h.1)
            clear hs HS1 HP1 HR HH
            go_wp2_with fail
            go_roundw
            case rel => exact ⟨1, by omega, by go_num, HR2, HB, HF⟩
            case measure => simp [intOf]
        · subst h0
          have q0 : wr.cell? ⟨F, 1, none⟩ = some (.int .i64 (f 1)) := by simp [World.cell?, HF.out]
          have HH := hid (HHL.out (f 1) wr)
          have HS1 := hid (HS0.out 1 (by omega))
          have HP1 := hid (fun v => HPU.out 1 v (by omega))
          by_cases hs : sl 1 = 2
          · have hs' : ((sl 1 : Int) == 2) = true := by rw [hs]; rfl
            by_cases ht : ToL n (f 1)
            · obtain ⟨v, hv⟩ : ∃ v : Nat, f 1 = (v : Int) := ⟨(f 1).toNat, by have := ht.1; omega⟩
              have hvn : v < n + 1 := by have := ht.2; omega
              have hvn2 : (v : Int) < ((n + 1 : Nat) : Int) := by omega
              have HE := hid (HP1.out v hs hv)
              rw [decide_eq_true ht] at HH
              have HR2 : Hid (BRow G (n + 1) (M 2) (wr.setCell ⟨G, v, none⟩ (.bool true))) := (HR.out.set hvn).congr (fun j _ => HE.out j)
              have HB2 : Hid (Below w.heap.size w (wr.setCell ⟨G, v, none⟩ (.bool true))) := HB.out.setCell (p := ⟨G, v, none⟩) (by rw [HGE.out]; exact Nat.le_refl _) _
              have HF2 : Hid ((wr.setCell ⟨G, v, none⟩ (.bool true)).heap[F]? = some (.cells #[.int .i64 (f 0), .int .i64 (f 1), .int .i64 (f 2)] 51 (0, 0))) := by unfold Hid; rw [Below.heap_setCell _ _ _ _ (by show F ≠ G; omega)]; exact HF.out
              have k1 := HR.out.cells v hvn
              have k2 := HR.out.soft v
              rw [hv] at q0 HH
              clear hs ht hv HS1 HP1 HE HR HB HF
              go_wp2_with fail
              refine HH.out.mono ?_
              rintro e w5 ⟨rfl, rfl⟩
              go_wp2_with fail
              go_roundw
              case rel => exact ⟨2, by omega, by go_num, HR2, HB2, HF2⟩
              case measure => simp [intOf]
            · have HR2 : Hid (BRow G (n + 1) (M 2) wr) := HR.out.congr (HS1.out fun h => ht h.2)
              rw [decide_eq_false ht] at HH
              clear hs ht HS1 HP1 HR
              go_wp2_with fail
              refine HH.out.mono ?_
              rintro e w5 ⟨rfl, rfl⟩
              go_wp2_with fail
              go_roundw
              case rel => exact ⟨2, by omega, by go_num, HR2, HB, HF⟩
              case measure => simp [intOf]
          · have hs' : ((sl 1 : Int) == 2) = false := by rw [beq_eq_false_iff_ne]; omega
            have HR2 : Hid (BRow G (n + 1) (M 2) wr) := HR.out.congr (HS1.out fun h => hs h.1)
            clear hs HS1 HP1 HR HH
            go_wp2_with fail
            go_roundw
            case rel => exact ⟨2, by omega, by go_num, HR2, HB, HF⟩
            case measure => simp [intOf]
        · subst h0
          have q0 : wr.cell? ⟨F, 2, none⟩ = some (.int .i64 (f 2)) := by simp [World.cell?, HF.out]
          have HH := hid (HHL.out (f 2) wr)
          have HS1 := hid (HS0.out 2 (by omega))
          have HP1 := hid (fun v => HPU.out 2 v (by omega))
          by_cases hs : sl 2 = 2
          · have hs' : ((sl 2 : Int) == 2) = true := by rw [hs]; rfl
            by_cases ht : ToL n (f 2)
            · obtain ⟨v, hv⟩ : ∃ v : Nat, f 2 = (v : Int) := ⟨(f 2).toNat, by have := ht.1; omega⟩
              have hvn : v < n + 1 := by have := ht.2; omega
              have hvn2 : (v : Int) < ((n + 1 : Nat) : Int) := by omega
              have HE := hid (HP1.out v hs hv)
              rw [decide_eq_true ht] at HH
              have HR2 : Hid (BRow G (n + 1) (M 3) (wr.setCell ⟨G, v, none⟩ (.bool true))) := (HR.out.set hvn).congr (fun j _ => HE.out j)
              have HB2 : Hid (Below w.heap.size w (wr.setCell ⟨G, v, none⟩ (.bool true))) := HB.out.setCell (p := ⟨G, v, none⟩) (by rw [HGE.out]; exact Nat.le_refl _) _
              have HF2 : Hid ((wr.setCell ⟨G, v, none⟩ (.bool true)).heap[F]? = some (.cells #[.int .i64 (f 0), .int .i64 (f 1), .int .i64 (f 2)] 51 (0, 0))) := by unfold Hid; rw [Below.heap_setCell _ _ _ _ (by show F ≠ G; omega)]; exact HF.out
              have k1 := HR.out.cells v hvn
              have k2 := HR.out.soft v
              rw [hv] at q0 HH
              clear hs ht hv HS1 HP1 HE HR HB HF
              go_wp2_with fail
              refine HH.out.mono ?_
              rintro e w5 ⟨rfl, rfl⟩
              go_wp2_with fail
              go_roundw
              case rel => exact ⟨3, by omega, by go_num, HR2, HB2, HF2⟩
              case measure => simp [intOf]
            · have HR2 : Hid (BRow G (n + 1) (M 3) wr) := HR.out.congr (HS1.out fun h => ht h.2)
              rw [decide_eq_false ht] at HH
              clear hs ht HS1 HP1 HR
              go_wp2_with fail
              refine HH.out.mono ?_
              rintro e w5 ⟨rfl, rfl⟩
              go_wp2_with fail
              go_roundw
              case rel => exact ⟨3, by omega, by go_num, HR2, HB, HF⟩
              case measure => simp [intOf]
          · have hs' : ((sl 2 : Int) == 2) = false := by rw [beq_eq_false_iff_ne]; omega
            have HR2 : Hid (BRow G (n + 1) (M 3) wr) := HR.out.congr (HS1.out fun h => hs h.1)
            clear hs HS1 HP1 HR HH
            go_wp2_with fail
            go_roundw
            case rel => exact ⟨3, by omega, by go_num, HR2, HB, HF⟩
            case measure => simp [intOf]
        · subst h0
          have HR2 : Hid (BRow G (n + 1) M1 wr) := HR.out.congr (fun j _ => (HN0.out j).symm)
          clear HR
          go_wp2_with fail
          go_roundw
          case rel => exact ⟨m + 1, by omega, by go_num, by rw [hM1]; exact HR2, HB⟩
          case measure => simp [intOf]; omega
    · obtain rfl : m = n := by omega
      have hlt2 : ¬ (m : Int) < (m : Int) := by omega
      have HE : Hid (w.heap.size ≤ G ∧ BRow G (m + 1) (mkb L m 0) wr ∧ Below w.heap.size w wr) := ⟨by rw [HGE.out]; exact Nat.le_refl _, HR.out, HB.out⟩
      clear HR HB
      go_wp2_with fail
      go_ret
      exact ⟨G, rfl, HE.out⟩

end Go.Proofs.YtjibpfdhaejfdaaDoor
