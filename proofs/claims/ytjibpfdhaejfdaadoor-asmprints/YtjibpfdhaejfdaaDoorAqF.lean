/- Package asm: written, Print. -/
import Derived.Test.YtjibpfdhaejfdaaDoorAqE
namespace Go.Proofs.YtjibpfdhaejfdaaDoor
open Go.RowKit

theorem bldF_keep {T e : TypeId} {B b : Nat} {p : Value} {l : List Value} {w w' : World} (h : Lib.BuilderAtF T e B b p l w) (hb : Below w.heap.size w w') : Lib.BuilderAtF T e B b p l w' := by
  have hlt := h.lt
  obtain ⟨h1, v, h2, h3, h4⟩ := h
  refine ⟨h1, v, (hb.block b hlt).trans h2, World.ownsRowF.kept (row := none) h3 ⟨hb.os, hb.tape, hb.output, hb.size, fun k hk _ => hb.block k hk⟩ (by cases v.ownBlock <;> simp), h4⟩
theorem isbF_keep {T e : TypeId} {B b : Nat} {l : List Value} {w w' : World} (h : Lib.IsBuilderF T e B b l w) (hb : Below w.heap.size w w') : Lib.IsBuilderF T e B b l w' := by
  rcases h with h | h
  · exact .inl (bldF_keep h hb)
  · exact .inr (bldF_keep h hb)
theorem isbF_lt {T e : TypeId} {B b : Nat} {l : List Value} {w : World} (h : Lib.IsBuilderF T e B b l w) : b < w.heap.size := by
  rcases h with h | h
  · exact h.lt
  · exact h.lt
theorem bs_cellsA (l : List UInt8) : Lib.strCells (bs l) = Lib.byteCells l := by simp [Lib.strCells_eq, bs]
/-- what a builder in a block holds -/
abbrev BldA (b : Nat) (l : List UInt8) (w : World) : Prop := Lib.IsBuilderF 56 5 b b (Lib.byteCells l) w
theorem wstr_any (b : Nat) (l S : List UInt8) (W : World) (h : BldA b l W) (hlen : l.length + S.length ≤ 1000000) :
    Calls Tryd.prog 20 #[.pointer (some ⟨b, 0, none⟩), .string (bs S)] W fun e w' => e = .returned (.tuple #[.int .i64 ((bs S).size : Nat), .nilIface]) ∧ BldA b (l ++ S) w' ∧ Below b W w' ∧ Lib.OthersKept 5 (some b) W w' := by
  refine (Tryd.Builder_WriteString_k b b (Lib.byteCells l) (bs S) W h (by rw [Lib.byteCells_length, bs_size]; omega) (Nat.le_of_lt (isbF_lt h))).mono ?_
  rintro e w' ⟨rfl, h1, h2, h3⟩
  refine ⟨rfl, .inr ?_, h2, h3⟩
  rw [bs_cellsA, ← Lib.byteCells_append] at h1
  exact h1

set_option maxRecDepth 100000 in
set_option maxHeartbeats 4000000 in
theorem written_any (size : Int) (aL : Option Addr) (cL : Nat) (L : List InsZ) (w : World) (hG : FmW w) (hP : PowA w) (hn : L.length ≤ 4096) (hI : LstI w.heap.size w aL cL L) (hC : WrC size L) :
    Calls Tryd.prog 8 #[.agg #[.int .i64 size, .slice aL L.length cL]] w fun e w' => e = .returned (.string (bs (prT size L))) ∧ Below w.heap.size w w' := by
  obtain ⟨V0, hV0⟩ : ∃ V0, V0 = w.alloc (.cells #[.int .i64 size, .slice aL L.length cL] 24) := ⟨_, rfl⟩
  have hs0 : V0.heap[w.heap.size]? = some (.cells #[.int .i64 size, .slice aL L.length cL] 24 (0, 0)) := by rw [hV0]; exact heap_alloc_new w _
  have bV0 : Below w.heap.size w V0 := by rw [hV0]; exact (Below.refl _ _).alloc (Nat.le_refl _) _
  have hz0 : V0.heap.size = w.heap.size + 1 := by rw [hV0]; simp
  obtain ⟨V, hV⟩ : ∃ V, V = V0.alloc (.cells #[.pointer none, .slice none 0 0] 56) := ⟨_, rfl⟩
  have bV : Below V0.heap.size V0 V := by rw [hV]; exact (Below.refl _ _).alloc (Nat.le_refl _) _
  have HBV : Hid (Below w.heap.size w V) := bV0.trans (bV.mono bV0.size)
  obtain ⟨b0, hb0⟩ : ∃ b0, b0 = w.heap.size + 1 := ⟨_, rfl⟩
  have HI0 : Hid (BldA b0 [] V) := by
    unfold Hid BldA
    rw [hV, hb0, ← hz0]
    exact Lib.IsBuilderF.of (Lib.fresh_isBuilder _ _ V0)
  have HC0 : Hid (∀ W, Below b0 V W → W.cell? ⟨w.heap.size, 0, none⟩ = some (.int .i64 size) ∧ W.cell? ⟨w.heap.size, 1, none⟩ = some (.slice aL L.length cL)) := fun W hW => by
    have h1 := (hW.block w.heap.size (by omega)).trans ((bV.block w.heap.size (by omega)).trans hs0)
    exact ⟨by simp [World.cell?, h1], by simp [World.cell?, h1]⟩
  have HIX : Hid (∀ W, Below w.heap.size w W → ∀ k, k < L.length → ∃ b o, aL = some ⟨b, o, none⟩ ∧ W.cell? ⟨b, o + k * 4, none⟩ = some (.int .i64 (insat L k).op) ∧ W.cell? ⟨b, o + k * 4 + 1, none⟩ = some (.int .i64 (insat L k).a) ∧ W.cell? ⟨b, o + k * 4 + 2, none⟩ = some (.int .i64 (insat L k).b) ∧ W.cell? ⟨b, o + k * 4 + 3, none⟩ = some (.int .i64 (insat L k).c)) := fun W hW k hk => by
    obtain ⟨b, o, h1, _, h3, h4, h5, h6⟩ := (hI.below hW).row k hk
    exact ⟨b, o, h1, h3, h4, h5, h6⟩
  have hsz := hC.1
  have HIT : Hid (∀ W, Below w.heap.size w W → Calls Tryd.prog 21 #[.int .i64 size] W fun e w' => e = .returned (.string (bs (Lib.itoa size))) ∧ Below W.heap.size W w') := fun W hW => itz_any size W (by have := hsz.1; omega) (by have := hsz.2; omega) (hP.keep hW)
  have HTG : Hid (∀ W, Below w.heap.size w W → Calls Tryd.prog 22 #[.slice aL L.length cL] W fun e w' => ∃ G, e = .returned (.slice (some ⟨G, 0, none⟩) (L.length + 1) (L.length + 1)) ∧ W.heap.size ≤ G ∧ BRow G (L.length + 1) (mkb L L.length 0) w' ∧ Below W.heap.size W w') := fun W hW => targets_any aL cL L W (hG.keep hW) hn ((hI.below hW).mono hW.size) hC.2
  have HIN : Hid (∀ k, k < L.length → ∀ W, Below w.heap.size w W → Calls Tryd.prog 24 #[.agg #[.int .i64 (insat L k).op, .int .i64 (insat L k).a, .int .i64 (insat L k).b, .int .i64 (insat L k).c], .int .i64 (L.length : Int)] W fun e w' => e = .returned (.string (bs (insT L.length (insat L k) 3))) ∧ Below W.heap.size W w') := fun k hk W hW => instr_any (insat L k) L.length W (hG.keep hW) (hP.keep hW) (hC.2 k hk)
  have HLB : Hid (∀ k : Nat, k ≤ L.length → ∀ W, Below w.heap.size w W → Calls Tryd.prog 23 #[.int .i64 (k : Int)] W fun e w' => e = .returned (.string (bs (lblT k))) ∧ Below W.heap.size W w') := fun k hk W hW => label_any (k : Int) W (by omega) (by omega) (hP.keep hW)
  have HZB : Hid (∀ k, k ≤ L.length → (bodT size L k).length ≤ 500000) := fun k hk => by have := bodT_len size L hC hn k hk; omega
  have HZL : Hid (∀ k : Nat, k ≤ L.length → (lblT k).length ≤ 30) := fun k hk => by
    have := itz_len (k : Int) (.inr (by omega))
    unfold lblT
    simp
    omega
  have HZI : Hid (∀ k, k < L.length → (insT L.length (insat L k) 3).length ≤ 100) := fun k hk => by have := insT_len L.length (insat L k) (hC.2 k hk).2 3 (by omega); omega
  have hzs : (bs (Lib.itoa size)).size ≤ 21 := by rw [bs_size]; exact itz_len _ (.inl hsz)
  have HW1 : Hid (∀ k, lnT L k = if mkb L L.length 0 k then lblT k ++ [58, 10] else []) := fun k => rfl
  have HBS : Hid (∀ k, bodT size L (k + 1) = bodT size L k ++ lnT L k ++ (insT L.length (insat L k) 3 ++ [10])) := fun k => rfl
  have HB0 : Hid (bodT size L 0 = [115, 105, 122, 101, 32] ++ Lib.itoa size ++ [10]) := rfl
  have HPR : Hid (prT size L = bodT size L L.length ++ lnT L L.length) := rfl
  have HS0 : Hid (bs ([115, 105, 122, 101, 32] ++ Lib.itoa size ++ [10]) = (⟨#[115, 105, 122, 101, 32]⟩ : ByteArray) ++ bs (Lib.itoa size) ++ (⟨#[10]⟩ : ByteArray)) := by
    unfold Hid
    rw [← bs_app, ← bs_app]
    rfl
  obtain ⟨n, hn'⟩ : ∃ n, n = L.length := ⟨_, rfl⟩
  have hlw : w.heap.size < b0 := by omega
  simp only [← hn'] at HIX HTG HIN HLB HZB HZL HZI HW1 HBS HPR HC0 hn hV0 ⊢
  have cc := (HC0.out V (Below.refl _ _)).1
  have cc1 := (HC0.out V (Below.refl _ _)).2
  rw [hV, hV0] at cc cc1
  rw [hV0] at hV
  clear hs0 bV0 bV hI hG hP hC hsz hn'
  go_enter Tryd.func8, Tryd.ntmps8
  go_wp2_with fail
  rw [← hV, ← hb0]
  clear hb0
  refine (HIT.out V HBV.out).mono ?_
  rintro e w1 ⟨rfl, hb1⟩
  have hbV := isbF_lt HI0.out
  have HI1 : Hid (BldA b0 [] w1) := isbF_keep HI0.out hb1
  have HV1 : Hid (Below b0 V w1) := hb1.mono (Nat.le_of_lt hbV)
  have HB1 : Hid (Below w.heap.size w w1) := HBV.out.trans (hb1.mono HBV.out.size)
  have HW := hid (wstr_any b0 [] ([115, 105, 122, 101, 32] ++ Lib.itoa size ++ [10]) w1 HI1.out (by have := HZB.out 0 (Nat.zero_le _); rw [HB0.out] at this; simp only [List.length_nil]; omega))
  rw [HS0.out, List.nil_append, ← HB0.out] at HW
  clear cc cc1 hV hV0 hb1 HIT HI0 HI1 HS0
  generalize bs (Lib.itoa size) = SZ at *
  go_wp2_with fail
  refine HW.out.mono ?_
  rintro e w2 ⟨rfl, hbl2, hb2, _⟩
  have HI2 : Hid (BldA b0 (bodT size L 0) w2) := hbl2
  have HV2 : Hid (Below b0 V w2) := HV1.out.trans hb2
  have HB2 : Hid (Below w.heap.size w w2) := HB1.out.trans (hb2.mono (Nat.le_of_lt hlw))
  have cc1 := (HC0.out w2 HV2.out).2
  have hlt2 := isbF_lt hbl2
  clear hbl2 hb2 HW HV1 HB1
  go_wp2_with fail
  refine (HTG.out w2 HB2.out).mono ?_
  rintro e w3 ⟨G, rfl, hG3, hR3, hb3⟩
  have HI3 : Hid (BldA b0 (bodT size L 0) w3) := isbF_keep HI2.out hb3
  have HV3 : Hid (Below b0 V w3) := HV2.out.trans (hb3.mono (Nat.le_of_lt hlt2))
  have HR3 := hid hR3
  have HGB : Hid (G ≠ b0) := by unfold Hid; omega
  have HWV : Hid (∀ W, Below b0 V W → Below w.heap.size w W) := fun W hW => HBV.out.trans (hW.mono (Nat.le_of_lt hlw))
  clear cc1
  have cc1 := (HC0.out w3 HV3.out).2
  clear hb3 hR3 hG3 HI2 HV2 HB2 HTG hlt2
  generalize mkb L n 0 = M at *
  go_wp2_with fail
  clear cc1
  go_loopw [5, 6, 19] (fun _ _ iv wr => ∃ k : Nat, k ≤ n ∧ iv = .int .i64 k ∧ Hid (BldA b0 (bodT size L k) wr) ∧ Hid (BRow G (n + 1) M wr) ∧ Hid (Below b0 V wr)) (fun _ _ iv _ => n - (intOf iv).toNat)
  case atStart => exact ⟨0, Nat.zero_le _, rfl, HI3, HR3, HV3⟩
  case round =>
    obtain ⟨k, hk, rfl, HI, HR, HVr⟩ := hrel
    by_cases hlt : k < n
    · have hlt2 : (k : Int) < (n : Int) := by omega
      have hlt3 : (k : Int) < ((n + 1 : Nat) : Int) := by omega
      have hks : IntKind.i64.wrap ((k : Int) + 1) = (k : Int) + 1 := by rw [IntKind.wrap_i64]; omega
      obtain ⟨b, o, rfl, x0, x1, x2, x3⟩ := HIX.out wr (HWV.out wr HVr.out) k hlt
      have HINk := hid (HIN.out k hlt)
      have HLBk := hid (HLB.out k hk)
      have hz1 := HZB.out k hk
      have hz2 := HZL.out k hk
      have hz3 := HZI.out k hlt
      have HW1k := hid (HW1.out k)
      have HBSk := hid (HBS.out k)
      generalize insat L k = x at *
      obtain ⟨W4, hW4⟩ : ∃ W4, W4 = wr.alloc (.cells #[.int .i64 x.op, .int .i64 x.a, .int .i64 x.b, .int .i64 x.c] 40) := ⟨_, rfl⟩
      have hb4 : Below wr.heap.size wr W4 := by rw [hW4]; exact (Below.refl _ _).alloc (Nat.le_refl _) _
      have hs4 : W4.heap[wr.heap.size]? = some (.cells #[.int .i64 x.op, .int .i64 x.a, .int .i64 x.b, .int .i64 x.c] 40 (0, 0)) := by rw [hW4]; exact heap_alloc_new wr _
      have hbr := isbF_lt HI.out
      have HI4 : Hid (BldA b0 (bodT size L k) W4) := isbF_keep HI.out hb4
      have HR4 : Hid (BRow G (n + 1) M W4) := HR.out.below hb4 HR.out.lt
      have HV4 : Hid (Below b0 V W4) := HVr.out.trans (hb4.mono (Nat.le_of_lt hbr))
      obtain ⟨B, hB⟩ : ∃ B, B = wr.heap.size := ⟨_, rfl⟩
      rw [← hB] at hs4
      have hBb : B ≠ b0 := by omega
      have HBE := hid hB
      have HX : Hid (∀ W : World, W.heap[B]? = some (.cells #[.int .i64 x.op, .int .i64 x.a, .int .i64 x.b, .int .i64 x.c] 40 (0, 0)) → W.cell? ⟨B, 0, none⟩ = some (.int .i64 x.op) ∧ W.cell? ⟨B, 1, none⟩ = some (.int .i64 x.a) ∧ W.cell? ⟨B, 2, none⟩ = some (.int .i64 x.b) ∧ W.cell? ⟨B, 3, none⟩ = some (.int .i64 x.c)) := fun W h1 => ⟨by simp [World.cell?, h1], by simp [World.cell?, h1], by simp [World.cell?, h1], by simp [World.cell?, h1]⟩
      have HS4 := hid hs4
      have q1 := HR4.out.cells k (by omega)
      rw [hW4] at q1
      have HLAST : Hid (∀ (l : List UInt8) (W : World), l.length ≤ 600000 → BldA b0 l W → BRow G (n + 1) M W → Below b0 V W → W.heap[B]? = some (.cells #[.int .i64 x.op, .int .i64 x.a, .int .i64 x.b, .int .i64 x.c] 40 (0, 0)) →
          Calls Tryd.prog 24 #[.agg #[.int .i64 x.op, .int .i64 x.a, .int .i64 x.b, .int .i64 x.c], .int .i64 (n : Int)] W fun e w' => e = .returned (.string (bs (insT n x 3))) ∧ Calls Tryd.prog 20 #[.pointer (some ⟨b0, 0, none⟩), .string (bs (insT n x 3) ++ (⟨#[10]⟩ : ByteArray))] w' fun e2 w2 => e2 = .returned (.tuple #[.int .i64 ((bs (insT n x 3 ++ [10])).size : Nat), .nilIface]) ∧ BldA b0 (l ++ (insT n x 3 ++ [10])) w2 ∧ BRow G (n + 1) M w2 ∧ Below b0 V w2) := fun l W hl h1 h2 h5 h6 => by
        refine (HINk.out W (HWV.out W h5)).mono ?_
        rintro e w' ⟨rfl, hb⟩
        refine ⟨rfl, ?_⟩
        have h8 := wstr_any b0 l (insT n x 3 ++ [10]) w' (isbF_keep h1 hb) (by rw [List.length_append]; simp; omega)
        rw [show bs (insT n x 3) ++ (⟨#[10]⟩ : ByteArray) = bs (insT n x 3 ++ [10]) from bs_app _ [10]]
        refine h8.mono ?_
        rintro e2 w2 ⟨rfl, g1, g2, g3⟩
        exact ⟨rfl, g1, (h2.below hb h2.lt).others g3 g2.size HGB.out, (h5.trans (hb.mono (Nat.le_of_lt (isbF_lt h1)))).trans g2⟩
      clear hb4 hs4 hbr HI HR HVr hB
      cases hMk : M k with
      | false =>
        rw [hMk] at q1
        have hln : lnT L k = [] := by rw [HW1k.out, hMk]; rfl
        have HFIN : Hid (bodT size L (k + 1) = bodT size L k ++ (insT n x 3 ++ [10])) := by unfold Hid; rw [HBSk.out, hln, List.append_nil]
        obtain ⟨y0, y1, y2, y3⟩ := HX.out W4 HS4.out
        have cc1 := (HC0.out W4 HV4.out).2
        have HLA := hid (HLAST.out _ W4 (by omega) HI4.out HR4.out HV4.out HS4.out)
        rw [hW4] at y0 y1 y2 y3 cc1
        clear hln hMk HLBk HLAST HINk hz1 hz2
        go_wp2_with fail
        rw [← hW4, ← HBE.out]
        clear hW4 y0 y1 y2 y3 cc1 x0 x1 x2 x3 q1
        refine HLA.out.mono ?_
        rintro e w7 ⟨rfl, hw7⟩
        have HW7 := hid hw7
        have hz4 : (bs (insT n x 3)).size ≤ 100 := by rw [bs_size]; exact hz3
        clear hw7 HLA
        generalize bs (insT n x 3) = SI at *
        go_wp2_with fail
        refine HW7.out.mono ?_
        rintro e w8 ⟨rfl, g1, g2, g3⟩
        have HG1 : Hid (BldA b0 (bodT size L (k + 1)) w8) := by unfold Hid; rw [HFIN.out]; exact g1
        have HG2 := hid g2
        have HG3 := hid g3
        clear g1 g2 g3 HW7
        go_wp2_with fail
        go_roundw
        case rel => exact ⟨k + 1, by omega, by go_num, HG1, HG2, HG3⟩
        case measure => simp [intOf]; omega
      | true =>
        rw [hMk] at q1
        have hln : lnT L k = lblT k ++ [58, 10] := by rw [HW1k.out, hMk]; rfl
        have HFIN : Hid (bodT size L (k + 1) = (bodT size L k ++ (lblT k ++ [58, 10])) ++ (insT n x 3 ++ [10])) := by unfold Hid; rw [HBSk.out, hln]
        have hz5 : (bs (lblT k)).size ≤ 30 := by rw [bs_size]; exact hz2
        clear hln hMk
        go_wp2_with fail
        rw [← hW4, ← HBE.out]
        clear hW4 x0 x1 x2 x3 q1
        refine (HLBk.out W4 (HWV.out W4 HV4.out)).mono ?_
        rintro e w5 ⟨rfl, hb5⟩
        have HI5 := isbF_keep HI4.out hb5
        have HR5 := HR4.out.below hb5 HR4.out.lt
        have HV5 : Below b0 V w5 := HV4.out.trans (hb5.mono (Nat.le_of_lt (isbF_lt HI4.out)))
        have hBl := (Array.getElem?_eq_some_iff.1 HS4.out).1
        have HS5 : w5.heap[B]? = some (.cells #[.int .i64 x.op, .int .i64 x.a, .int .i64 x.b, .int .i64 x.c] 40 (0, 0)) := (hb5.block B hBl).trans HS4.out
        have HWS : Hid (Calls Tryd.prog 20 #[.pointer (some ⟨b0, 0, none⟩), .string (bs (lblT k) ++ (⟨#[58, 10]⟩ : ByteArray))] w5 fun e2 w2 => e2 = .returned (.tuple #[.int .i64 ((bs (lblT k ++ [58, 10])).size : Nat), .nilIface]) ∧ BldA b0 (bodT size L k ++ (lblT k ++ [58, 10])) w2 ∧ BRow G (n + 1) M w2 ∧ Below b0 V w2 ∧ w2.heap[B]? = some (.cells #[.int .i64 x.op, .int .i64 x.a, .int .i64 x.b, .int .i64 x.c] 40 (0, 0))) := by
          unfold Hid
          rw [show bs (lblT k) ++ (⟨#[58, 10]⟩ : ByteArray) = bs (lblT k ++ [58, 10]) from bs_app _ [58, 10]]
          refine (wstr_any b0 _ (lblT k ++ [58, 10]) w5 HI5 (by rw [List.length_append]; simp; omega)).mono ?_
          rintro e2 w2 ⟨rfl, g1, g2, g3⟩
          exact ⟨rfl, g1, HR5.others g3 g2.size HGB.out, HV5.trans g2, g3 B _ HS5 (fun e3 => hBb (Option.some.inj e3)) (fun c' fz' e3 => by injection e3 with _ e4 _; exact absurd e4 (by decide))⟩
        clear hb5 HI5 HR5 HV5 hBl HS5 HI4 HR4 HV4 HS4 HLBk HINk
        generalize bs (lblT k) = SL at *
        go_wp2_with fail
        refine HWS.out.mono ?_
        rintro e w6 ⟨rfl, g1, g2, g3, g5⟩
        obtain ⟨y0, y1, y2, y3⟩ := HX.out w6 g5
        have cc1 := (HC0.out w6 g3).2
        have HLA := hid (HLAST.out _ w6 (by rw [List.length_append, List.length_append]; simp; omega) g1 g2 g3 g5)
        clear g1 g2 g3 g5 HWS HLAST
        go_wp2_with fail
        clear y0 y1 y2 y3 cc1
        refine HLA.out.mono ?_
        rintro e w7 ⟨rfl, hw7⟩
        have HW7 := hid hw7
        have hz4 : (bs (insT n x 3)).size ≤ 100 := by rw [bs_size]; exact hz3
        clear hw7 HLA
        generalize bs (insT n x 3) = SI at *
        go_wp2_with fail
        refine HW7.out.mono ?_
        rintro e w8 ⟨rfl, g1, g2, g3⟩
        have HG1 : Hid (BldA b0 (bodT size L (k + 1)) w8) := by unfold Hid; rw [HFIN.out]; exact g1
        have HG2 := hid g2
        have HG3 := hid g3
        clear g1 g2 g3 HW7
        go_wp2_with fail
        go_roundw
        case rel => exact ⟨k + 1, by omega, by go_num, HG1, HG2, HG3⟩
        case measure => simp [intOf]; omega
    · obtain rfl : k = n := by omega
      have hlt2 : ¬ (k : Int) < (k : Int) := by omega
      have hlt3 : (k : Int) < ((k + 1 : Nat) : Int) := by omega
      have q1 := HR.out.cells k (by omega)
      have cc1 := (HC0.out wr HVr.out).2
      have HLBk := hid (HLB.out k (Nat.le_refl _))
      have hz1 := HZB.out k (Nat.le_refl _)
      have hz2 := HZL.out k (Nat.le_refl _)
      have HW1k := hid (HW1.out k)
      cases hMk : M k with
      | false =>
        rw [hMk] at q1
        have HFIN : Hid (prT size L = bodT size L k) := by unfold Hid; rw [HPR.out, HW1k.out, hMk]; simp
        have HST := hid (Tryd.Builder_String_k b0 b0 (bodT size L k) wr HI.out (Nat.le_of_lt (isbF_lt HI.out)))
        clear hMk
        go_wp2_with fail
        refine HST.out.mono ?_
        rintro e w9 ⟨rfl, _, hb9, _⟩
        have HB9 : Hid (Below w.heap.size w w9) := HWV.out w9 (HVr.out.trans hb9)
        clear hb9
        go_wp2_with fail
        go_ret
        exact ⟨by rw [HFIN.out]; rfl, HB9.out⟩
      | true =>
        rw [hMk] at q1
        have HFIN : Hid (prT size L = bodT size L k ++ (lblT k ++ [58, 10])) := by unfold Hid; rw [HPR.out, HW1k.out, hMk]; rfl
        have hz5 : (bs (lblT k)).size ≤ 30 := by rw [bs_size]; exact hz2
        clear hMk
        go_wp2_with fail
        refine (HLBk.out wr (HWV.out wr HVr.out)).mono ?_
        rintro e w5 ⟨rfl, hb5⟩
        have HV5 : Hid (Below b0 V w5) := HVr.out.trans (hb5.mono (Nat.le_of_lt (isbF_lt HI.out)))
        have HWS := hid (wstr_any b0 _ (lblT k ++ [58, 10]) w5 (isbF_keep HI.out hb5) (by rw [List.length_append]; simp; omega))
        rw [show bs (lblT k ++ [58, 10]) = bs (lblT k) ++ (⟨#[58, 10]⟩ : ByteArray) from (bs_app _ [58, 10]).symm] at HWS
        clear hb5
        generalize bs (lblT k) = SL at *
        go_wp2_with fail
        refine HWS.out.mono ?_
        rintro e w6 ⟨rfl, g1, g2, _⟩
        have HST := hid (Tryd.Builder_String_k b0 b0 (bodT size L k ++ (lblT k ++ [58, 10])) w6 g1 (Nat.le_of_lt (isbF_lt g1)))
        have HV6 : Hid (Below b0 V w6) := HV5.out.trans g2
        clear g1 g2 HWS
        go_wp2_with fail
        refine HST.out.mono ?_
        rintro e w9 ⟨rfl, _, hb9, _⟩
        have HB9 : Hid (Below w.heap.size w w9) := HWV.out w9 (HV6.out.trans hb9)
        clear hb9
        go_wp2_with fail
        go_ret
        exact ⟨by rw [HFIN.out]; rfl, HB9.out⟩

set_option maxRecDepth 100000 in
theorem pprintA_any (size : Int) (aL : Option Addr) (cL : Nat) (L : List InsZ) (w : World) (hG : FmW w) (hP : PowA w) (hn : L.length ≤ 281474976710656) (hI : LstI w.heap.size w aL cL L) :
    Calls Tryd.prog 4 #[.agg #[.int .i64 size, .slice aL L.length cL]] w fun e w' => (if 4096 < L.length then e = .returned (.tuple #[.string (bs []), .iface 33 (.int .i64 9)]) else if WrC size L then e = .returned (.tuple #[.string (bs (prT size L)), .nilIface]) else e = .returned (.tuple #[.string (bs []), .iface 33 (.int .i64 3)])) ∧ Below w.heap.size w w' := by
  obtain ⟨W0, hW0⟩ : ∃ W0, W0 = w.alloc (.cells #[.int .i64 size, .slice aL L.length cL] 24) := ⟨_, rfl⟩
  have hb0 : Below w.heap.size w W0 := by rw [hW0]; exact (Below.refl _ _).alloc (Nat.le_refl _) _
  have hs0 : W0.heap[w.heap.size]? = some (.cells #[.int .i64 size, .slice aL L.length cL] 24 (0, 0)) := by rw [hW0]; exact heap_alloc_new w _
  have HB0 := hid hb0
  have HC0 : Hid (∀ W, Below W0.heap.size W0 W → W.cell? ⟨w.heap.size, 0, none⟩ = some (.int .i64 size) ∧ W.cell? ⟨w.heap.size, 1, none⟩ = some (.slice aL L.length cL)) := fun W hW => by
    have h1 := (hW.block _ (Array.getElem?_eq_some_iff.1 hs0).1).trans hs0
    exact ⟨by simp [World.cell?, h1], by simp [World.cell?, h1]⟩
  obtain ⟨k0, k1⟩ := HC0.out W0 (Below.refl _ _)
  rw [hW0] at k0 k1
  by_cases hb : 4096 < L.length
  · simp only [if_pos hb]
    have hb' : (4096 : Int) < (L.length : Int) := by omega
    clear hI hs0 hb0
    go_enter Tryd.func4, Tryd.ntmps4
    go_wp2_with fail
    rw [← hW0]
    go_ret2
    exact ⟨rfl, HB0.out⟩
  · simp only [if_neg hb]
    have hb' : ¬ (4096 : Int) < (L.length : Int) := by omega
    have HIW := hid (isWritable_any size aL cL L W0 (hG.keep hb0) (by omega) ((hI.below hb0).mono hb0.size))
    by_cases hc : WrC size L
    · simp only [if_pos hc]
      rw [decide_eq_true hc] at HIW
      have HWR : Hid (∀ W, Below w.heap.size w W → Calls Tryd.prog 8 #[.agg #[.int .i64 size, .slice aL L.length cL]] W fun e w' => e = .returned (.string (bs (prT size L))) ∧ Below W.heap.size W w') := fun W hW => written_any size aL cL L W (hG.keep hW) (hP.keep hW) (by omega) ((hI.below hW).mono hW.size) hc
      clear hI hs0 hb0 hc hb
      go_enter Tryd.func4, Tryd.ntmps4
      go_wp2_with fail
      rw [← hW0]
      clear k0 k1 hW0
      refine HIW.out.mono ?_
      rintro e w1 ⟨rfl, hb1⟩
      obtain ⟨k0, k1⟩ := HC0.out w1 hb1
      have HB1 : Hid (Below w.heap.size w w1) := HB0.out.trans (hb1.mono HB0.out.size)
      clear hb1
      go_wp2_with fail
      refine (HWR.out w1 HB1.out).mono ?_
      rintro e w2 ⟨rfl, hb2⟩
      have HB2 : Hid (Below w.heap.size w w2) := HB1.out.trans (hb2.mono HB1.out.size)
      clear hb2
      go_wp2_with fail
      go_ret2
      exact ⟨rfl, HB2.out⟩
    · simp only [if_neg hc]
      rw [decide_eq_false hc] at HIW
      clear hI hs0 hb0 hc hb
      go_enter Tryd.func4, Tryd.ntmps4
      go_wp2_with fail
      rw [← hW0]
      clear k0 k1 hW0
      refine HIW.out.mono ?_
      rintro e w1 ⟨rfl, hb1⟩
      have HB1 : Hid (Below w.heap.size w w1) := HB0.out.trans (hb1.mono HB0.out.size)
      clear hb1
      go_wp2_with fail
      go_ret2
      exact ⟨rfl, HB1.out⟩

end Go.Proofs.YtjibpfdhaejfdaaDoor
