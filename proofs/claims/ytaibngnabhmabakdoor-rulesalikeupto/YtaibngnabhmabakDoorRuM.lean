/- Package rules: Product. -/
import Derived.Test.YtaibngnabhmabakDoorRuL
namespace Go.Proofs.YtaibngnabhmabakDoor
open Go.RowKit

theorem ivF_set (f : Nat → Int) (k : Nat) (i : Nat) : (if i = k then Value.int .i64 (f k) else ivF f k i) = ivF f (k + 1) i := by
  unfold ivF
  by_cases e : i = k
  · subst e; rw [if_pos rfl, if_pos (by omega)]
  · rw [if_neg e]
    by_cases h : i < k
    · rw [if_pos h, if_pos (by omega)]
    · rw [if_neg h, if_neg (by omega)]
theorem row_below {g n N : Nat} {F : Nat → Value} {t : TypeId} {w w' : World} (h : w.rowIs g t n F) (hb : Below N w w') (hg : g < N) : w'.rowIs g t n F := by
  obtain ⟨cs, h1, h2⟩ := h
  exact ⟨cs, (hb.block g hg).trans h1, h2⟩
theorem row_lt {g n : Nat} {F : Nat → Value} {t : TypeId} {w : World} (h : w.rowIs g t n F) : g < w.heap.size := by
  obtain ⟨cs, h1, _⟩ := h
  exact (Array.getElem?_eq_some_iff.1 h1).1
theorem row_other {g g' n i : Nat} {F : Nat → Value} {t : TypeId} {w : World} {v : Value} (h : w.rowIs g t n F) (hg : g ≠ g') : (w.setCell ⟨g', i, none⟩ v).rowIs g t n F := by
  obtain ⟨cs, h1, h2⟩ := h
  exact ⟨cs, (Below.heap_setCell _ _ _ _ hg).trans h1, h2⟩
/-- the two lists of products, so far -/
structure PdI (A B n k N : Nat) (fa fb : Nat → Int) (w wr : World) : Prop where
  a : wr.rowIs A 3 n (ivF fa k)
  b : wr.rowIs B 3 n (ivF fb k)
  bel : Below N w wr

set_option maxRecDepth 100000 in
set_option maxHeartbeats 2000000 in
/-- the two products of a row -/
theorem factors_any (q b ck : Nat) (ak : Option Addr) (r : List Int) (x y : Int) (w : World) (h3 : 3 ≤ q) (h4 : q ≤ 2147483647) (hp : w.cell? ⟨b, 0, none⟩ = some (.int .i64 q)) (hL : RowB w.heap.size w ak r) (hF : Fits r) (hn : r.length ≤ 17592186044416) (hg : 20 ≤ r.length)
    (hx1 : -9223372036854775808 ≤ x) (hx2 : x ≤ 9223372036854775807) (hy1 : -9223372036854775808 ≤ y) (hy2 : y ≤ 9223372036854775807) :
    Calls Tryd.prog 25 #[.pointer (some ⟨b, 0, none⟩), .slice ak r.length ck, .int .i64 x, .int .i64 y] w fun e w' => e = .returned (.tuple #[.int .i64 (prd q x y (rw4 r 3 7) 4), .int .i64 (prd q x y (rw4 r 12 16) 4)]) ∧ Below w.heap.size w w' := by
  have hbl : b < w.heap.size := World.block_lt_of_cell? _ _ hp
  have hcb : ∀ a v, CelB (rw4 r a v) := fun a v k hk => by
    rw [rw4_len] at hk
    rw [rw4_at _ _ _ _ hk]
    exact ⟨Fits.all hF _, Fits.all hF _⟩
  have HRP : Hid (∀ W, Below w.heap.size w W → ∀ a v : Nat, a + 4 ≤ 20 → v + 4 ≤ 20 → Calls Tryd.prog 38 #[.slice ak r.length ck, .int .i64 (a : Int), .int .i64 (v : Int)] W fun e w' => ∃ K, e = .returned (.slice (some ⟨K, 0, none⟩) 4 4) ∧ W.heap.size ≤ K ∧ CRow K w' (rw4 r a v) ∧ Below W.heap.size W w') := fun W hW a v h1 h2 =>
    rowPairs_any ck a v ak r W (RowB.mono hW.size (RowB.below hW hL)) hn (by omega) (by omega)
  have HPD : Hid (∀ (W : World) (K a v : Nat), Below w.heap.size w W → CRow K W (rw4 r a v) → Calls Tryd.prog 33 #[.pointer (some ⟨b, 0, none⟩), .slice (some ⟨K, 0, none⟩) 4 4, .int .i64 x, .int .i64 y] W fun e w' => e = .returned (.int .i64 (prd q x y (rw4 r a v) 4)) ∧ Below W.heap.size W w') := fun W K a v hW hK => by
    have h := pprod_any q b 4 (some ⟨K, 0, none⟩) (rw4 r a v) x y W h3 h4 ((hW.cell (p := ⟨b, 0, none⟩) hbl).trans hp) hx1 hx2 hy1 hy2 (by rw [rw4_len]; omega) (hK.lst (by rw [rw4_len]; exact Nat.le_refl _)) (hcb a v)
    rw [rw4_len] at h
    exact h
  have HR1 := hid (HRP.out w (Below.refl _ _) 3 7 (by omega) (by omega))
  have HR2 := hid (fun W hW => HRP.out W hW 12 16 (by omega) (by omega))
  have HP1 := hid (fun W K hW hK => HPD.out W K 3 7 hW hK)
  have HP2 := hid (fun W K hW hK => HPD.out W K 12 16 hW hK)
  have hg2 : ¬ (r.length : Int) < 20 := by omega
  generalize prd q x y (rw4 r 3 7) 4 = va at *
  generalize prd q x y (rw4 r 12 16) 4 = vb at *
  clear hL hF hcb hg HRP HPD hp
  generalize r.length = rl at *
  go_enter Tryd.func25, Tryd.ntmps25
  go_wp2_with fail
  refine HR1.out.mono ?_
  rintro e w2 ⟨K, rfl, hK, hrow, hb2⟩
  have HB2 := hid hb2
  have HQ1 := hid (HP1.out w2 K hb2 hrow)
  clear hrow hb2 hK HR1
  go_wp2_with fail
  refine HQ1.out.mono ?_
  rintro e w3 ⟨rfl, hb3⟩
  have HB3 := hid (HB2.out.trans (hb3.mono HB2.out.size))
  clear hb3 HQ1 HP1 HB2
  go_wp2_with fail
  refine (HR2.out w3 HB3.out).mono ?_
  rintro e w5 ⟨K2, rfl, hK2, hrow2, hb5⟩
  have HB5 := hid (HB3.out.trans (hb5.mono HB3.out.size))
  have HQ2 := hid (HP2.out w5 K2 HB5.out hrow2)
  clear hrow2 hb5 hK2 HR2 HB3
  go_wp2_with fail
  refine HQ2.out.mono ?_
  rintro e w6 ⟨rfl, hb6⟩
  have HB6 := hid (HB5.out.trans (hb6.mono HB5.out.size))
  clear hb6 HQ2 HP2 HB5
  go_wp2_with fail
  go_ret2
  exact ⟨rfl, HB6.out⟩

set_option maxRecDepth 100000 in
set_option maxHeartbeats 4000000 in
theorem pproduct_any (q b c : Nat) (ad : Option Addr) (rows : List (List Int)) (x y : Int) (w : World) (hpr : Num.Prime q) (h3 : 3 ≤ q) (h4 : q ≤ 2147483647) (hp : w.cell? ⟨b, 0, none⟩ = some (.int .i64 q)) (hL : LstR w.heap.size w ad c rows) (hF : FitsR rows) (hn : rows.length ≤ 2000000000000)
    (hx1 : -9223372036854775808 ≤ x) (hx2 : x ≤ 9223372036854775807) (hy1 : -9223372036854775808 ≤ y) (hy2 : y ≤ 9223372036854775807) (h0 : rows.length ≠ 0) (hg : allGe 20 rows) :
    Calls Tryd.prog 9 #[.pointer (some ⟨b, 0, none⟩), .slice ad rows.length c, .int .i64 x, .int .i64 y] w (PdR q rows x y w) := by
  have hmx : Tryd.prog.follows .mixedOrders = true := by kernel_rfl
  have hbl : b < w.heap.size := World.block_lt_of_cell? _ _ hp
  have HIP := hid (isPaired_any c ad rows w hL hF (by omega))
  rw [geB_yes hg] at HIP
  have HP := hid hp
  have HL := hid hL
  have HF := hid hF
  have HG := hid hg
  have HPR := hid hpr
  have HH0 := hid h0
  obtain ⟨R, hR⟩ : ∃ R, R = PdR q rows x y w := ⟨_, rfl⟩
  rw [← hR]
  have HRR : Hid (∀ e w', PdR q rows x y w e w' → R e w') := fun e w' h => by rw [hR]; exact h
  obtain ⟨n, hn'⟩ : ∃ n, n = rows.length := ⟨_, rfl⟩
  have HN := hid hn'
  rw [← hn'] at hn h0 HIP ⊢
  have hmk := run_make_row' (P := Tryd.prog) 29 3 (.int .i64 0) 8 Tryd.underlying29 intInfo rfl .i64 .i64 n (by omega) (by omega)
  have hn0 : ((n : Int) == 0) = false := by rw [beq_eq_false_iff_ne]; omega
  clear hp hL hF hg hn' hR hpr
  go_enter Tryd.func9, Tryd.ntmps9
  go_wp2_with fail
  refine HIP.out.mono ?_
  rintro e w1 ⟨rfl, hw1⟩
  have hw2 := hw1.symm
  subst hw2
  clear HIP
  obtain ⟨W0, hW0⟩ : ∃ W0, W0 = ((w.alloc (.cells (madeCells #[.int .i64 0] n) 3)).alloc (.cells (madeCells #[.int .i64 0] n) 3)).drew := ⟨_, rfl⟩
  obtain ⟨X0, hX0⟩ : ∃ X0, X0 = w.heap.size := ⟨_, rfl⟩
  obtain ⟨X1, hX1⟩ : ∃ X1, X1 = w.heap.size + 1 := ⟨_, rfl⟩
  have hb0 : Below w.heap.size w W0 := by rw [hW0]; exact (((Below.refl _ w).alloc (Nat.le_refl _) _).alloc (by simp) _).drew
  have r0 : W0.rowIs X0 3 n (ivF (fun _ => 0) 0) := by
    rw [hW0, hX0]
    exact ((World.rowIs_made w _ n _).congr (fun i _ => by unfold ivF; rw [if_neg (by omega)])).alloc _
  have r1 : W0.rowIs X1 3 n (ivF (fun _ => 0) 0) := by
    rw [hW0, hX1]
    have := World.rowIs_made (w.alloc (.cells (madeCells #[.int .i64 0] n) 3)) (.int .i64 0) n 3
    rw [World.size_alloc] at this
    exact this.congr (fun i _ => by unfold ivF; rw [if_neg (by omega)])
  have iv0 : ∀ f : Nat → Int, ivF f 0 = ivF (fun _ => 0) 0 := fun f => by funext i; unfold ivF; rw [if_neg (by omega), if_neg (by omega)]
  have HXX : Hid (X0 ≠ X1 ∧ w.heap.size ≤ X0 ∧ w.heap.size ≤ X1) := ⟨by omega, by omega, by omega⟩
  have HI0 : Hid (PdI X0 X1 n 0 w.heap.size (pab q rows x y 3 7) (pab q rows x y 12 16) w W0) := ⟨by rw [iv0]; exact r0, by rw [iv0]; exact r1, hb0⟩
  have HI1 : Hid (PdI X1 X0 n 0 w.heap.size (pab q rows x y 3 7) (pab q rows x y 12 16) w W0) := ⟨by rw [iv0]; exact r1, by rw [iv0]; exact r0, hb0⟩
  clear hb0 r0 r1 iv0 hw1
  go_wp2_with fail
  go_region
  rw [← hW0, ← hX1, ← hX0]
  obtain ⟨A, hA⟩ : ∃ A, A = X0 := ⟨_, rfl⟩
  obtain ⟨B, hB⟩ : ∃ B, B = X1 := ⟨_, rfl⟩
  have HI := HI0
  rw [← hA, ← hB] at HI
  have HAB : Hid (A ≠ B ∧ w.heap.size ≤ A ∧ w.heap.size ≤ B) := by unfold Hid; rw [hA, hB]; exact HXX.out
  rw [← hA, ← hB]
  clear hA hB HI0 HI1 HXX hX0 hX1 hW0
  rotate_left
  rw [← hW0, ← hX1, ← hX0]
  obtain ⟨A, hA⟩ : ∃ A, A = X1 := ⟨_, rfl⟩
  obtain ⟨B, hB⟩ : ∃ B, B = X0 := ⟨_, rfl⟩
  have HI := HI1
  rw [← hA, ← hB] at HI
  have HAB : Hid (A ≠ B ∧ w.heap.size ≤ A ∧ w.heap.size ≤ B) := by unfold Hid; rw [hA, hB]; exact ⟨HXX.out.1.symm, HXX.out.2.2, HXX.out.2.1⟩
  rw [← hA, ← hB]
  clear hA hB HI0 HI1 HXX hX0 hX1 hW0
  all_goals
    go_wp2_with fail
    go_loopw [12, 13, 33] (fun _ _ iv wr => ∃ i : Nat, i ≤ n ∧ iv = .int .i64 i ∧ Hid (PdI A B n i w.heap.size (pab q rows x y 3 7) (pab q rows x y 12 16) w wr)) (fun _ _ iv _ => n - (intOf iv).toNat)
    case atStart => exact ⟨0, Nat.zero_le _, rfl, HI⟩
    case round =>
      obtain ⟨i, hi, rfl, HI⟩ := hrel
      by_cases hlt : i < n
      · have hlt2 : (i : Int) < (n : Int) := by omega
        have his : IntKind.i64.wrap ((i : Int) + 1) = (i : Int) + 1 := by rw [IntKind.wrap_i64]; omega
        obtain ⟨g, o, ak, ck, rfl, hg0, hc, hrl⟩ := HL.out.row i (by have := HN.out; omega)
        replace hc := (HI.out.bel.cell (p := ⟨g, o + i, none⟩) hg0).trans hc
        have hfi := HF.out i (by have := HN.out; omega)
        have hge := HG.out i (by have := HN.out; omega)
        have HFA := hid (factors_any q b ck ak (rat rows i) x y wr h3 h4 ((HI.out.bel.cell (p := ⟨b, 0, none⟩) hbl).trans HP.out) ((hrl.below HI.out.bel).mono HI.out.bel.size).row hfi.1 (by have := hfi.2; omega) hge hx1 hx2 hy1 hy2)
        obtain ⟨va, hva⟩ : ∃ va, va = pab q rows x y 3 7 i := ⟨_, rfl⟩
        obtain ⟨vb, hvb⟩ : ∃ vb, vb = pab q rows x y 12 16 i := ⟨_, rfl⟩
        have HVA := hid hva
        have HVB := hid hvb
        rw [show prd q x y (rw4 (rat rows i) 3 7) 4 = va from hva.symm, show prd q x y (rw4 (rat rows i) 12 16) 4 = vb from hvb.symm] at HFA
        clear hrl hfi hge hg0 hva hvb
        generalize (rat rows i).length = rl at *
        go_wp2_with fail
        refine HFA.out.mono ?_
        rintro e w3 ⟨rfl, hb23⟩
        have hra := row_below HI.out.a hb23 (row_lt HI.out.a)
        have hrb := row_below HI.out.b hb23 (row_lt HI.out.b)
        have hbw3 := HI.out.bel.trans (hb23.mono HI.out.bel.size)
        have s1 := hra.cell (i := i) hlt
        have s2 := hra.frozen i
        have hI3 : (w3.setCell ⟨A, i, none⟩ (.int .i64 va)).rowIs A 3 n (ivF (pab q rows x y 3 7) (i + 1)) ∧ (w3.setCell ⟨A, i, none⟩ (.int .i64 va)).rowIs B 3 n (ivF (pab q rows x y 12 16) i) ∧ Below w.heap.size w (w3.setCell ⟨A, i, none⟩ (.int .i64 va)) :=
          ⟨(hra.set i (.int .i64 va)).congr (fun j _ => by rw [HVA.out]; exact ivF_set _ _ _), row_other hrb HAB.out.1.symm, hbw3.setCell (p := ⟨A, i, none⟩) HAB.out.2.1 _⟩
        have s3 := hI3.2.1.cell (i := i) hlt
        have s4 := hI3.2.1.frozen i
        have s5 := hrb.cell (i := i) hlt
        have s6 := hrb.frozen i
        have hne : ¬ A = B := HAB.out.1
        have hne' : ¬ B = A := fun e => HAB.out.1 e.symm
        have HI6 : Hid (PdI A B n (i + 1) w.heap.size (pab q rows x y 3 7) (pab q rows x y 12 16) w ((w3.setCell ⟨A, i, none⟩ (.int .i64 va)).setCell ⟨B, i, none⟩ (.int .i64 vb))) :=
          ⟨row_other hI3.1 HAB.out.1, (hI3.2.1.set i (.int .i64 vb)).congr (fun j _ => by rw [HVB.out]; exact ivF_set _ _ _), hI3.2.2.setCell (p := ⟨B, i, none⟩) HAB.out.2.2 _⟩
        clear hb23 hra hrb hbw3 hI3 HFA HI hc
        go_wp2_with fail
        go_roundw
        case rel => exact ⟨i + 1, by omega, by go_num, HI6⟩
        case measure => simp [intOf]; omega
      · obtain rfl : i = n := by omega
        have hlt2 : ¬ (i : Int) < (i : Int) := by omega
        have HC1 := hid (scont_any A i i _ wr HI.out.a (by omega))
        have HC2 := hid (scont_any B i i _ wr HI.out.b (by omega))
        have HNA : Hid (zB (pab q rows x y 3 7) i = true → PdR q rows x y w (.returned (.tuple #[.slice none 0 0, .bool false])) wr) := fun h => ⟨HI.out.bel, .inr ⟨fun hz => (by
          rw [zB_no (fun j hj => (hz.2.2 j (by have := HN.out; omega)).1)] at h; cases h), rfl⟩⟩
        have HNB : Hid (zB (pab q rows x y 12 16) i = true → PdR q rows x y w (.returned (.tuple #[.slice none 0 0, .bool false])) wr) := fun h => ⟨HI.out.bel, .inr ⟨fun hz => (by
          rw [zB_no (fun j hj => (hz.2.2 j (by have := HN.out; omega)).2)] at h; cases h), rfl⟩⟩
        have HNZ : Hid (zB (pab q rows x y 3 7) i = false → zB (pab q rows x y 12 16) i = false → noz q rows x y) := fun h1 h2 => ⟨HH0.out, HG.out, fun j hj => ⟨zB_false h1 j (by have := HN.out; omega), zB_false h2 j (by have := HN.out; omega)⟩⟩
        generalize zB (pab q rows x y 3 7) i = za at *
        generalize zB (pab q rows x y 12 16) i = zb at *
        go_wp2_with fail
        refine HC1.out.mono ?_
        rintro e w2 ⟨rfl, hw⟩
        have hw2 := hw.symm
        subst hw2
        cases za with
        | true =>
          have HE := hid (HNA.out rfl)
          clear HNA HNB HNZ HI
          go_wp2_with fail
          exact HRR.out _ _ HE.out
        | false =>
          have HNZ2 := hid (fun h => HNZ.out rfl h)
          clear HNA HNZ
          go_wp2_with fail
          refine HC2.out.mono ?_
          rintro e w2 ⟨rfl, hw⟩
          have hw2 := hw.symm
          subst hw2
          cases zb with
          | true =>
            have HE := hid (HNB.out rfl)
            clear HNB HNZ2 HI
            go_wp2_with fail
            exact HRR.out _ _ HE.out
          | false =>
            have HZ := hid (HNZ2.out rfl)
            have hm0 : (madeCells #[Value.int .i64 0] i)[0]? = some (.int .i64 0) := by simp [madeCells, show 0 < i by omega]
            obtain ⟨W7, hW7⟩ : ∃ W7, W7 = wr.alloc (.cells ((madeCells #[.int .i64 0] i).setIfInBounds 0 (.int .i64 1)) 3) := ⟨_, rfl⟩
            have hE7 : (wr.alloc (.cells (madeCells #[.int .i64 0] i) 3)).setCell ⟨wr.heap.size, 0, none⟩ (.int .i64 1) = W7 := by rw [hW7]; go_simp
            have hb7 : Below wr.heap.size wr W7 := by rw [hW7]; exact (Below.refl _ _).alloc (Nat.le_refl _) _
            obtain ⟨G, hG⟩ : ∃ G, G = wr.heap.size := ⟨_, rfl⟩
            have hr7 : W7.rowIs G 3 i (ivF (pcol q rows x y) 1) := by
              rw [← hE7, hG]
              exact ((World.rowIs_made wr _ i _).set 0 (.int .i64 1)).congr (fun j _ => by
                by_cases e : j = 0
                · rw [if_pos e, e]; rfl
                · rw [if_neg e]; unfold ivF; rw [if_neg (by omega)])
            have hA7 := row_below HI.out.a hb7 (row_lt HI.out.a)
            have hB7 := row_below HI.out.b hb7 (row_lt HI.out.b)
            have hbw7 := HI.out.bel.trans (hb7.mono HI.out.bel.size)
            have hzl : ∀ j, zat (ls (pab q rows x y 12 16) i) j = if j < i then pab q rows x y 12 16 j else 0 := fun j => by
              by_cases h : j < i
              · rw [if_pos h, ls_at _ _ _ h]
              · rw [if_neg h]; simp [zat, ls, h]
            have HIV : Hid (Calls Tryd.prog 27 #[.pointer (some ⟨b, 0, none⟩), .slice (some ⟨B, 0, none⟩) i i] W7 fun e w' => ∃ o : Nat → Nat, e = .returned (.slice (some ⟨W7.heap.size + 1, 0, none⟩) i i) ∧ (∀ j, j < i → o j = invn q (pab q rows x y 12 16 j)) ∧ Out W7.heap.size i q o w' ∧ Below W7.heap.size W7 w') := by
              unfold Hid
              have h := invs_any q b i (some ⟨B, 0, none⟩) (ls (pab q rows x y 12 16) i) W7 HPR.out h3 h4 ((hbw7.cell (p := ⟨b, 0, none⟩) hbl).trans HP.out) (by rw [ls_len]; omega) (fun j hj => by
                rw [ls_len] at hj
                rw [ls_at _ _ _ hj]
                have := pab_bd h3 rows x y 12 16 j
                omega) (fun j hj => by
                rw [ls_len] at hj
                refine ⟨B, 0, rfl, row_lt hB7, ?_⟩
                rw [ls_at _ _ _ hj, Nat.zero_add, hB7.cell hj]
                unfold ivF
                rw [if_pos hj])
              rw [ls_len] at h
              refine h.mono ?_
              rintro e w' ⟨o, k1, k2, k3, k4⟩
              exact ⟨o, k1, fun j hj => by rw [k2 j hj, ls_at _ _ _ hj], k3, k4⟩
            have HR7 := hid hr7
            have HA7 := hid hA7
            have HBW := hid hbw7
            have HGW : Hid (w.heap.size ≤ G ∧ A ≠ G) := ⟨by rw [hG]; exact HI.out.bel.size, by have := row_lt HI.out.a; omega⟩
            obtain ⟨m, hm⟩ : ∃ m, m = i - 1 := ⟨_, rfl⟩
            have e1 : (i : Int) - 1 = (m : Int) := by omega
            have wm : IntKind.i64.wrap (m : Int) = (m : Int) := by rw [IntKind.wrap_i64]; omega
            have mi : (m : Int) ≤ (i : Int) := by omega
            have m0 : (0 : Int) ≤ (m : Int) := by omega
            have him : i = m + 1 := by omega
            have HIM := hid him
            rw [← hG] at hE7
            clear hb7 hr7 hA7 hB7 hbw7 hzl HI HC1 HC2 HNB HNZ2 hE7 him hm
            go_wp2_with fail
            rw [← hW7, ← hG]
            clear hW7 hG hm0
            refine HIV.out.mono ?_
            rintro e w8 ⟨o, rfl, ho, hout, hb8⟩
            have HR8 := hid (row_below HR7.out hb8 (row_lt HR7.out))
            have HA8 := hid (row_below HA7.out hb8 (row_lt HA7.out))
            have HB8 := hid (HBW.out.trans (hb8.mono HBW.out.size))
            have HO := hid ho
            have HOC : Hid (∀ j, j < i → w8.cell? ⟨W7.heap.size + 1, j, none⟩ = some (.int .i64 (o j : Int))) := fun j hj => hout.cells j hj
            have HGN : Hid (G ≠ W7.heap.size + 1) := by have := row_lt HR7.out; unfold Hid; omega
            obtain ⟨N1, hN1⟩ : ∃ N1, N1 = W7.heap.size + 1 := ⟨_, rfl⟩
            rw [← hN1] at HOC HGN ⊢
            clear ho hout hb8 HR7 HA7 HBW HIV hN1
            go_wp2_with fail
            go_loopw [15, 16, 72] (fun _ _ iv wq => ∃ k : Nat, k ≤ m ∧ iv = .int .i64 k ∧ Hid (wq.rowIs G 3 i (ivF (pcol q rows x y) (k + 1))) ∧ Hid (Only G w8 wq)) (fun _ _ iv _ => m - (intOf iv).toNat)
            case atStart => exact ⟨0, Nat.zero_le _, rfl, HR8, Only.refl _ _⟩
            case round =>
              obtain ⟨k, hk, rfl, HRG, HOn⟩ := hrel
              by_cases hlk : k < m
              · have hlk2 : (k : Int) < (m : Int) := by omega
                obtain ⟨j, hj⟩ : ∃ j, j = k + 1 := ⟨_, rfl⟩
                have e2 : (k : Int) + 1 = (j : Int) := by omega
                have wj : IntKind.i64.wrap (j : Int) = (j : Int) := by rw [IntKind.wrap_i64]; have := HIM.out; omega
                have lk : (k : Int) < (i : Int) := by have := HIM.out; omega
                have lj : (j : Int) < (i : Int) := by have := HIM.out; omega
                have k0 : (0 : Int) ≤ (k : Int) := by omega
                have j0 : (0 : Int) ≤ (j : Int) := by omega
                have hki : k < i := by omega
                have hji : j < i := by omega
                have x1 : wr.cell? ⟨N1, k, none⟩ = some (.int .i64 (o k : Int)) := (HOn.out.cell (p := ⟨N1, k, none⟩) (Ne.symm HGN.out)).trans (HOC.out k hki)
                have x2 : wr.cell? ⟨A, k, none⟩ = some (.int .i64 (pab q rows x y 3 7 k)) := by
                  rw [HOn.out.cell (p := ⟨A, k, none⟩) HGW.out.2, HA8.out.cell hki]; unfold ivF; rw [if_pos hki]
                have x3 : wr.cell? ⟨G, k, none⟩ = some (.int .i64 (pcol q rows x y k)) := by
                  rw [HRG.out.cell hki]; unfold ivF; rw [if_pos (by omega)]
                have x4 := HRG.out.cell hji
                have x5 := HRG.out.frozen j
                have hv4 : ivF (pcol q rows x y) (k + 1) j = .int .i64 0 := by unfold ivF; rw [if_neg (by omega)]
                rw [hv4] at x4
                have x4' : ∀ d, ({ wr with drawn := d } : World).cell? ⟨G, j, none⟩ = some (.int .i64 0) := fun _ => x4
                have x5' : ∀ d, ({ wr with drawn := d } : World).frozen? ⟨G, j, none⟩ = false := fun _ => x5
                have b1 := pab_bd h3 rows x y 3 7 k
                have b2 := pcol_bd h3 rows x y k
                have b3 := invn_lt q (pab q rows x y 12 16 k) h3
                have b4 := emod_bounds (pab q rows x y 3 7 k * (o k : Int)) q h3
                have hpc : wr.cell? ⟨b, 0, none⟩ = some (.int .i64 q) := (HOn.out.cell (p := ⟨b, 0, none⟩) (by show b ≠ G; have := HGW.out.1; omega)).trans ((HB8.out.cell (p := ⟨b, 0, none⟩) hbl).trans HP.out)
                have HM1 : Hid (∀ W : World, W.cell? ⟨b, 0, none⟩ = some (.int .i64 q) → Calls Tryd.prog 28 #[.pointer (some ⟨b, 0, none⟩), .int .i64 (pab q rows x y 3 7 k), .int .i64 (o k : Int)] W fun e w' => e = .returned (.int .i64 (pab q rows x y 3 7 k * (o k : Int) % (q : Int))) ∧ w' = W) := fun W h => mul_any q b _ _ W h3 h4 h (by omega) (by omega) (by rw [HO.out k hki]; omega) (by rw [HO.out k hki]; omega)
                have HM2 : Hid (∀ W : World, W.cell? ⟨b, 0, none⟩ = some (.int .i64 q) → Calls Tryd.prog 28 #[.pointer (some ⟨b, 0, none⟩), .int .i64 (pcol q rows x y k), .int .i64 (pab q rows x y 3 7 k * (o k : Int) % (q : Int))] W fun e w' => e = .returned (.int .i64 (pcol q rows x y j)) ∧ w' = W) := fun W h => by
                  rw [hj, pcol, ← HO.out k hki]
                  exact mul_any q b _ _ W h3 h4 h (by omega) (by omega) (by omega) (by omega)
                have HST : Hid ((wr.drew.setCell ⟨G, j, none⟩ (.int .i64 (pcol q rows x y j))).rowIs G 3 i (ivF (pcol q rows x y) (k + 1 + 1))) := by
                  have hd : wr.drew.rowIs G 3 i (ivF (pcol q rows x y) (k + 1)) := HRG.out
                  rw [hj]
                  exact (hd.set (k + 1) (.int .i64 (pcol q rows x y (k + 1)))).congr (fun t _ => ivF_set _ _ _)
                have HOS : Hid (Only G w8 (wr.drew.setCell ⟨G, j, none⟩ (.int .i64 (pcol q rows x y j)))) := HOn.out.drew.setCell rfl _
                generalize pcol q rows x y j = vj at *
                generalize pcol q rows x y k = vk at *
                generalize pab q rows x y 3 7 k * (o k : Int) % (q : Int) = mm at *
                generalize pab q rows x y 3 7 k = pk at *
                generalize (o k : Int) = ok at *
                clear b1 b2 b3 b4 hv4 hj HRG HOn
                go_wp2_with fail
                go_still_tail 17, hmx
                still_call (HM1.out _ hpc)
                (repeat still_step)
                still_call (HM2.out _ hpc)
                (repeat still_step)
                refine wpStill_nil ?_
                go_wp2_with fail
                go_roundw
                case rel => exact ⟨k + 1, by omega, by go_num, HST, HOS⟩
                case measure => simp [intOf]; omega
              · obtain rfl : k = m := by omega
                have hlk2 : ¬ (k : Int) < (k : Int) := by omega
                have HE : Hid (PdR q rows x y w (.returned (.tuple #[.slice (some ⟨G, 0, none⟩) i i, .bool true])) wr) := by
                  refine ⟨HB8.out.trans (HOn.out.below HGW.out.1), .inl ⟨HZ.out, some ⟨G, 0, none⟩, i, by rw [HN.out], ⟨fun t ht => ?_, by rw [ls_len, HN.out]; exact Nat.le_refl _, fun e => by cases e⟩⟩⟩
                  rw [ls_len] at ht
                  refine ⟨G, 0, rfl, row_lt HRG.out, ?_⟩
                  rw [ls_at _ _ _ ht, Nat.zero_add, HRG.out.cell (by have := HN.out; omega)]
                  unfold ivF
                  rw [if_pos (by have := HN.out; have := HIM.out; omega)]
                clear HRG HOn
                go_wp2_with fail
                exact HRR.out _ _ HE.out

end Go.Proofs.YtaibngnabhmabakDoor
