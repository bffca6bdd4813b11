/- Package asm: fields, areWritable, isWritable, label. -/
import Derived.Test.YtjibpfdhaejfdaaDoorIpAC
namespace Go.Proofs.YtjibpfdhaejfdaaDoor
open Go.RowKit

/-- the table of forms -/
structure FmW (w : World) : Prop where
  lt : 0 < w.heap.size
  wd : ∀ k, k < 14 → w.cell? ⟨0, k * 4, none⟩ = some (.string (bs (fWd k)))
  s0 : ∀ k, k < 14 → w.cell? ⟨0, k * 4 + 1, none⟩ = some (.int .i64 (fSl k 0 : Nat))
  s1 : ∀ k, k < 14 → w.cell? ⟨0, k * 4 + 2, none⟩ = some (.int .i64 (fSl k 1 : Nat))
  s2 : ∀ k, k < 14 → w.cell? ⟨0, k * 4 + 3, none⟩ = some (.int .i64 (fSl k 2 : Nat))
theorem FmW.below {n : Nat} {w w' : World} (h : FmW w) (hb : Below n w w') (hn : 0 < n) : FmW w' :=
  ⟨Nat.lt_of_lt_of_le h.lt hb.size, fun k hk => (hb.cell (p := ⟨0, k * 4, none⟩) hn).trans (h.wd k hk), fun k hk => (hb.cell (p := ⟨0, k * 4 + 1, none⟩) hn).trans (h.s0 k hk), fun k hk => (hb.cell (p := ⟨0, k * 4 + 2, none⟩) hn).trans (h.s1 k hk), fun k hk => (hb.cell (p := ⟨0, k * 4 + 3, none⟩) hn).trans (h.s2 k hk)⟩
theorem FmW.keep {w w' : World} (h : FmW w) (hb : Below w.heap.size w w') : FmW w' := h.below hb h.lt

set_option maxRecDepth 100000 in
theorem fields_any (x : InsZ) (w : World) : Calls Tryd.prog 19 #[.agg #[.int .i64 x.op, .int .i64 x.a, .int .i64 x.b, .int .i64 x.c]] w fun e w' => e = .returned (.agg #[.int .i64 (fldz x 0), .int .i64 (fldz x 1), .int .i64 (fldz x 2)]) ∧ Below w.heap.size w w' := by
  obtain ⟨W1, hW1⟩ : ∃ W1, W1 = w.alloc (.cells #[.int .i64 x.op, .int .i64 x.a, .int .i64 x.b, .int .i64 x.c] 40) := ⟨_, rfl⟩
  obtain ⟨W2, hW2⟩ : ∃ W2, W2 = W1.alloc (.cells #[.int .i64 x.a, .int .i64 x.b, .int .i64 x.c] 51) := ⟨_, rfl⟩
  have hs1 : W1.heap.size = w.heap.size + 1 := by rw [hW1]; simp
  have hc : W2.heap[w.heap.size + 1]? = some (.cells #[.int .i64 x.a, .int .i64 x.b, .int .i64 x.c] 51 (0, 0)) := by rw [hW2, ← hs1]; exact heap_alloc_new W1 _
  have HB : Hid (Below w.heap.size w W2) := by unfold Hid; rw [hW2, hW1]; exact ((Below.refl _ _).alloc (Nat.le_refl _) _).alloc (by simp) _
  have HC := hid hc
  rw [hW1] at hW2
  clear hc hW1 hs1
  go_enter Tryd.func19, Tryd.ntmps19
  go_wp2_with fail
  rw [← hW2]
  refine bodyPost_ret (results_cell_row rfl _ _ (w.heap.size + 1) 51 #[.int .i64 x.a, .int .i64 x.b, .int .i64 x.c] (0, 0) _ rfl HC.out Tryd.underlying51 rfl (by kernel_rfl)) rfl ?_
  exact ⟨rfl, HB.out⟩

/-- is a field as its slot asks? -/
def OkF (s : Nat → Nat) (f : Nat → Int) (j : Nat) : Prop := (s j = 0 → f j = 0) ∧ ShN (f j)
instance (s : Nat → Nat) (f : Nat → Int) (j : Nat) : Decidable (OkF s f j) := by unfold OkF; exact inferInstance
def OkA (s : Nat → Nat) (f : Nat → Int) : Prop := ∀ j, j < 3 → OkF s f j
instance (s : Nat → Nat) (f : Nat → Int) : Decidable (OkA s f) := by unfold OkA; exact inferInstance
/-- one of three, by value -/
theorem idx3_0 (a b c : Value) (w : World) : (Instr.index 47 (.agg #[a, b, c]) (.int .i64 0)).run Tryd.prog w = .ok a w := by
  simp [Instr.index, run_underlying Tryd.underlying47, asIntOf, go_sem]
theorem idx3_1 (a b c : Value) (w : World) : (Instr.index 47 (.agg #[a, b, c]) (.int .i64 1)).run Tryd.prog w = .ok b w := by
  simp [Instr.index, run_underlying Tryd.underlying47, asIntOf, go_sem]
theorem idx3_2 (a b c : Value) (w : World) : (Instr.index 47 (.agg #[a, b, c]) (.int .i64 2)).run Tryd.prog w = .ok c w := by
  simp [Instr.index, run_underlying Tryd.underlying47, asIntOf, go_sem]

set_option maxRecDepth 100000 in
set_option maxHeartbeats 1000000 in
theorem areW_any (s : Nat → Nat) (f : Nat → Int) (w : World) : Calls Tryd.prog 18 #[.agg #[.int .i64 (s 0 : Int), .int .i64 (s 1 : Int), .int .i64 (s 2 : Int)], .agg #[.int .i64 (f 0), .int .i64 (f 1), .int .i64 (f 2)]] w fun e w' => e = .returned (.bool (decide (OkA s f))) ∧ Below w.heap.size w w' := by
  have HSH := hid (fun n W => isShort_any n W)
  have x0 := idx3_0 (.int .i64 (s 0 : Int)) (.int .i64 (s 1 : Int)) (.int .i64 (s 2 : Int))
  have x1 := idx3_1 (.int .i64 (s 0 : Int)) (.int .i64 (s 1 : Int)) (.int .i64 (s 2 : Int))
  have x2 := idx3_2 (.int .i64 (s 0 : Int)) (.int .i64 (s 1 : Int)) (.int .i64 (s 2 : Int))
  obtain ⟨R, hR⟩ : ∃ R, R = decide (OkA s f) := ⟨_, rfl⟩
  have HNO : Hid (∀ j, j < 3 → ¬ OkF s f j → R = false) := fun j hj h => by rw [hR]; exact decide_eq_false fun h2 => h (h2 j hj)
  have HYE : Hid ((∀ j, j < 3 → OkF s f j) → R = true) := fun h => by rw [hR]; exact decide_eq_true h
  have HB : Hid (Below w.heap.size w ((w.alloc (.cells #[.int .i64 (s 0 : Int), .int .i64 (s 1 : Int), .int .i64 (s 2 : Int)] 47)).alloc (.cells #[.int .i64 (f 0), .int .i64 (f 1), .int .i64 (f 2)] 51))) := ((Below.refl _ _).alloc (Nat.le_refl _) _).alloc (by simp) _
  rw [← hR]
  clear hR
  go_enter Tryd.func18, Tryd.ntmps18
  go_wp2_with fail
  go_loop [5, 6, 8] (fun _ _ iv => ∃ i : Nat, i ≤ 3 ∧ iv = .int .i64 i ∧ Hid (∀ j, j < i → OkF s f j)) (fun _ _ iv => 3 - (intOf iv).toNat)
  case atStart => exact ⟨0, by omega, rfl, fun j hj => absurd hj (Nat.not_lt_zero j)⟩
  case round =>
    obtain ⟨i, hi, rfl, HI⟩ := hrel
    obtain h0 | h0 | h0 | h0 : i = 0 ∨ i = 1 ∨ i = 2 ∨ i = 3 := by omega
    · subst h0
      have HS := hid (fun W => isShort_any (f 0) W)
      by_cases hs : s 0 = 0
      · have hs' : ((s 0 : Int) == 0) = true := by rw [hs]; rfl
        by_cases hf : f 0 = 0
        · have hf' : (f 0 != 0) = false := by rw [hf]; rfl
          have HR1 : Hid (∀ j, j < 1 → OkF s f j) := fun j hj => by
            by_cases e : j = 0
            · subst e; exact ⟨fun _ => hf, by rw [hf]; unfold ShN; omega⟩
            · exact HI.out j (by omega)
          have hsh : decide (ShN (f 0)) = true := decide_eq_true (by rw [hf]; unfold ShN; omega)
          rw [hsh] at HS
          clear hf hs
          go_wp2_with fail
          refine (HS.out _).mono ?_
          rintro e w2 ⟨rfl, rfl⟩
          go_wp2_with fail
          go_round
          case rel => exact ⟨1, by omega, by go_num, HR1⟩
          case measure => simp [intOf]
        · have hf' : (f 0 != 0) = true := by rw [bne_iff_ne]; exact hf
          have HR1 : Hid (R = false) := HNO.out 0 (by omega) fun h => hf (h.1 hs)
          clear hf hs
          go_wp2_with fail
          go_ret
          exact ⟨by rw [HR1.out]; rfl, HB.out⟩
      · have hs' : ((s 0 : Int) == 0) = false := by rw [beq_eq_false_iff_ne]; omega
        by_cases hsh : ShN (f 0)
        · have HR1 : Hid (∀ j, j < 1 → OkF s f j) := fun j hj => by
            by_cases e : j = 0
            · subst e; exact ⟨fun h => absurd h hs, hsh⟩
            · exact HI.out j (by omega)
          rw [decide_eq_true hsh] at HS
          clear hs hsh
          go_wp2_with fail
          refine (HS.out _).mono ?_
          rintro e w2 ⟨rfl, rfl⟩
          go_wp2_with fail
          go_round
          case rel => exact ⟨1, by omega, by go_num, HR1⟩
          case measure => simp [intOf]
        · have HR1 : Hid (R = false) := HNO.out 0 (by omega) fun h => hsh h.2
          rw [decide_eq_false hsh] at HS
          clear hs hsh
          go_wp2_with fail
          refine (HS.out _).mono ?_
          rintro e w2 ⟨rfl, rfl⟩
          go_wp2_with fail
          go_ret
          exact ⟨by rw [HR1.out]; rfl, HB.out⟩
    · subst h0
      have HS := hid (fun W => isShort_any (f 1) W)
      by_cases hs : s 1 = 0
      · have hs' : ((s 1 : Int) == 0) = true := by rw [hs]; rfl
        by_cases hf : f 1 = 0
        · have hf' : (f 1 != 0) = false := by rw [hf]; rfl
          have HR1 : Hid (∀ j, j < 2 → OkF s f j) := fun j hj => by
            by_cases e : j = 1
            · subst e; exact ⟨fun _ => hf, by rw [hf]; unfold ShN; omega⟩
            · exact HI.out j (by omega)
          have hsh : decide (ShN (f 1)) = true := decide_eq_true (by rw [hf]; unfold ShN; omega)
          rw [hsh] at HS
          clear hf hs
          go_wp2_with fail
          refine (HS.out _).mono ?_
          rintro e w2 ⟨rfl, rfl⟩
          go_wp2_with fail
          go_round
          case rel => exact ⟨2, by omega, by go_num, HR1⟩
          case measure => simp [intOf]
        · have hf' : (f 1 != 0) = true := by rw [bne_iff_ne]; exact hf
          have HR1 : Hid (R = false) := HNO.out 1 (by omega) fun h => hf (h.1 hs)
          clear hf hs
          go_wp2_with fail
          go_ret
          exact ⟨by rw [HR1.out]; rfl, HB.out⟩
      · have hs' : ((s 1 : Int) == 0) = false := by rw [beq_eq_false_iff_ne]; omega
        by_cases hsh : ShN (f 1)
        · have HR1 : Hid (∀ j, j < 2 → OkF s f j) := fun j hj => by
            by_cases e : j = 1
            · subst e; exact ⟨fun h => absurd h hs, hsh⟩
            · exact HI.out j (by omega)
          rw [decide_eq_true hsh] at HS
          clear hs hsh
          go_wp2_with fail
          refine (HS.out _).mono ?_
          rintro e w2 ⟨rfl, rfl⟩
          go_wp2_with fail
          go_round
          case rel => exact ⟨2, by omega, by go_num, HR1⟩
          case measure => simp [intOf]
        · have HR1 : Hid (R = false) := HNO.out 1 (by omega) fun h => hsh h.2
          rw [decide_eq_false hsh] at HS
          clear hs hsh
          go_wp2_with fail
          refine (HS.out _).mono ?_
          rintro e w2 ⟨rfl, rfl⟩
          go_wp2_with fail
          go_ret
          exact ⟨by rw [HR1.out]; rfl, HB.out⟩
    · subst h0
      have HS := hid (fun W => isShort_any (f 2) W)
      by_cases hs : s 2 = 0
      · have hs' : ((s 2 : Int) == 0) = true := by rw [hs]; rfl
        by_cases hf : f 2 = 0
        · have hf' : (f 2 != 0) = false := by rw [hf]; rfl
          have HR1 : Hid (∀ j, j < 3 → OkF s f j) := fun j hj => by
            by_cases e : j = 2
            · subst e; exact ⟨fun _ => hf, by rw [hf]; unfold ShN; omega⟩
            · exact HI.out j (by omega)
          have hsh : decide (ShN (f 2)) = true := decide_eq_true (by rw [hf]; unfold ShN; omega)
          rw [hsh] at HS
          clear hf hs
          go_wp2_with fail
          refine (HS.out _).mono ?_
          rintro e w2 ⟨rfl, rfl⟩
          go_wp2_with fail
          go_round
          case rel => exact ⟨3, by omega, by go_num, HR1⟩
          case measure => simp [intOf]
        · have hf' : (f 2 != 0) = true := by rw [bne_iff_ne]; exact hf
          have HR1 : Hid (R = false) := HNO.out 2 (by omega) fun h => hf (h.1 hs)
          clear hf hs
          go_wp2_with fail
          go_ret
          exact ⟨by rw [HR1.out]; rfl, HB.out⟩
      · have hs' : ((s 2 : Int) == 0) = false := by rw [beq_eq_false_iff_ne]; omega
        by_cases hsh : ShN (f 2)
        · have HR1 : Hid (∀ j, j < 3 → OkF s f j) := fun j hj => by
            by_cases e : j = 2
            · subst e; exact ⟨fun h => absurd h hs, hsh⟩
            · exact HI.out j (by omega)
          rw [decide_eq_true hsh] at HS
          clear hs hsh
          go_wp2_with fail
          refine (HS.out _).mono ?_
          rintro e w2 ⟨rfl, rfl⟩
          go_wp2_with fail
          go_round
          case rel => exact ⟨3, by omega, by go_num, HR1⟩
          case measure => simp [intOf]
        · have HR1 : Hid (R = false) := HNO.out 2 (by omega) fun h => hsh h.2
          rw [decide_eq_false hsh] at HS
          clear hs hsh
          go_wp2_with fail
          refine (HS.out _).mono ?_
          rintro e w2 ⟨rfl, rfl⟩
          go_wp2_with fail
          go_ret
          exact ⟨by rw [HR1.out]; rfl, HB.out⟩
    · subst h0
      have HR1 : Hid (R = true) := HYE.out HI.out
      go_wp2_with fail
      go_ret
      exact ⟨by rw [HR1.out]; rfl, HB.out⟩

end Go.Proofs.YtjibpfdhaejfdaaDoor
