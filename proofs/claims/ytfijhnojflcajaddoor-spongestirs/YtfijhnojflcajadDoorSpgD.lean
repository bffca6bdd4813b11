/- Package sponge: Field, Power, Constant, Matrix, Pad. -/
import Derived.Test.YtfijhnojflcajadDoorSpgN
namespace Go.Proofs.YtfijhnojflcajadDoor
open Go.RowKit

theorem sfield_any (q n d b s : Nat) (w : World) (hs : SpgAt w s b q n d) :
    Calls Tryd.prog 24 #[.pointer (some ⟨s, 0, none⟩)] w fun e w' => e = .returned (.pointer (some ⟨b, 0, none⟩)) ∧ w' = w := by
  have c0 := hs.f
  clear hs
  go_enter Tryd.func24, Tryd.ntmps24
  go_wp2_with fail
  go_ret
  exact ⟨rfl, rfl⟩

theorem spower_any (q n d b s : Nat) (w : World) (hs : SpgAt w s b q n d) :
    Calls Tryd.prog 20 #[.pointer (some ⟨s, 0, none⟩)] w fun e w' => e = .returned (.int .i64 n) ∧ w' = w := by
  have c0 := hs.pw
  clear hs
  go_enter Tryd.func20, Tryd.ntmps20
  go_wp2_with fail
  go_ret
  exact ⟨rfl, rfl⟩

theorem sconst_any (q n d b s : Nat) (r i : Int) (w : World) (hs : SpgAt w s b q n d) :
    Calls Tryd.prog 22 #[.pointer (some ⟨s, 0, none⟩), .int .i64 r, .int .i64 i] w fun e w' => e = .returned (.int .i64 (cst q r i)) ∧ w' = w := by
  by_cases h1 : r < 0
  · have HC : Hid (cst q r i = 0) := by unfold Hid cst; rw [if_pos (by omega)]
    clear hs
    go_enter Tryd.func22, Tryd.ntmps22
    go_wp2_with fail
    go_ret
    exact ⟨ret_int HC.out.symm, rfl⟩
  · by_cases h2 : 8 ≤ r
    · have HC : Hid (cst q r i = 0) := by unfold Hid cst; rw [if_pos (by omega)]
      clear hs
      go_enter Tryd.func22, Tryd.ntmps22
      go_wp2_with fail
      go_ret
      exact ⟨ret_int HC.out.symm, rfl⟩
    · by_cases h3 : i < 0
      · have HC : Hid (cst q r i = 0) := by unfold Hid cst; rw [if_pos (by omega)]
        clear hs
        go_enter Tryd.func22, Tryd.ntmps22
        go_wp2_with fail
        go_ret
        exact ⟨ret_int HC.out.symm, rfl⟩
      · by_cases h4 : 8 ≤ i
        · have HC : Hid (cst q r i = 0) := by unfold Hid cst; rw [if_pos (by omega)]
          clear hs
          go_enter Tryd.func22, Tryd.ntmps22
          go_wp2_with fail
          go_ret
          exact ⟨ret_int HC.out.symm, rfl⟩
        · obtain ⟨R, rfl⟩ := Int.eq_ofNat_of_zero_le (show 0 ≤ r by omega)
          obtain ⟨I, rfl⟩ := Int.eq_ofNat_of_zero_le (show 0 ≤ i by omega)
          have c0 := hs.cst R I (by omega) (by omega)
          have g1 : (R : Int) < 8 := by omega
          have g2 : (I : Int) < 8 := by omega
          clear hs h1 h2 h3 h4
          generalize cst q (R : Int) (I : Int) = x at *
          go_enter Tryd.func22, Tryd.ntmps22
          go_wp2_with fail
          go_ret
          exact ⟨rfl, rfl⟩

/-- rows of a matrix: each is a list of its own -/
def MatR (w : World) (q n0 k : Nat) (V : Nat → Value) : Prop := ∀ j, j < k → ∃ g N, V j = .slice (some ⟨g, 0, none⟩) 8 N ∧ n0 < g ∧ g < w.heap.size ∧ ∀ i, i < 8 → w.cell? ⟨g, i, none⟩ = some (.int .i64 (invn q ((j + i + 8 : Nat) : Int)))
theorem MatR.step {w w' : World} {q n0 k : Nat} {V : Nat → Value} (h : MatR w q n0 k V) (e : ∀ g, n0 < g → g < w.heap.size → w'.heap[g]? = w.heap[g]?) (hs : w.heap.size ≤ w'.heap.size) : MatR w' q n0 k V := fun j hj => by
  obtain ⟨g, N, h1, h2, h3, h4⟩ := h j hj
  exact ⟨g, N, h1, h2, by omega, fun i hi => (World.cell?_of_block (w := w) (a := ⟨g, i, none⟩) (e g h2 h3)).trans (h4 i hi)⟩

theorem Tryd.infoSl : (Tryd.prog.info? 22).map (fun i => (i.zero, i.size, i.bytes)) = some (some (.slice none 0 0), 1, 24) := by kernel_rfl

set_option maxRecDepth 100000 in
set_option maxHeartbeats 1000000 in
theorem smatrix_any (q n d b s : Nat) (w : World) (hs : SpgAt w s b q n d) :
    Calls Tryd.prog 26 #[.pointer (some ⟨s, 0, none⟩)] w fun e w' => ∃ V, e = .returned (.slice (some ⟨w.heap.size, 0, none⟩) 8 8) ∧ w'.rowIs w.heap.size 22 8 V ∧ MatR w' q w.heap.size 8 V ∧ Below w.heap.size w w' := by
  have HS := hid hs
  have hsl := hs.lt
  clear hs
  have hmk2 := fun w => run_make_row' (P := Tryd.prog) 52 22 (.slice none 0 0) 24 Tryd.underlying52 Tryd.infoSl rfl .i64 .i64 8 (by omega) (by omega) w
  simp only [Int.cast_ofNat_Int] at hmk2
  go_enter Tryd.func26, Tryd.ntmps26
  go_wp2_with fail
  go_loopw [8] (fun iv wr => ∃ (k : Nat) (V : Nat → Value), k ≤ 8 ∧ iv = .int .i64 k ∧ Hid (wr.rowIs w.heap.size 22 8 V ∧ MatR wr q w.heap.size k V ∧ Below w.heap.size w wr))
    (fun iv _ => 8 - (intOf iv).toNat)
  case atStart =>
    exact ⟨0, fun _ => .slice none 0 0, by omega, rfl, World.rowIs_made _ _ _ _, fun j hj => by omega, (Below.refl _ _).alloc (Nat.le_refl _) _⟩
  case round =>
    obtain ⟨k, V, hk, rfl, hC⟩ := hrel
    obtain ⟨hV, hM, hbel⟩ := hC.out
    by_cases hlt : k < 8
    · have hlt2 : (k : Int) < 8 := by omega
      have hks : IntKind.i64.wrap ((k : Int) + 1) = (k : Int) + 1 := by rw [IntKind.wrap_i64]; omega
      have HSW := hid (HS.out.keep hbel)
      have hA := hV.lt
      have HCL := hid (clone_any (some ⟨s, 3 + k * 8, none⟩) 8 (ls (fun j => (invn q ((k + j + 8 : Nat) : Int) : Int)) 8) wr (by rw [ls_len]; omega) (by rw [ls_len]; omega)
        ⟨fun j hj => by
          rw [ls_len] at hj
          exact ⟨s, 3 + k * 8, rfl, HSW.out.lt, by rw [ls_at _ _ _ hj]; exact HSW.out.mat k j hlt hj⟩, by rw [ls_len]; omega, fun e => by cases e⟩)
      rw [ls_len] at HCL
      have HC := hid (And.intro hV (And.intro hM hbel))
      clear hV hM hbel hC HSW
      go_wp2_with fail
      refine HCL.out.mono ?_
      rintro e w1 ⟨g, N, F, rfl, hg, hF, hN, hFj, hb1⟩
      obtain ⟨hV, hM, hbel⟩ := HC.out
      have hV1 := hV.of_block (hb1.block _ hA)
      have c1 := hV1.cell hlt
      have y1 := hV1.frozen k
      have hgl := hF.lt
      have hs1 := hb1.size
      have HX : Hid ((w1.setCell ⟨w.heap.size, k, none⟩ (.slice (some ⟨g, 0, none⟩) 8 N)).rowIs w.heap.size 22 8 (fun j => if j = k then .slice (some ⟨g, 0, none⟩) 8 N else V j) ∧ MatR (w1.setCell ⟨w.heap.size, k, none⟩ (.slice (some ⟨g, 0, none⟩) 8 N)) q w.heap.size (k + 1) (fun j => if j = k then .slice (some ⟨g, 0, none⟩) 8 N else V j) ∧ Below w.heap.size w (w1.setCell ⟨w.heap.size, k, none⟩ (.slice (some ⟨g, 0, none⟩) 8 N))) := by
        refine ⟨hV1.set k _, fun j hj => ?_, (hbel.trans (hb1.mono hbel.size)).setCell (p := ⟨w.heap.size, k, none⟩) (by simp) _⟩
        by_cases e : j = k
        · subst e
          refine ⟨g, N, by simp, by omega, by simpa [World.setCell] using hgl, fun i hi => ?_⟩
          rw [World.cell?_setCell_other _ _ _ _ (by intro e; injection e with h1 _ _; omega), hF.cell (by omega), hFj i hi, ls_at _ _ _ hi]
        · obtain ⟨g', N', h1, h2, h3, h4⟩ := hM j (by omega)
          refine ⟨g', N', by simp [e, h1], h2, by simp [World.setCell]; omega, fun i hi => ?_⟩
          rw [World.cell?_setCell_other _ _ _ _ (by intro e; injection e with h1 _ _; omega)]
          exact (hb1.cell (p := ⟨g', i, none⟩) h3).trans (h4 i hi)
      clear hV hM hbel hV1 hF hFj hb1 HC HCL
      generalize V k = vk at c1
      go_wp2_with fail
      go_roundw
      case rel => exact ⟨k + 1, _, by omega, by go_num, HX⟩
      case measure => simp [intOf]; omega
    · obtain rfl : k = 8 := by omega
      have HC := hid (And.intro hV (And.intro hM hbel))
      clear hV hM hbel hC
      go_wp2_with fail
      go_ret
      exact ⟨V, rfl, HC.out.1, HC.out.2.1, HC.out.2.2⟩

end Go.Proofs.YtfijhnojflcajadDoor
