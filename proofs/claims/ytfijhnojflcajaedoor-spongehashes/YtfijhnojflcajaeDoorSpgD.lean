/- Package sponge: Field, Power, Constant, Matrix, Pad. -/
import Derived.Test.YtfijhnojflcajaeDoorSpgN
namespace Go.Proofs.YtfijhnojflcajaeDoor
open Go.RowKit

/-- rows of a matrix: each is a list of its own -/
def MatR (w : World) (q n0 k : Nat) (V : Nat → Value) : Prop := ∀ j, j < k → ∃ g N, V j = .slice (some ⟨g, 0, none⟩) 8 N ∧ n0 < g ∧ g < w.heap.size ∧ ∀ i, i < 8 → w.cell? ⟨g, i, none⟩ = some (.int .i64 (invn q ((j + i + 8 : Nat) : Int)))
theorem MatR.step {w w' : World} {q n0 k : Nat} {V : Nat → Value} (h : MatR w q n0 k V) (e : ∀ g, n0 < g → g < w.heap.size → w'.heap[g]? = w.heap[g]?) (hs : w.heap.size ≤ w'.heap.size) : MatR w' q n0 k V := fun j hj => by
  obtain ⟨g, N, h1, h2, h3, h4⟩ := h j hj
  exact ⟨g, N, h1, h2, by omega, fun i hi => (World.cell?_of_block (w := w) (a := ⟨g, i, none⟩) (e g h2 h3)).trans (h4 i hi)⟩

theorem Tryd.infoSl : (Tryd.prog.info? 22).map (fun i => (i.zero, i.size, i.bytes)) = some (some (.slice none 0 0), 1, 24) := by kernel_rfl

set_option maxRecDepth 100000 in
set_option maxHeartbeats 1000000 in
theorem spad_any (q n d b s len cap : Nat) (a : Option Addr) (f : Nat → Int) (w : World) (h3 : 3 ≤ q) (hm : q ≤ 2147483647) (hs : SpgAt w s b q n d) (hlen : len ≤ 17592186044400) (hfit : FitsF len f) (hrow : RowF (· < w.heap.size) w a len f) :
    Calls Tryd.prog 7 #[.pointer (some ⟨s, 0, none⟩), .slice a len cap] w fun e w' =>
      e = .returned (.slice (some ⟨w.heap.size, 0, none⟩) (pln len) (pln len)) ∧ ArrI w' w.heap.size 3 (pln len) (pdf q f len) ∧ Below w.heap.size w w' := by
  have HS := hid hs
  have HF := hid hfit
  have HR := hid hrow
  clear hs hfit hrow
  obtain ⟨m, hmm⟩ : ∃ m, m = len / 4 := ⟨_, rfl⟩
  obtain ⟨L, hL⟩ : ∃ L, L = pln len := ⟨_, rfl⟩
  have hLL : L = 4 * (m + 1) := by rw [hL, hmm]; rfl
  have hlL : len < L := by omega
  have hL2 : L ≤ 17592186044404 := by omega
  have e1 : Int.tdiv (len : Int) 4 = (m : Int) := by rw [Int.tdiv_eq_ediv_of_nonneg (by omega)]; omega
  have e2 : (m : Int) * 4 + 4 = (L : Int) := by omega
  have hw1 : IntKind.i64.wrap ((m : Int) * 4) = (m : Int) * 4 := by rw [IntKind.wrap_i64]; omega
  have hw2 : IntKind.i64.wrap (L : Int) = (L : Int) := by rw [IntKind.wrap_i64]; omega
  rw [← hL]
  have HLL := hid hL
  have hmk2 := fun w => run_make_row' (P := Tryd.prog) 22 3 (.int .i64 0) 8 Tryd.underlying22 Tryd.infoInt rfl .i64 .i64 L (by omega) (by omega) w
  clear hmm hL hLL
  go_enter Tryd.func7, Tryd.ntmps7
  go_wp2_with fail
  go_loopw [16] (fun iv wr => ∃ k : Nat, k ≤ len ∧ iv = .int .i64 k ∧ Hid (ArrI wr w.heap.size 3 L (fll (fun j => f j % (q : Int)) (fun _ => 0) k) ∧ Below w.heap.size w wr))
    (fun iv _ => len - (intOf iv).toNat)
  case atStart =>
    refine ⟨0, by omega, rfl, ?_, (Below.refl _ _).alloc (Nat.le_refl _) _⟩
    rw [fll_zero]
    exact World.rowIs_made _ _ _ _
  case round =>
    obtain ⟨k, hk, rfl, hC⟩ := hrel
    obtain ⟨hA, hbel⟩ := hC.out
    by_cases hlt : k < len
    · have hlt2 : (k : Int) < (len : Int) := by omega
      have hkL : (k : Int) < (L : Int) := by omega
      have HE : Hid (ArrI (wr.setCell ⟨w.heap.size, k, none⟩ (.int .i64 (f k % (q : Int)))) w.heap.size 3 L (fll (fun j => f j % (q : Int)) (fun _ => 0) (k + 1)) ∧ Below w.heap.size w (wr.setCell ⟨w.heap.size, k, none⟩ (.int .i64 (f k % (q : Int))))) :=
        ⟨hA.next, hbel.setCell (p := ⟨w.heap.size, k, none⟩) (by simp) _⟩
      have c1 := hA.cell (show k < L by omega)
      have y1 := hA.frozen k
      have HSW := hid (HS.out.keep hbel)
      have s0 := HSW.out.f
      have hks : IntKind.i64.wrap ((k : Int) + 1) = (k : Int) + 1 := by rw [IntKind.wrap_i64]; omega
      obtain ⟨bl, ol, rfl, hbl, hcl⟩ := HR.out k hlt
      have hcl2 := (hbel.cell (p := ⟨bl, ol + k, none⟩) hbl).trans hcl
      obtain ⟨hx1, hx2⟩ := HF.out k hlt
      have HMx := hid (of_any q b (f k) wr h3 hm HSW.out.p hx1 hx2)
      clear hA hbel hcl hbl hC
      generalize f k % (q : Int) = x at *
      generalize f k = y at *
      go_wp2_with fail
      refine HMx.out.mono ?_
      rintro e w1 ⟨rfl, rfl⟩
      go_wp2_with fail
      go_roundw
      case rel => exact ⟨k + 1, by omega, by go_num, HE⟩
      case measure => simp [intOf]; omega
    · obtain rfl : k = len := by omega
      have hkL : (k : Int) < (L : Int) := by omega
      have c1 := hA.cell hlL
      have y1 := hA.frozen k
      have HE : Hid (ArrI (wr.setCell ⟨w.heap.size, k, none⟩ (.int .i64 1)) w.heap.size 3 L (pdf q f k) ∧ Below w.heap.size w (wr.setCell ⟨w.heap.size, k, none⟩ (.int .i64 1))) := by
        refine ⟨(hA.set k 1).congr (fun j hj => ?_), hbel.setCell (p := ⟨w.heap.size, k, none⟩) (by simp) _⟩
        unfold up fll pdf
        by_cases h1 : j = k
        · subst h1; simp
        · by_cases h2 : j < k
          · rw [if_neg h1, if_pos h2, if_pos h2]
          · rw [if_neg h1, if_neg h2, if_neg h2, if_neg h1]
      clear hA hbel hC
      go_wp2_with fail
      go_ret
      exact ⟨rfl, HE.out.1, HE.out.2⟩

end Go.Proofs.YtfijhnojflcajaeDoor
