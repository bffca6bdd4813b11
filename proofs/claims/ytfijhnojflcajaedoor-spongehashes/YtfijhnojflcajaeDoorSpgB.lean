/- Package sponge: a sponge in memory; weighted, mixed. -/
import Derived.Test.YtfijhnojflcajaeDoorSpoM
import Derived.Test.YtfijhnojflcajaeDoorArr
import Derived.StillTailTactics
namespace Go.Proofs.YtfijhnojflcajaeDoor
open Go.RowKit

/-- a sponge in memory: its field lies in block b, n is its power, d what undoes it -/
structure SpgAt (w : World) (s b q n d : Nat) : Prop where
  f : w.cell? ⟨s, 0, none⟩ = some (.pointer (some ⟨b, 0, none⟩))
  pw : w.cell? ⟨s, 1, none⟩ = some (.int .i64 n)
  rt : w.cell? ⟨s, 2, none⟩ = some (.int .i64 d)
  mat : ∀ i j, i < 8 → j < 8 → w.cell? ⟨s, 3 + i * 8 + j, none⟩ = some (.int .i64 (invn q ((i + j + 8 : Nat) : Int)))
  wts : ∀ i, i < 8 → w.cell? ⟨s, 67 + i, none⟩ = some (.int .i64 (wt q i))
  cst : ∀ r i, r < 8 → i < 8 → w.cell? ⟨s, 75 + r * 8 + i, none⟩ = some (.int .i64 (cst q r i))
  p : w.cell? ⟨b, 0, none⟩ = some (.int .i64 q)
theorem SpgAt.lt {w : World} {s b q n d : Nat} (h : SpgAt w s b q n d) : s < w.heap.size := heap_lt h.f
theorem SpgAt.ltb {w : World} {s b q n d : Nat} (h : SpgAt w s b q n d) : b < w.heap.size := heap_lt h.p
theorem SpgAt.blocks {w w' : World} {s b q n d : Nat} (h : SpgAt w s b q n d) (e : w'.heap[s]? = w.heap[s]?) (e2 : w'.heap[b]? = w.heap[b]?) : SpgAt w' s b q n d :=
  ⟨(World.cell?_of_block (w := w) (a := ⟨s, 0, none⟩) e).trans h.f, (World.cell?_of_block (w := w) (a := ⟨s, 1, none⟩) e).trans h.pw, (World.cell?_of_block (w := w) (a := ⟨s, 2, none⟩) e).trans h.rt,
    fun i j hi hj => (World.cell?_of_block (w := w) (a := ⟨s, 3 + i * 8 + j, none⟩) e).trans (h.mat i j hi hj), fun i hi => (World.cell?_of_block (w := w) (a := ⟨s, 67 + i, none⟩) e).trans (h.wts i hi),
    fun r i hr hi => (World.cell?_of_block (w := w) (a := ⟨s, 75 + r * 8 + i, none⟩) e).trans (h.cst r i hr hi), (World.cell?_of_block (w := w) (a := ⟨b, 0, none⟩) e2).trans h.p⟩
theorem SpgAt.below {w w' : World} {s b q n d n0 : Nat} (h : SpgAt w s b q n d) (e : Below n0 w w') (hs : s < n0) (hb : b < n0) : SpgAt w' s b q n d := h.blocks (e.block s hs) (e.block b hb)
theorem SpgAt.keep {w w' : World} {s b q n d : Nat} (h : SpgAt w s b q n d) (e : Below w.heap.size w w') : SpgAt w' s b q n d := h.below e h.lt h.ltb

theorem prod_fit {x y : Int} {q : Nat} (hm : q ≤ 2147483647) (h1 : 0 ≤ x) (h2 : x < q) (h3 : 0 ≤ y) (h4 : y < q) : 0 ≤ x * y ∧ x * y ≤ 4611686014132420609 := by
  refine ⟨Int.mul_nonneg h1 h3, ?_⟩
  have := Int.mul_le_mul (show x ≤ 2147483647 by omega) (show y ≤ 2147483647 by omega) h3 (by decide)
  omega

theorem mxs_step (q : Nat) (f : Nat → Int) (i k : Nat) : (mxs q f i k + (invn q ((i + k + 8 : Nat) : Int) : Int) * f k) % (q : Int) = mxs q f i (k + 1) := by
  rw [← mxs_succ, Int.mul_comm, Int.add_emod_emod]

set_option maxRecDepth 100000 in
set_option maxHeartbeats 1000000 in
theorem mixed_any (q n d b s : Nat) (f : Nat → Int) (w : World) (h3 : 3 ≤ q) (hm : q ≤ 2147483647) (hs : SpgAt w s b q n d) (hf : ∀ j, j < 8 → 0 ≤ f j ∧ f j < q) :
    Calls Tryd.prog 43 #[.pointer (some ⟨s, 0, none⟩), .agg (an 8 f)] w fun e w' => e = .returned (.agg (an 8 (mx q f))) ∧ Below w.heap.size w w' := by
  have hmx : Tryd.prog.follows .mixedOrders = true := by kernel_rfl
  have HS := hid hs
  have HF := hid hf
  clear hs hf
  go_enter Tryd.func43, Tryd.ntmps43
  go_wp2_with fail
  go_loopw [8] (fun iv wr => ∃ k : Nat, k ≤ 8 ∧ iv = .int .i64 k ∧ Hid (ArrI wr w.heap.size 49 8 f) ∧ Hid (ArrI wr (w.heap.size + 1) 49 8 (fll (mx q f) (fun _ => 0) k)) ∧ Hid (Below w.heap.size w wr))
    (fun iv _ => 8 - (intOf iv).toNat)
  case atStart =>
    refine ⟨0, by omega, rfl, (ArrI.new w 8 49 f).alloc _, ?_, ((Below.refl _ _).alloc (Nat.le_refl _) _).alloc (by simp) _⟩
    rw [fll_zero]
    exact ArrI.new2 w (.cells (an 8 f) 49) 8 49 (fun _ => 0)
  case round =>
    obtain ⟨k, hk, rfl, hA, hB, hbel⟩ := hrel
    by_cases hlt : k < 8
    · have hlt2 : (k : Int) < 8 := by omega
      have HC : Hid (Hid (ArrI wr w.heap.size 49 8 f) ∧ Hid (ArrI wr (w.heap.size + 1) 49 8 (fll (mx q f) (fun _ => 0) k)) ∧ Hid (Below w.heap.size w wr)) := ⟨hA, hB, hbel⟩
      clear hA hB hbel
      go_wp2_with fail
      obtain ⟨wo, rfl⟩ : ∃ wo, wo = wr := ⟨_, rfl⟩
      go_loopw [6, 11] (fun sv jv wr => ∃ j : Nat, j ≤ 8 ∧ jv = .int .i64 j ∧ sv = .int .i64 (mxs q f k j) ∧ Hid (Hid (ArrI wr w.heap.size 49 8 f) ∧ Hid (ArrI wr (w.heap.size + 1) 49 8 (fll (mx q f) (fun _ => 0) k)) ∧ Hid (Below w.heap.size w wr)))
        (fun _ jv _ => 8 - (intOf jv).toNat)
      case atStart => exact ⟨0, by omega, rfl, by unfold mxs; rfl, HC⟩
      case round =>
        obtain ⟨j, hj, rfl, rfl, hC⟩ := hrel
        obtain ⟨hA, hB, hbel⟩ := hC.out
        by_cases hjl : j < 8
        · have hjl2 : (j : Int) < 8 := by omega
          have c1 := hA.out.cell hjl
          have HSW := hid (HS.out.keep hbel.out)
          have s0 := HSW.out.f
          have s1 := HSW.out.mat k j hlt hjl
          have hks : IntKind.i64.wrap ((j : Int) + 1) = (j : Int) + 1 := by rw [IntKind.wrap_i64]; omega
          have hb1 := HF.out j hjl
          have hb2 := invn_lt q ((k + j + 8 : Nat) : Int) h3
          have hb3 : 0 ≤ mxs q f k j ∧ mxs q f k j < q := emod_bounds _ q h3
          have HST := hid (mxs_step q f k j)
          generalize mxs q f k j = S0 at *
          generalize f j = y at *
          generalize invn q ((k + j + 8 : Nat) : Int) = z at *
          obtain ⟨hp1, hp2⟩ := prod_fit hm (show 0 ≤ (z : Int) by omega) (by omega) hb1.1 hb1.2
          have hw1 : IntKind.i64.wrap ((z : Int) * y) = (z : Int) * y := by rw [IntKind.wrap_i64]; omega
          have hw2 : IntKind.i64.wrap (S0 + (z : Int) * y) = S0 + (z : Int) * y := by rw [IntKind.wrap_i64]; omega
          have HMx := hid (of_any q b (S0 + (z : Int) * y) wr.drew h3 hm HSW.out.p (by omega) (by omega))
          rw [HST.out] at HMx
          have HE : Hid (Hid (ArrI wr.drew w.heap.size 49 8 f) ∧ Hid (ArrI wr.drew (w.heap.size + 1) 49 8 (fll (mx q f) (fun _ => 0) k)) ∧ Hid (Below w.heap.size w wr.drew)) := ⟨hA, hB, hbel.out.drew⟩
          clear hA hB hbel hC HC hb1 hb2 hb3 hp1 hp2 HST
          go_wp2_with fail
          go_still_tail 19, hmx
          still_call HMx.out
          repeat still_step
          refine wpStill_nil ?_
          go_wp2_with fail
          go_roundw
          case rel => exact ⟨j + 1, by omega, by go_num, rfl, HE⟩
          case measure => simp [intOf]; omega
        · obtain rfl : j = 8 := by omega
          have c2 := hB.out.cell hlt
          have y2 := hB.out.frozen k
          have hks : IntKind.i64.wrap ((k : Int) + 1) = (k : Int) + 1 := by rw [IntKind.wrap_i64]; omega
          have HA2 := hid (hA.out.other (a := ⟨w.heap.size + 1, k, none⟩) (by simp) (.int .i64 (mx q f k)))
          have HB2 := hid hB.out.next
          have HBL := hid (hbel.out.setCell (p := ⟨w.heap.size + 1, k, none⟩) (by simp) (.int .i64 (mx q f k)))
          rw [show mxs q f k 8 = mx q f k from rfl]
          clear hA hB hbel hC HC
          go_wp2_with fail
          go_roundw
          case rel => exact ⟨k + 1, by omega, by go_num, HA2, HB2, HBL⟩
          case measure => simp [intOf]; omega
    · obtain rfl : k = 8 := by omega
      have HA8 : Hid (ArrI wr (w.heap.size + 1) 49 8 (mx q f)) := hB.out.congr (fun j hj => fll_all hj)
      clear hA hB
      go_wp2_with (first
        | (refine wpList_load_an rfl 49 _ rfl _ rfl _ _ _ _ _ HA8.out Tryd.underlying49 (by kernel_rfl) ?_)
        | (refine wpList_store_an rfl 49 _ _ rfl _ _ _ _ rfl rfl _ HA8.out (by kernel_rfl) ?_))
      refine bodyPost_ret (results_an rfl _ _ (w.heap.size + 1) 49 8 _ _ (mx q f) rfl (HA8.out.setRow _) Tryd.underlying49 (by kernel_rfl)) rfl ?_
      exact ⟨rfl, below_setRow hbel.out (by omega) _⟩

end Go.Proofs.YtfijhnojflcajaeDoor
