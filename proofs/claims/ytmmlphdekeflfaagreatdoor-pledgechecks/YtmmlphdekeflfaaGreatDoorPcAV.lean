/- Package tree: a walk's pairList. slices.Equal; package tree: rowList. -/
import Derived.Test.YtmmlphdekeflfaaGreatDoorPcAM
namespace Go.Proofs.YtmmlphdekeflfaaGreatDoor
open Go.RowKit

end Go.Proofs.YtmmlphdekeflfaaGreatDoor

namespace Go.Proofs.YtmmlphdekeflfaaGreatDoor
open Go.RowKit

theorem eq_of_zat {x y : List Int} (hl : x.length = y.length) (h : ∀ j, j < x.length → zat x j = zat y j) : x = y := by
  apply List.ext_getElem hl
  intro i h1 h2
  have := h i h1
  simpa [zat, h1, h2] using this

set_option maxRecDepth 100000 in
set_option maxHeartbeats 2000000 in
theorem equal_any (c1 c2 : Nat) (a1 a2 : Option Addr) (x y : List Int) (w : World) (hx : x.length ≤ 281474976710656) (h1 : RowB w.heap.size w a1 x) (h2 : RowB w.heap.size w a2 y) :
    Calls Tryz.prog 78 #[.slice a1 x.length c1, .slice a2 y.length c2] w fun e w' => e = .returned (.bool (decide (x = y))) ∧ Below w.heap.size w w' := by
  have H1 := hid h1
  have H2 := hid h2
  clear h1 h2
  by_cases hl : x.length = y.length
  · obtain ⟨n, hn⟩ : ∃ n, n = x.length := ⟨_, rfl⟩
    have HN := hid hn
    have HLY : Hid (y.length = n) := by rw [hn]; exact hl.symm
    rw [← hl, ← hn]
    rw [← hn] at hx
    clear hn hl
    go_enter Tryz.func78, Tryz.ntmps78
    go_wp2_with fail
    go_loopw [13] (fun iv wr => ∃ k : Nat, k ≤ n ∧ iv = .int .i64 k ∧ Hid ((∀ j, j < k → zat x j = zat y j) ∧ Below w.heap.size w wr)) (fun iv _ => n - (intOf iv).toNat)
    case atStart => exact ⟨0, by omega, rfl, fun j hj => by omega, Below.refl _ _⟩
    case round =>
      obtain ⟨k, hk, rfl, hC⟩ := hrel
      by_cases hlt : k < n
      · have hlt2 : (k : Int) < (n : Int) := by omega
        have hks : IntKind.i64.wrap ((k : Int) + 1) = (k : Int) + 1 := by rw [IntKind.wrap_i64]; omega
        obtain ⟨b1, o1, rfl, hb1, hc1⟩ := H1.out k (by rw [← HN.out]; exact hlt)
        obtain ⟨b2, o2, rfl, hb2, hc2⟩ := H2.out k (by rw [HLY.out]; exact hlt)
        have k1 := (hC.out.2.cell (p := ⟨b1, o1 + k, none⟩) hb1).trans hc1
        have k2 := (hC.out.2.cell (p := ⟨b2, o2 + k, none⟩) hb2).trans hc2
        have HB := hid hC.out.2
        have HP := hid hC.out.1
        clear hC hc1 hc2 hb1 hb2
        by_cases he : zat x k = zat y k
        · have HE : Hid ((∀ j, j < k + 1 → zat x j = zat y j) ∧ Below w.heap.size w wr.drew) := ⟨fun j hj => by
            rcases Nat.lt_or_ge j k with h' | h'
            · exact HP.out j h'
            · rw [show j = k by omega]; exact he, HB.out.drew⟩
          rw [he] at k1
          generalize zat y k = v at *
          clear he
          go_wp2_with fail
          go_region_held3 (fun W => W.cell? ⟨b1, o1 + k, none⟩ = some (.int .i64 v) ∧ W.cell? ⟨b2, o2 + k, none⟩ = some (.int .i64 v)) (go_keep) (fail)
          go_wp2_with fail
          go_roundw
          case rel => exact ⟨k + 1, by omega, by go_num, HE⟩
          case measure => simp [intOf]; omega
        · have HNE : Hid (¬ x = y) := fun e => he (by rw [e])
          have hne : (zat x k != zat y k) = true := by simpa using he
          generalize zat x k = u at *
          generalize zat y k = v at *
          go_wp2_with fail
          go_region_held3 (fun W => W.cell? ⟨b1, o1 + k, none⟩ = some (.int .i64 u) ∧ W.cell? ⟨b2, o2 + k, none⟩ = some (.int .i64 v)) (go_keep) (fail)
          go_wp2_with fail
          go_ret
          exact ⟨by rw [decide_eq_false HNE.out]; rfl, HB.out.drew⟩
      · obtain rfl : k = n := by omega
        have HE := hC
        clear hC
        go_wp2_with fail
        go_ret
        refine ⟨?_, HE.out.2⟩
        rw [decide_eq_true (eq_of_zat (by rw [← HN.out]; exact HLY.out.symm) (fun j hj => HE.out.1 j (by rw [HN.out]; exact hj)))]
        rfl
  · have hne : ((x.length : Int) != (y.length : Int)) = true := by simp; omega
    have HNE : Hid (¬ x = y) := fun e => hl (by rw [e])
    clear hl
    go_enter Tryz.func78, Tryz.ntmps78
    go_wp2_with fail
    go_ret
    exact ⟨by rw [decide_eq_false HNE.out]; rfl, Below.refl _ _⟩

end Go.Proofs.YtmmlphdekeflfaaGreatDoor
