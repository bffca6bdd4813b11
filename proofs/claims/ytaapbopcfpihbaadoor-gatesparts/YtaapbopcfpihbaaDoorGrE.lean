/- The reference of package gates: bits. -/
import Derived.Test.YtaapbopcfpihbaaDoorGpAO
namespace Go.Proofs.YtaapbopcfpihbaaDoor
open Go.RowKit

/-- bits that are laid from the end on -/
def btl (n I s j : Nat) : Int := if n - s ≤ j then bitz n I j else 0
theorem btl_next {n I s k j : Nat} (hk : k + 1 + s = n) (hj : j < n) : (if j = k then ((I / 2 ^ s % 2 : Nat) : Int) else btl n I s j) = btl n I (s + 1) j := by
  unfold btl
  by_cases e : j = k
  · subst e
    rw [if_pos rfl, if_pos (by omega)]
    unfold bitz
    rw [show n - 1 - j = s from by omega]
  · rw [if_neg e]
    by_cases h : n - s ≤ j
    · rw [if_pos h, if_pos (by omega)]
    · rw [if_neg h, if_neg (by omega)]

set_option maxRecDepth 100000 in
set_option maxHeartbeats 1000000 in
theorem rbits_any (I n : Nat) (w : World) (hn : n ≤ 6) (hI : I ≤ 281474976710656) :
    Calls Tryd.prog 34 #[.int .i64 (I : Int), .int .i64 (n : Int)] w fun e w' => e = .returned (.slice (some ⟨w.heap.size, 0, none⟩) n n) ∧ ArrI w' w.heap.size 3 n (bitz n I) ∧ Below w.heap.size w w' := by
  have hmk2 := fun w => run_make_row' (P := Tryd.prog) 25 3 (.int .i64 0) 8 Tryd.underlying25 Tryd.infoInt rfl .i64 .i64 n (by omega) (by omega) w
  have HAM : Hid (ArrI (w.alloc (.cells (madeCells #[.int .i64 0] n) 3)) w.heap.size 3 n (btl n I 0)) := (World.rowIs_made _ _ _ _).congr (fun j hj => by unfold btl; rw [if_neg (by omega)])
  have HBM : Hid (Below w.heap.size w (w.alloc (.cells (madeCells #[.int .i64 0] n) 3))) := (Below.refl _ _).alloc (Nat.le_refl _) _
  have hn1 : IntKind.i64.wrap ((n : Int) - 1) = (n : Int) - 1 := by rw [IntKind.wrap_i64]; omega
  go_enter Tryd.func34, Tryd.ntmps34
  go_wp2_with fail
  generalize w.alloc (.cells (madeCells #[.int .i64 0] n) 3) = W1 at *
  go_loopw [0, 6] (fun xv kv wr => ∃ s : Nat, s ≤ n ∧ (∃ K : Int, kv = .int .i64 K ∧ Hid (K = (n : Int) - 1 - (s : Int))) ∧ (∃ X : Nat, xv = .int .i64 (X : Int) ∧ X ≤ 281474976710656 ∧ Hid (X = I / 2 ^ s)) ∧ Hid (ArrI wr w.heap.size 3 n (btl n I s) ∧ Below w.heap.size w wr)) (fun _ kv _ => (intOf kv + 1).toNat)
  case atStart => exact ⟨0, by omega, ⟨_, rfl, by unfold Hid; omega⟩, ⟨I, rfl, hI, by unfold Hid; simp⟩, HAM.out, HBM.out⟩
  case round =>
    obtain ⟨s, hs, ⟨K, rfl, hK⟩, ⟨X, rfl, hX, hXe⟩, hJ⟩ := hrel
    by_cases hlt : s < n
    · obtain ⟨k, hk⟩ : ∃ k : Nat, k = n - 1 - s := ⟨_, rfl⟩
      have hKk : K = (k : Int) := by rw [hK.out]; omega
      subst hKk
      have k0 : (0 : Int) ≤ (k : Int) := by omega
      have hkn : k < n := by omega
      have hkn2 : (k : Int) < (n : Int) := by omega
      have m1 : (X : Int).tmod 2 = ((X % 2 : Nat) : Int) := by rw [Int.tmod_eq_emod_of_nonneg (by omega)]; omega
      have m2 : (X : Int) % 2 = ((X % 2 : Nat) : Int) := by omega
      have d1 : (X : Int).tdiv 2 = ((X / 2 : Nat) : Int) := by rw [Int.tdiv_eq_ediv_of_nonneg (by omega)]; omega
      have d2 : (X : Int) / 2 = ((X / 2 : Nat) : Int) := by omega
      have w1 : IntKind.i64.wrap ((k : Int) - 1) = (k : Int) - 1 := by rw [IntKind.wrap_i64]; omega
      have w2 : IntKind.i64.wrap ((X / 2 : Nat) : Int) = ((X / 2 : Nat) : Int) := by rw [IntKind.wrap_i64]; omega
      have w3 : IntKind.i64.wrap ((X % 2 : Nat) : Int) = ((X % 2 : Nat) : Int) := by rw [IntKind.wrap_i64]; omega
      have c1 := hJ.out.1.cell hkn
      have y1 := hJ.out.1.frozen k
      have HA2 : Hid (ArrI (wr.setCell ⟨w.heap.size, k, none⟩ (.int .i64 ((X % 2 : Nat) : Int))) w.heap.size 3 n (btl n I (s + 1))) := (World.rowIs.set hJ.out.1 k (.int .i64 ((X % 2 : Nat) : Int))).congr (fun j hj => by
        have := btl_next (n := n) (I := I) (s := s) (k := k) (j := j) (by omega) hj
        rw [← hXe.out] at this
        rw [← this]
        by_cases e : j = k <;> simp [e])
      have HBL := hid (hJ.out.2.setCell (p := ⟨w.heap.size, k, none⟩) (by simp) (.int .i64 ((X % 2 : Nat) : Int)))
      have HK2 : Hid ((k : Int) - 1 = (n : Int) - 1 - ((s + 1 : Nat) : Int)) := by unfold Hid; omega
      have HX2 : Hid (X / 2 = I / 2 ^ (s + 1)) := by unfold Hid; rw [hXe.out, Nat.pow_succ, Nat.div_div_eq_div_mul]
      have hX2 : X / 2 ≤ 281474976710656 := by omega
      generalize X % 2 = r at *
      generalize X / 2 = q at *
      generalize btl n I s k = y0 at *
      clear hJ hXe hK hk
      go_wp2_with fail
      go_roundw
      case rel => exact ⟨s + 1, by omega, ⟨_, rfl, HK2.out⟩, ⟨q, by first | rfl | go_num, hX2, HX2.out⟩, HA2.out, HBL.out⟩
      case measure => simp [intOf]
    · obtain rfl : s = n := by omega
      have k0 : ¬ (0 : Int) ≤ K := by rw [hK.out]; omega
      have HE : Hid (ArrI wr w.heap.size 3 s (bitz s I) ∧ Below w.heap.size w wr) := ⟨World.rowIs.congr hJ.out.1 (fun j hj => by unfold btl; rw [if_pos (by omega)]), hJ.out.2⟩
      clear hJ hK
      go_wp2_with fail
      go_ret
      exact ⟨rfl, HE.out⟩

end Go.Proofs.YtaapbopcfpihbaaDoor
