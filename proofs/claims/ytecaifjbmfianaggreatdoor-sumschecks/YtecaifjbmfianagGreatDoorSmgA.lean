/- Package sums: isTable, variables, hasPlaces, product, across, upTo, fixed. -/
import Derived.Test.YtecaifjbmfianagGreatDoorSumW
import Derived.Test.YtecaifjbmfianagGreatDoorDoms
import Derived.Test.YtecaifjbmfianagGreatDoorSpgs
import Derived.StillTailTactics
namespace Go.Proofs.YtecaifjbmfianagGreatDoor
open Go.RowKit

theorem vrs_iff (n : Nat) : 0 ≤ vrs n ↔ ∃ v : Nat, v ≤ 12 ∧ n = 2 ^ v := by
  constructor
  · intro h
    obtain ⟨v, h1, h2, _⟩ := vrs_of h
    exact ⟨v, h1, h2⟩
  · rintro ⟨v, h1, h2⟩
    rw [vrs_yes h1 h2]
    omega
theorem pow_12 {v : Nat} (h : v ≤ 12) : 2 ^ v ≤ 4096 := by
  have : 2 ^ v ≤ 2 ^ 12 := Nat.pow_le_pow_right (by omega) h
  omega

set_option maxRecDepth 100000 in
theorem hasplaces_any (p b : Nat) (d : Int) (w : World) (hp : w.cell? ⟨b, 0, none⟩ = some (.int .i64 p)) :
    Calls Tryz.prog 11 #[.pointer (some ⟨b, 0, none⟩), .int .i64 d] w fun e w' => e = .returned (.bool (decide (d < (p : Int)))) ∧ w' = w := by
  have HP := hid (p_any p b w hp)
  clear hp
  go_enter Tryz.func11, Tryz.ntmps11
  go_wp2_with fail
  refine HP.out.mono ?_
  rintro e w1 ⟨rfl, rfl⟩
  go_wp2_with fail
  go_ret
  exact ⟨rfl, rfl⟩

set_option maxRecDepth 100000 in
set_option maxHeartbeats 1000000 in
theorem product_any (p b cap n0 : Nat) (a : Option Addr) (zs : List Int) (w : World) (h3 : 3 ≤ p) (hm : p ≤ 2147483647) (hp : w.cell? ⟨b, 0, none⟩ = some (.int .i64 p)) (hn : zs.length ≤ 281474976710656) (hf : Fits zs) (hr : RowB n0 w a zs) :
    Calls Tryz.prog 18 #[.pointer (some ⟨b, 0, none⟩), .slice a zs.length cap] w fun e w' => e = .returned (.int .i64 (Sum.prz (zat zs) zs.length % (p : Int))) ∧ w' = w := by
  have HF := hid hf
  have HR := hid hr
  have HP := hid hp
  obtain ⟨n, hnn⟩ : ∃ n, n = zs.length := ⟨_, rfl⟩
  rw [← hnn] at hn ⊢
  have HN := hid hnn
  obtain ⟨G, hG⟩ : ∃ G, G = zat zs := ⟨_, rfl⟩
  rw [← hG]
  have HG := hid hG
  clear hf hr hp hnn hG
  go_enter Tryz.func18, Tryz.ntmps18
  go_wp2_with fail
  go_loop [5, 10] (fun xv iv => ∃ (k : Nat) (x : Int), k ≤ n ∧ iv = .int .i64 k ∧ xv = .int .i64 x ∧ 0 ≤ x ∧ x < (p : Int) ∧ Hid (x = Sum.prz G k % (p : Int))) (fun _ iv => n - (intOf iv).toNat)
  case atStart => exact ⟨0, 1, by omega, rfl, rfl, by omega, by omega, by unfold Hid; simp only [Sum.prz]; rw [Int.emod_eq_of_lt (by omega) (by omega)]⟩
  case round =>
    obtain ⟨k, x, hk, rfl, rfl, hx1, hx2, hJ⟩ := hrel
    by_cases hlt : k < n
    · have hlt2 : (k : Int) < (n : Int) := by omega
      have hks : IntKind.i64.wrap ((k : Int) + 1) = (k : Int) + 1 := by rw [IntKind.wrap_i64]; omega
      obtain ⟨bl, ol, rfl, _, hc⟩ := HR.out k (by rw [← HN.out]; exact hlt)
      obtain ⟨f1, f2⟩ := HF.out.all k
      have HGk : Hid (G k = zat zs k) := by unfold Hid; rw [HG.out]
      generalize zat zs k = y at *
      have HMU := hid (mul_any p b x y w h3 hm HP.out (by omega) (by omega) f1 f2)
      obtain ⟨d1, d2⟩ := emod_bounds (x * y) p h3
      have HE : Hid (x * y % (p : Int) = Sum.prz G (k + 1) % (p : Int)) := by
        unfold Hid
        rw [Sum.prz, HGk.out]
        refine mulmod (by omega) ?_ (by simp)
        rw [hJ.out]
        exact dvd_self_mod p _
      generalize x * y % (p : Int) = x' at *
      clear hJ HGk
      go_wp2_with fail
      refine HMU.out.mono ?_
      rintro e w1 ⟨rfl, rfl⟩
      go_wp2_with fail
      go_round
      case rel => exact ⟨k + 1, x', by omega, by go_num, rfl, d1, d2, HE⟩
      case measure => simp [intOf]; omega
    · obtain rfl : k = n := by omega
      have hlt2 : ¬ (k : Int) < (k : Int) := by omega
      have HE : Hid (x = Sum.prz G k % (p : Int)) := hJ
      clear hJ
      go_wp2_with fail
      go_ret
      exact ⟨by rw [← HE.out]; rfl, rfl⟩

set_option maxRecDepth 100000 in
set_option maxHeartbeats 1000000 in
theorem upto_any (d : Nat) (w : World) (hd : d ≤ 17592186043904) :
    Calls Tryz.prog 13 #[.int .i64 (d : Int)] w fun e w' => e = .returned (.slice (some ⟨w.heap.size, 0, none⟩) (d + 1) (d + 1)) ∧ ArrI w' w.heap.size 3 (d + 1) (fun i => (i : Int)) ∧ Below w.heap.size w w' := by
  obtain ⟨n, hn⟩ : ∃ n, n = d + 1 := ⟨_, rfl⟩
  have e1 : IntKind.i64.wrap ((d : Int) + 1) = (n : Int) := by rw [IntKind.wrap_i64]; omega
  have e2 : (d : Int) + 1 = (n : Int) := by omega
  have hn2 : n ≤ 17592186043905 := by omega
  rw [← hn]
  obtain ⟨G, hG⟩ : ∃ G : Nat → Int, G = fun k : Nat => (k : Int) := ⟨_, rfl⟩
  rw [← hG]
  have HG := hid hG
  clear hn hG hd
  have hmk2 := fun w => run_make_row' (P := Tryz.prog) 23 3 (.int .i64 0) 8 Tryz.underlying23 Tryz.infoInt rfl .i64 .i64 n (by omega) (by omega) w
  go_enter Tryz.func13, Tryz.ntmps13
  go_wp2_with fail
  go_loopw [10] (fun iv wr => ∃ k : Nat, k ≤ n ∧ iv = .int .i64 k ∧ Hid (ArrI wr w.heap.size 3 n (fll G (fun _ => 0) k) ∧ Below w.heap.size w wr)) (fun iv _ => n - (intOf iv).toNat)
  case atStart => exact ⟨0, by omega, rfl, by rw [fll_zero]; exact World.rowIs_made _ _ _ _, (Below.refl _ _).alloc (Nat.le_refl _) _⟩
  case round =>
    obtain ⟨k, hk, rfl, hI⟩ := hrel
    by_cases hlt : k < n
    · have hlt2 : (k : Int) < (n : Int) := by omega
      have hks : IntKind.i64.wrap ((k : Int) + 1) = (k : Int) + 1 := by rw [IntKind.wrap_i64]; omega
      have HGk : Hid (G k = (k : Int)) := by unfold Hid; rw [HG.out]
      have c1 := hI.out.1.cell hlt
      have y1 := hI.out.1.frozen k
      have HA2 := hid hI.out.1.next
      have HBL := hid (hI.out.2.setCell (p := ⟨w.heap.size, k, none⟩) (by simp) (.int .i64 (G k)))
      rw [HGk.out] at HA2 HBL
      generalize fll G (fun _ => 0) k k = y0 at *
      clear hI HGk
      go_wp2_with fail
      go_roundw
      case rel => exact ⟨k + 1, by omega, by go_num, HA2.out, HBL.out⟩
      case measure => simp [intOf]; omega
    · obtain rfl : k = n := by omega
      have hlt2 : ¬ (k : Int) < (k : Int) := by omega
      have HE : Hid (ArrI wr w.heap.size 3 k G ∧ Below w.heap.size w wr) := ⟨hI.out.1.congr (fun j hj => fll_all hj), hI.out.2⟩
      clear hI
      go_wp2_with fail
      go_ret
      exact ⟨rfl, HE.out⟩

end Go.Proofs.YtecaifjbmfianagGreatDoor
