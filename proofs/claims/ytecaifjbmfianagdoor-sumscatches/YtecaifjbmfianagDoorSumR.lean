/- attestref4: Variables, Over, weight, Extend, Fix, Total, At. -/
import Derived.Test.YtecaifjbmfianagDoorSumP
import Derived.Test.YtecaifjbmfianagDoorRefS
import Derived.Test.YtecaifjbmfianagDoorRefs
import Derived.Test.YtecaifjbmfianagDoorUnlike
import Derived.BigQuiet
namespace Go.Proofs.YtecaifjbmfianagDoor
open Go.RowKit

/-- how many variables a table of so many has; -1: it is none -/
def vrs (n : Nat) : Int := match (List.range 13).find? (fun v => n == 2 ^ v) with
  | some v => v
  | none => -1
theorem vrs_yes {n v : Nat} (hv : v ≤ 12) (h : n = 2 ^ v) : vrs n = v := by
  unfold vrs
  have e : (List.range 13).find? (fun u => n == 2 ^ u) = some v := by
    rw [List.find?_range_eq_some]
    refine ⟨by simpa using h, by simp; omega, fun j hj => ?_⟩
    have := Nat.pow_lt_pow_right (a := 2) (by omega) hj
    simp
    omega
  rw [e]
theorem vrs_no {n : Nat} (h : ∀ v, v ≤ 12 → n ≠ 2 ^ v) : vrs n = -1 := by
  unfold vrs
  have e : (List.range 13).find? (fun u => n == 2 ^ u) = none := by
    rw [List.find?_eq_none]
    intro u hu
    simp at hu
    simpa using h u (by omega)
  rw [e]
theorem vrs_of {n : Nat} (h : 0 ≤ vrs n) : ∃ v : Nat, v ≤ 12 ∧ n = 2 ^ v ∧ vrs n = v := by
  by_cases e : ∃ v : Nat, v ≤ 12 ∧ n = 2 ^ v
  · obtain ⟨v, h1, h2⟩ := e
    exact ⟨v, h1, h2, vrs_yes h1 h2⟩
  · have := vrs_no (n := n) (fun v hv h2 => e ⟨v, hv, h2⟩)
    omega

set_option maxRecDepth 100000 in
set_option maxHeartbeats 1000000 in
theorem rvars_any (n cap : Nat) (a : Option Addr) (w : World) :
    Calls Tryd.prog 39 #[.slice a n cap] w fun e w' => e = .returned (.int .i64 (vrs n)) ∧ w' = w := by
  go_enter Tryd.func39, Tryd.ntmps39
  go_wp2_with fail
  go_loop [3, 4] (fun xv iv => ∃ k M : Nat, k ≤ 13 ∧ iv = .int .i64 k ∧ xv = .int .i64 (M : Int) ∧ M ≤ 8192 ∧ Hid (M = 2 ^ k ∧ ∀ u, u < k → n ≠ 2 ^ u)) (fun _ iv => 13 - (intOf iv).toNat)
  case atStart => exact ⟨0, 1, by omega, rfl, rfl, by omega, rfl, fun u hu => by omega⟩
  case round =>
    obtain ⟨k, M, hk, rfl, rfl, hM, hI⟩ := hrel
    by_cases hlt : k ≤ 12
    · have hlt2 : (k : Int) ≤ 12 := by omega
      have hks : IntKind.i64.wrap ((k : Int) + 1) = (k : Int) + 1 := by rw [IntKind.wrap_i64]; omega
      by_cases he : n = M
      · have he2 : ((n : Int) == (M : Int)) = true := by simp [he]
        have HE : Hid (vrs n = k) := vrs_yes hlt (by rw [he]; exact hI.out.1)
        clear hI he
        go_wp2_with fail
        go_ret
        exact ⟨by rw [HE.out]; rfl, rfl⟩
      · have he2 : ((n : Int) == (M : Int)) = false := by simp; omega
        have hM2 : M * 2 ≤ 8192 := by
          have h1 := hI.out.1
          have : 2 ^ k ≤ 2 ^ 12 := Nat.pow_le_pow_right (by omega) hlt
          omega
        have hw : IntKind.i64.wrap ((M : Int) * 2) = (M : Int) * 2 := by rw [IntKind.wrap_i64]; omega
        have HI2 : Hid (M * 2 = 2 ^ (k + 1) ∧ ∀ u, u < k + 1 → n ≠ 2 ^ u) := by
          refine ⟨by rw [Nat.pow_succ, ← hI.out.1], fun u hu => ?_⟩
          by_cases e : u = k
          · rw [e, ← hI.out.1]; exact he
          · exact hI.out.2 u (by omega)
        clear hI he
        go_wp2_with fail
        go_round
        case rel => exact ⟨k + 1, M * 2, by omega, by go_num, by go_num, hM2, HI2⟩
        case measure => simp [intOf]; omega
    · have hlt2 : ¬ (k : Int) ≤ 12 := by omega
      have HE : Hid (vrs n = -1) := vrs_no (fun v hv => hI.out.2 v (by omega))
      clear hI
      go_wp2_with fail
      go_ret
      exact ⟨by rw [HE.out]; rfl, rfl⟩

/-- how many variables several tables have; -1: they are none -/
def ovr (rows : List (List Int)) : Int := if 1 ≤ rows.length ∧ rows.length ≤ 4 ∧ ∀ k, k < rows.length → (rat rows k).length = (rat rows 0).length then vrs (rat rows 0).length else -1

set_option maxRecDepth 100000 in
set_option maxHeartbeats 1000000 in
theorem rover_any (cap n0 : Nat) (a : Option Addr) (rows : List (List Int)) (w : World) (hl : LstR n0 w a cap rows) (hr : rows.length ≤ 5864062014805) :
    Calls Tryd.prog 10 #[.slice a rows.length cap] w fun e w' => e = .returned (.int .i64 (ovr rows)) ∧ ∃ n, w' = w.drewN n := by
  have HL := hid hl
  clear hl
  obtain ⟨m, hm⟩ : ∃ m, m = rows.length := ⟨_, rfl⟩
  rw [← hm] at hr ⊢
  have HM := hid hm
  clear hm
  by_cases hn : 1 ≤ m ∧ m ≤ 4
  · obtain ⟨h1, h4⟩ := hn
    have t1 : ((m : Int) == 0) = false := by simp; omega
    have t2 : ¬ (m : Int) > 4 := by omega
    have t3 : (0 : Int) < (m : Int) := by omega
    obtain ⟨b, o, ak, ck, rfl, hb, hc, hlk⟩ := HL.out.row 0 (by rw [← HM.out]; omega)
    rw [Nat.add_zero] at hc
    obtain ⟨L, hL⟩ : ∃ L, L = (rat rows 0).length := ⟨_, rfl⟩
    rw [← hL] at hc
    have HLL := hid hL
    have HV := hid (fun W => rvars_any L ck ak W)
    clear hL hlk hb
    go_enter Tryd.func10, Tryd.ntmps10
    go_wp2_with fail
    refine (HV.out w).mono ?_
    rintro e w1 ⟨rfl, rfl⟩
    obtain ⟨V, hV⟩ : ∃ V, V = vrs L := ⟨_, rfl⟩
    rw [← hV]
    have HVV := hid hV
    clear hV HV
    go_wp2_with fail
    go_loopw [4] (fun iv wr => ∃ k n : Nat, k ≤ m ∧ iv = .int .i64 k ∧ Hid ((∀ j, j < k → (rat rows j).length = L) ∧ wr = w1.drewN n)) (fun iv _ => m - (intOf iv).toNat)
    case atStart => exact ⟨0, 0, by omega, rfl, fun j hj => by omega, rfl⟩
    case round =>
      obtain ⟨k, n, hk, rfl, hI⟩ := hrel
      by_cases hlt : k < m
      · have hlt2 : (k : Int) < (m : Int) := by omega
        have hks : IntKind.i64.wrap ((k : Int) + 1) = (k : Int) + 1 := by rw [IntKind.wrap_i64]; omega
        obtain ⟨b2, o2, bk, dk, e1, _, hc2, _⟩ := HL.out.row k (by rw [← HM.out]; omega)
        cases e1
        obtain ⟨y, hy⟩ : ∃ y, y = (rat rows k).length := ⟨_, rfl⟩
        rw [← hy] at hc2
        have x1 : wr.cell? ⟨b, o, none⟩ = some (.slice ak L ck) := by rw [hI.out.2]; exact hc
        have x2 : wr.cell? ⟨b, o + k, none⟩ = some (.slice bk y dk) := by rw [hI.out.2]; exact hc2
        by_cases he : y = L
        · have he2 : ((y : Int) != (L : Int)) = false := by simp [he]
          have HI2 : Hid ((∀ j, j < k + 1 → (rat rows j).length = L) ∧ wr = w1.drewN n) := ⟨fun j hj => by
            by_cases e : j = k
            · rw [e, ← hy, he]
            · exact hI.out.1 j (by omega), hI.out.2⟩
          clear hI hy he hc2
          go_wp2_with fail
          go_quiet (fail)
          have HI3 : Hid ((∀ j, j < k + 1 → (rat rows j).length = L) ∧ wr.drewN nq = w1.drewN (n + nq)) := ⟨HI2.out.1, by rw [HI2.out.2, World.drewN_drewN]⟩
          go_wp2_with fail
          go_roundw
          case rel => exact ⟨k + 1, n + nq, by omega, by go_num, HI3⟩
          case measure => simp [intOf]; omega
        · have he2 : ((y : Int) != (L : Int)) = true := by simp; omega
          have HE : Hid (ovr rows = -1) := by
            unfold Hid ovr
            rw [if_neg]
            rintro ⟨_, _, h⟩
            have := h k (by rw [← HM.out]; exact hlt)
            rw [← hy, ← HLL.out] at this
            exact he this
          have HW := hid hI.out.2
          clear hI hy he hc2
          go_wp2_with fail
          go_quiet (fail)
          have HW2 : Hid (wr.drewN nq = w1.drewN (n + nq)) := by unfold Hid; rw [HW.out, World.drewN_drewN]
          go_wp2_with fail
          go_ret
          exact ⟨by rw [HE.out]; rfl, _, HW2.out⟩
      · obtain rfl : k = m := by omega
        have hlt2 : ¬ (k : Int) < (k : Int) := by omega
        have HE : Hid (ovr rows = V) := by
          unfold Hid ovr
          rw [if_pos, ← HLL.out, HVV.out]
          rw [← HM.out]
          exact ⟨h1, h4, fun j hj => by rw [hI.out.1 j hj, HLL.out]⟩
        have HW := hid hI.out.2
        clear hI
        go_wp2_with fail
        go_ret
        exact ⟨by rw [HE.out]; rfl, _, HW.out⟩
  · have HE : Hid (ovr rows = -1) := by
      unfold Hid ovr
      rw [if_neg]
      rintro ⟨h1, h2, _⟩
      rw [← HM.out] at h1 h2
      exact hn ⟨h1, h2⟩
    by_cases h0 : m = 0
    · have t1 : ((m : Int) == 0) = true := by simp [h0]
      clear h0 hn
      go_enter Tryd.func10, Tryd.ntmps10
      go_wp2_with fail
      go_ret
      exact ⟨by rw [HE.out]; rfl, 0, rfl⟩
    · have t1 : ((m : Int) == 0) = false := by simp; omega
      have t2 : (m : Int) > 4 := by omega
      clear h0 hn
      go_enter Tryd.func10, Tryd.ntmps10
      go_wp2_with fail
      go_ret
      exact ⟨by rw [HE.out]; rfl, 0, rfl⟩

end Go.Proofs.YtecaifjbmfianagDoor
