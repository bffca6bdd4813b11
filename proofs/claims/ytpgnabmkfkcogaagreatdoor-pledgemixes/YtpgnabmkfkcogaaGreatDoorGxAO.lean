/- attestref4: Variables, Over, weight, Extend, Fix, Total, At. attestref4: weight, Extend, Fix, Total, At. -/
import Derived.Test.YtpgnabmkfkcogaaGreatDoorGxAF
import Derived.Test.YtpgnabmkfkcogaaGreatDoorGxAN
import Derived.Test.YtpgnabmkfkcogaaGreatDoorRefs
import Derived.Test.YtpgnabmkfkcogaaGreatDoorGxAE
import Derived.BigQuiet
namespace Go.Proofs.YtpgnabmkfkcogaaGreatDoor
open Go.RowKit

/-- how many variables a table of so many has; -1: it is none -/
def vrs (n : Nat) : Int := match (List.range 13).find? (fun v => n == 2 ^ v) with
  | some v => v
  | none => -1
theorem vrs_yes {n v : Nat} (hv : v ≤ 12) (h : n = 2 ^ v) : vrs n = v := by
  unfold vrs
  have e : (List.range 13).find? (fun u => n == 2 ^ u) = some v := by
    rw [List.find?_range_eq_some]
    refine ⟨by simpa using h, by simp; omega, fun j hj => ?_⟩
    have := Nat.pow_lt_pow_right (a := 2) (by omega) hj
    simp
    omega
  rw [e]
theorem vrs_no {n : Nat} (h : ∀ v, v ≤ 12 → n ≠ 2 ^ v) : vrs n = -1 := by
  unfold vrs
  have e : (List.range 13).find? (fun u => n == 2 ^ u) = none := by
    rw [List.find?_eq_none]
    intro u hu
    simp at hu
    simpa using h u (by omega)
  rw [e]
theorem vrs_of {n : Nat} (h : 0 ≤ vrs n) : ∃ v : Nat, v ≤ 12 ∧ n = 2 ^ v ∧ vrs n = v := by
  by_cases e : ∃ v : Nat, v ≤ 12 ∧ n = 2 ^ v
  · obtain ⟨v, h1, h2⟩ := e
    exact ⟨v, h1, h2, vrs_yes h1 h2⟩
  · have := vrs_no (n := n) (fun v hv h2 => e ⟨v, hv, h2⟩)
    omega

set_option maxRecDepth 100000 in
set_option maxHeartbeats 1000000 in
theorem rvars_any (n cap : Nat) (a : Option Addr) (w : World) :
    Calls Tryz.prog 16 #[.slice a n cap] w fun e w' => e = .returned (.int .i64 (vrs n)) ∧ w' = w := by
  go_enter Tryz.func16, Tryz.ntmps16
  go_wp2_with fail
  go_loop [3, 4] (fun xv iv => ∃ k M : Nat, k ≤ 13 ∧ iv = .int .i64 k ∧ xv = .int .i64 (M : Int) ∧ M ≤ 8192 ∧ Hid (M = 2 ^ k ∧ ∀ u, u < k → n ≠ 2 ^ u)) (fun _ iv => 13 - (intOf iv).toNat)
  case atStart => exact ⟨0, 1, by omega, rfl, rfl, by omega, rfl, fun u hu => by omega⟩
  case round =>
    obtain ⟨k, M, hk, rfl, rfl, hM, hI⟩ := hrel
    by_cases hlt : k ≤ 12
    · have hlt2 : (k : Int) ≤ 12 := by omega
      have hks : IntKind.i64.wrap ((k : Int) + 1) = (k : Int) + 1 := by rw [IntKind.wrap_i64]; omega
      by_cases he : n = M
      · have he2 : ((n : Int) == (M : Int)) = true := by simp [he]
        have HE : Hid (vrs n = k) := vrs_yes hlt (by rw [he]; exact hI.out.1)
        clear hI he
        go_wp2_with fail
        go_ret
        exact ⟨by rw [HE.out]; rfl, rfl⟩
      · have he2 : ((n : Int) == (M : Int)) = false := by simp; omega
        have hM2 : M * 2 ≤ 8192 := by
          have h1 := hI.out.1
          have : 2 ^ k ≤ 2 ^ 12 := Nat.pow_le_pow_right (by omega) hlt
          omega
        have hw : IntKind.i64.wrap ((M : Int) * 2) = (M : Int) * 2 := by rw [IntKind.wrap_i64]; omega
        have HI2 : Hid (M * 2 = 2 ^ (k + 1) ∧ ∀ u, u < k + 1 → n ≠ 2 ^ u) := by
          refine ⟨by rw [Nat.pow_succ, ← hI.out.1], fun u hu => ?_⟩
          by_cases e : u = k
          · rw [e, ← hI.out.1]; exact he
          · exact hI.out.2 u (by omega)
        clear hI he
        go_wp2_with fail
        go_round
        case rel => exact ⟨k + 1, M * 2, by omega, by go_num, by go_num, hM2, HI2⟩
        case measure => simp [intOf]; omega
    · have hlt2 : ¬ (k : Int) ≤ 12 := by omega
      have HE : Hid (vrs n = -1) := vrs_no (fun v hv => hI.out.2 v (by omega))
      clear hI
      go_wp2_with fail
      go_ret
      exact ⟨by rw [HE.out]; rfl, rfl⟩

end Go.Proofs.YtpgnabmkfkcogaaGreatDoor

namespace Go.Proofs.YtpgnabmkfkcogaaGreatDoor
open Go.RowKit

/-- the table over one variable less: the first is r -/
def fixl (p : Nat) (t : List Int) (r : Int) : List Int := ls (fun i => (zat t i * (1 - r) + zat t (i + t.length / 2) * r) % (p : Int)) (t.length / 2)
theorem fixl_len (p : Nat) (t : List Int) (r : Int) : (fixl p t r).length = t.length / 2 := ls_len _ _
theorem fixl_at {p : Nat} {t : List Int} {r : Int} {i : Nat} (h : i < t.length / 2) : zat (fixl p t r) i = (zat t i * (1 - r) + zat t (i + t.length / 2) * r) % (p : Int) := ls_at _ _ _ h

/-- the sum of products -/
def totz (p : Nat) (rows : List (List Int)) : Int := Dom.sm (fun i => Sum.prz (fun k => zat (rat rows k) i) rows.length) (rat rows 0).length % (p : Int)
/-- 0, 1, .. -/
def cnt' (n : Nat) : List Int := ls (fun i => (i : Int)) n
theorem cnt_len (n : Nat) : (cnt' n).length = n := ls_len _ _
/-- what the polynomial that is l at 0, 1, .. is at r -/
def atz (p : Nat) (l : List Int) (r : Int) : Int := evz p (pfit p (cnt' l.length) l) r
end Go.Proofs.YtpgnabmkfkcogaaGreatDoor
