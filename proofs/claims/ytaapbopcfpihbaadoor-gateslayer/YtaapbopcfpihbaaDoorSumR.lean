/- attestref4: Variables, Over, weight, Extend, Fix, Total, At. -/
import Derived.Test.YtaapbopcfpihbaaDoorSumP
import Derived.Test.YtaapbopcfpihbaaDoorRefS
import Derived.Test.YtaapbopcfpihbaaDoorRefs
import Derived.Test.YtaapbopcfpihbaaDoorGlAB
import Derived.BigQuiet
namespace Go.Proofs.YtaapbopcfpihbaaDoor
open Go.RowKit

/-- how many variables a table of so many has; -1: it is none -/
def vrs (n : Nat) : Int := match (List.range 13).find? (fun v => n == 2 ^ v) with
  | some v => v
  | none => -1
theorem vrs_yes {n v : Nat} (hv : v ≤ 12) (h : n = 2 ^ v) : vrs n = v := by
  unfold vrs
  have e : (List.range 13).find? (fun u => n == 2 ^ u) = some v := by
    rw [List.find?_range_eq_some]
    refine ⟨by simpa using h, by simp; omega, fun j hj => ?_⟩
    have := Nat.pow_lt_pow_right (a := 2) (by omega) hj
    simp
    omega
  rw [e]
theorem vrs_no {n : Nat} (h : ∀ v, v ≤ 12 → n ≠ 2 ^ v) : vrs n = -1 := by
  unfold vrs
  have e : (List.range 13).find? (fun u => n == 2 ^ u) = none := by
    rw [List.find?_eq_none]
    intro u hu
    simp at hu
    simpa using h u (by omega)
  rw [e]
theorem vrs_of {n : Nat} (h : 0 ≤ vrs n) : ∃ v : Nat, v ≤ 12 ∧ n = 2 ^ v ∧ vrs n = v := by
  by_cases e : ∃ v : Nat, v ≤ 12 ∧ n = 2 ^ v
  · obtain ⟨v, h1, h2⟩ := e
    exact ⟨v, h1, h2, vrs_yes h1 h2⟩
  · have := vrs_no (n := n) (fun v hv h2 => e ⟨v, hv, h2⟩)
    omega

/-- how many variables several tables have; -1: they are none -/
def ovr (rows : List (List Int)) : Int := if 1 ≤ rows.length ∧ rows.length ≤ 4 ∧ ∀ k, k < rows.length → (rat rows k).length = (rat rows 0).length then vrs (rat rows 0).length else -1

end Go.Proofs.YtaapbopcfpihbaaDoor
