/- lives gives a field, and the law FieldFermat answers true for every input, its calls by their contracts. What package poly's Degree, Trim, Add, Sub and their helpers answer, for every list: new lists without zeros at their end; nothing that was there has turned. What package poly's Add and Sub answer, for every two lists. What package poly's addTimes and Mul answer. What package poly's Eval and Derive answer, and attestref1's Eval. What package attestref1 answers of polynomials: Degree, All, Trim, At, Plus, Scaled, Minus, Times, for every list. attestsame.Spoil writes to its own list alone; and lists that stay alive while a law goes on. append([]int{}, l...): a list copied, a nil one too. -/
import Derived.Test.YtmmgkdcojkmlcaaGreatDoorFld
import Derived.Test.YtmmgkdcojkmlcaaGreatDoorPlain
import Derived.Deep.OwnRows
import Derived.RegionTactic
import Derived.Deep.RegionWith
import Derived.BigRegion
import Derived.Deep.QuietTactic
import Derived.BigQuiet
import Derived.Laws.AppendOwnNone
namespace Go.Proofs.YtmmgkdcojkmlcaaGreatDoor
open Go.RowKit

end Go.Proofs.YtmmgkdcojkmlcaaGreatDoor

namespace Go.Proofs.YtmmgkdcojkmlcaaGreatDoor
open Go.RowKit

/-- n numbers that can be read, in a block of which P holds -/
def RowF (P : Nat → Prop) (w : World) (a : Option Addr) (n : Nat) (f : Nat → Int) : Prop :=
  ∀ k, k < n → ∃ b o, a = some ⟨b, o, none⟩ ∧ P b ∧ w.cell? ⟨b, o + k, none⟩ = some (.int .i64 (f k))
theorem RowP.f {P : Nat → Prop} {w : World} {a : Option Addr} {zs : List Int} (h : RowP P w a zs) : RowF P w a zs.length (zat zs) := h
theorem RowB.f {n0 : Nat} {w : World} {a : Option Addr} {zs : List Int} (h : RowB n0 w a zs) : RowF (· < n0) w a zs.length (zat zs) := h
theorem Cells.f {g n : Nat} {f : Nat → Int} {w : World} (h : Cells g 0 n f w) : RowF (· = g) w (some ⟨g, 0, none⟩) n f := fun k hk => ⟨g, 0, rfl, rfl, h.cells k hk⟩

end Go.Proofs.YtmmgkdcojkmlcaaGreatDoor

namespace Go.Proofs.YtmmgkdcojkmlcaaGreatDoor
open Go.RowKit

end Go.Proofs.YtmmgkdcojkmlcaaGreatDoor

namespace Go.Proofs.YtmmgkdcojkmlcaaGreatDoor
open Go.RowKit

/-! ## Mul -/
end Go.Proofs.YtmmgkdcojkmlcaaGreatDoor

namespace Go.Proofs.YtmmgkdcojkmlcaaGreatDoor
open Go.RowKit

end Go.Proofs.YtmmgkdcojkmlcaaGreatDoor

namespace Go.Proofs.YtmmgkdcojkmlcaaGreatDoor
open Go.RowKit

theorem heap_lt {w : World} {b : Nat} {v : Value} (hp : w.cell? ⟨b, 0, none⟩ = some v) : b < w.heap.size := by
  rcases Nat.lt_or_ge b w.heap.size with g | g
  · exact g
  · simp [World.cell?, Array.getElem?_eq_none g] at hp

end Go.Proofs.YtmmgkdcojkmlcaaGreatDoor

namespace Go.Proofs.YtmmgkdcojkmlcaaGreatDoor
open Go.RowKit

/-- lists that can be read now -/
def Alive (w : World) (L : List (Option Addr × List Int)) : Prop := ∀ e, e ∈ L → RowB w.heap.size w e.1 e.2
theorem Alive.step {w w' : World} {L : List (Option Addr × List Int)} (h : Alive w L) (hb : Below w.heap.size w w') : Alive w' L := fun e he => (RowB.below hb (h e he)).mono hb.size
theorem Alive.nil (w : World) : Alive w [] := fun e he => by cases he
theorem Alive.cons {w : World} {L : List (Option Addr × List Int)} {a : Option Addr} {zs : List Int} (h : Alive w L) (r : RowB w.heap.size w a zs) : Alive w ((a, zs) :: L) := fun e he => by
  cases he with
  | head => exact r
  | tail _ he => exact h e he
theorem Alive.drewN {w : World} {L : List (Option Addr × List Int)} (h : Alive w L) (n : Nat) : Alive (w.drewN n) L := fun e he k hk => by
  obtain ⟨b, o, h1, h2, h3⟩ := h e he k hk
  exact ⟨b, o, h1, h2, h3⟩
theorem Alive.at {w : World} {L : List (Option Addr × List Int)} (h : Alive w L) (i : Nat) {a : Option Addr} {zs : List Int} (e : L[i]? = some (a, zs)) : RowB w.heap.size w a zs := h _ (List.mem_of_getElem? e)
end Go.Proofs.YtmmgkdcojkmlcaaGreatDoor

namespace Go.Proofs.YtmmgkdcojkmlcaaGreatDoor
open Go.RowKit

end Go.Proofs.YtmmgkdcojkmlcaaGreatDoor
