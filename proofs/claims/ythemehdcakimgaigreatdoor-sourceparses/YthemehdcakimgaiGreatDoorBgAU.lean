/- Package source: a call. Package source: a value, by what the part is. -/
import Derived.Test.YthemehdcakimgaiGreatDoorBgAT
namespace Go.Proofs.YthemehdcakimgaiGreatDoor
open Go.RowKit

theorem shareS {Good F : Nat → World → Prop} {goal : Prop} (h2 : (∀ G W, Good G W → F G W) → goal) (h1 : ∀ G W, Good G W → F G W) : goal := h2 h1
theorem belD {N : Nat} {w W : World} (h : Below N w W) : Below N w W.drew := ⟨h.os, h.tape, h.output, h.size, h.block⟩

end Go.Proofs.YthemehdcakimgaiGreatDoor

namespace Go.Proofs.YthemehdcakimgaiGreatDoor
open Go.RowKit

end Go.Proofs.YthemehdcakimgaiGreatDoor
