/-
  DERIVED. GIVEN WITH THE SEED: THE CARDS: each row of YtkdndfbfmchcpaaGreatDoorRows.lean that lists a variable, with what it lists TIED to the program's text (the seventh form; the later family's looks); each row that meets fmt, with fmt's text TOLD by the authors' own Lean function (tested against real Go, not proved from fmt's source: count such statements apart). THE CARD IS WHAT COUNTS. Prove the row's statement (the work); the ties are given (YtkdndfbfmchcpaaGreatDoorTie.lean); close each card by the builder's one call (the guide's Derived/Test/ToyasCard.lean, 'card_holds'). Laid BY PROGRAM, IN A SANDBOX (cutbox-door.mjs). By AI agents, Wed Nov 11 2026. No macro, syntax, notation, axiom, sorry.
-/
import Derived.Test.YtkdndfbfmchcpaaGreatDoorRows
import GoSem.ClaimSeven
namespace Go.Proofs.YtkdndfbfmchcpaaGreatDoor
namespace Rows

/-- THE TIED CARD OF 'attesttop.TopGates'. -/
def topGatesCard : Claim7 := { stood := { row := topGatesRow, standIns := [], harness := (true, "c7481c590dc8f79951fd416698f97da8b6306eb24d60a6cd9f9f5a039bed1301"), looks := false }, kinds := [], alts := [], laidByText := true, laidKinds := [.data, .data], laidTests := true, laidLooks := .later }
def TopGatesCardSaid : Prop := Claim7.holds Tryz.pinned (.plain (OpenSpec.ofChange topGatesSpec)) topGatesCard

/-- THE SECOND FORM's CARD OF 'attesttop.TopGates'. -/
def topGatesUptoCard : Claim7 := { stood := { row := topGatesUptoRow, standIns := [], harness := (true, "c7481c590dc8f79951fd416698f97da8b6306eb24d60a6cd9f9f5a039bed1301"), looks := false }, kinds := [], alts := [], laidByText := true, laidKinds := [.data, .data], laidTests := true, laidLooks := .later }
def TopGatesUptoCardSaid : Prop := Claim7.holds Tryz.pinned (.plain (OpenSpec.upto topGatesSpec)) topGatesUptoCard
end Rows
end Go.Proofs.YtkdndfbfmchcpaaGreatDoor
