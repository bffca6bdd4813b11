/-
  DERIVED. GIVEN WITH THE SEED: THE CARDS: each row of YtdcpahiljchehabDoorRows.lean that lists a variable, with what it lists TIED to the program's text (the seventh form; the later family's looks); each row that meets fmt, with fmt's text TOLD by the authors' own Lean function (tested against real Go, not proved from fmt's source: count such statements apart). THE CARD IS WHAT COUNTS. Prove the row's statement (the work); the ties are given (YtdcpahiljchehabDoorTie.lean); close each card by the builder's one call (the guide's Derived/Test/ToyasCard.lean, 'card_holds'). Laid BY PROGRAM, IN A SANDBOX (cutbox-door.mjs). By AI agents, Wed Nov 11 2026. No macro, syntax, notation, axiom, sorry.
-/
import Derived.Test.YtdcpahiljchehabDoorRows
import GoSem.ClaimSeven
namespace Go.Proofs.YtdcpahiljchehabDoor
namespace Rows

/-- THE TIED CARD OF 'attestlaw1.FieldInvs'. -/
def fieldInvsCard : Claim7 := { stood := { row := fieldInvsRow, standIns := [], harness := (true, "6082c909543f2b8865e415655b661c9be3c0c68a62f9a4933951c7881125dd60"), looks := true }, kinds := [], alts := [], laidByText := true, laidKinds := [.handle], laidTests := true, laidLooks := .later }
def FieldInvsCardSaid : Prop := Claim7.holds Tryd.pinned (.plain (OpenSpec.ofChange fieldInvsSpec)) fieldInvsCard

/-- THE SECOND FORM's CARD OF 'attestlaw1.FieldInvs'. -/
def fieldInvsUptoCard : Claim7 := { stood := { row := fieldInvsUptoRow, standIns := [], harness := (true, "6082c909543f2b8865e415655b661c9be3c0c68a62f9a4933951c7881125dd60"), looks := true }, kinds := [], alts := [], laidByText := true, laidKinds := [.handle], laidTests := true, laidLooks := .later }
def FieldInvsUptoCardSaid : Prop := Claim7.holds Tryd.pinned (.plain (OpenSpec.upto fieldInvsSpec)) fieldInvsUptoCard
end Rows
end Go.Proofs.YtdcpahiljchehabDoor
