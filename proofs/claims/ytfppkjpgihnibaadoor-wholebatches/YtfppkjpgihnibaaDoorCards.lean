/-
  DERIVED. GIVEN WITH THE SEED: THE CARDS: each row of YtfppkjpgihnibaaDoorRows.lean that lists a variable, with what it lists TIED to the program's text (the seventh form; the later family's looks); each row that meets fmt, with fmt's text TOLD by the authors' own Lean function (tested against real Go, not proved from fmt's source: count such statements apart). THE CARD IS WHAT COUNTS. Prove the row's statement (the work); the ties are given (YtfppkjpgihnibaaDoorTie.lean); close each card by the builder's one call (the guide's Derived/Test/ToyasCard.lean, 'card_holds'). Laid BY PROGRAM, IN A SANDBOX (cutbox-door.mjs). By AI agents, Wed Nov 11 2026. No macro, syntax, notation, axiom, sorry.
-/
import Derived.Test.YtfppkjpgihnibaaDoorRows
import GoSem.ClaimSeven
namespace Go.Proofs.YtfppkjpgihnibaaDoor
namespace Rows

/-- THE TIED CARD OF 'attestlaw8.WholeBatches'. -/
def wholeBatchesCard : Claim7 := { stood := { row := wholeBatchesRow, standIns := [], harness := (true, "c243eea3f30cff4c4f708b01e0aa8a8ab14aad8252cf3d0ad80501d9eb93d5c8"), looks := true }, kinds := [], alts := [], laidByText := true, laidKinds := [.handle], laidTests := true, laidLooks := .later }
def WholeBatchesCardSaid : Prop := Claim7.holds Tryd.pinned (.plain (OpenSpec.ofChange wholeBatchesSpec)) wholeBatchesCard

/-- THE SECOND FORM's CARD OF 'attestlaw8.WholeBatches'. -/
def wholeBatchesUptoCard : Claim7 := { stood := { row := wholeBatchesUptoRow, standIns := [], harness := (true, "c243eea3f30cff4c4f708b01e0aa8a8ab14aad8252cf3d0ad80501d9eb93d5c8"), looks := true }, kinds := [], alts := [], laidByText := true, laidKinds := [.handle], laidTests := true, laidLooks := .later }
def WholeBatchesUptoCardSaid : Prop := Claim7.holds Tryd.pinned (.plain (OpenSpec.upto wholeBatchesSpec)) wholeBatchesUptoCard
end Rows
end Go.Proofs.YtfppkjpgihnibaaDoor
