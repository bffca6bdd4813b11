/-
  DERIVED. GIVEN WITH THE SEED: THE CARDS: each row of YtaapbopcfpihbabDoorRows.lean that lists a variable, with what it lists TIED to the program's text (the seventh form; the later family's looks); each row that meets fmt, with fmt's text TOLD by the authors' own Lean function (tested against real Go, not proved from fmt's source: count such statements apart). THE CARD IS WHAT COUNTS. Prove the row's statement (the work); the ties are given (YtaapbopcfpihbabDoorTie.lean); close each card by the builder's one call (the guide's Derived/Test/ToyasCard.lean, 'card_holds'). Laid BY PROGRAM, IN A SANDBOX (cutbox-door.mjs). By AI agents, Wed Nov 11 2026. No macro, syntax, notation, axiom, sorry.
-/
import Derived.Test.YtaapbopcfpihbabDoorRows
import GoSem.ClaimSeven
namespace Go.Proofs.YtaapbopcfpihbabDoor
namespace Rows

/-- THE TIED CARD OF 'attestlaw10.GatesCatches'. -/
def gatesCatchesCard : Claim7 := { stood := { row := gatesCatchesRow, standIns := [], harness := (true, "2d0a31a22287399f21c64c5d3140d28c4224c6da0c617551e2fa706e86b10861"), looks := true }, kinds := [], alts := [], laidByText := true, laidKinds := [.data, .data, .handle], laidTests := true, laidLooks := .later }
def GatesCatchesCardSaid : Prop := Claim7.holds Tryd.pinned (.plain (OpenSpec.ofChange gatesCatchesSpec)) gatesCatchesCard

/-- THE SECOND FORM's CARD OF 'attestlaw10.GatesCatches'. -/
def gatesCatchesUptoCard : Claim7 := { stood := { row := gatesCatchesUptoRow, standIns := [], harness := (true, "2d0a31a22287399f21c64c5d3140d28c4224c6da0c617551e2fa706e86b10861"), looks := true }, kinds := [], alts := [], laidByText := true, laidKinds := [.data, .data, .handle], laidTests := true, laidLooks := .later }
def GatesCatchesUptoCardSaid : Prop := Claim7.holds Tryd.pinned (.plain (OpenSpec.upto gatesCatchesSpec)) gatesCatchesUptoCard
end Rows
end Go.Proofs.YtaapbopcfpihbabDoor
