/-
  DERIVED. GIVEN WITH THE SEED: THE CARDS: each row of YtmmgkdcojkmlcaaGreatDoorRows.lean that lists a variable, with what it lists TIED to the program's text (the seventh form; the later family's looks); each row that meets fmt, with fmt's text TOLD by the authors' own Lean function (tested against real Go, not proved from fmt's source: count such statements apart). THE CARD IS WHAT COUNTS. Prove the row's statement (the work); the ties are given (YtmmgkdcojkmlcaaGreatDoorTie.lean); close each card by the builder's one call (the guide's Derived/Test/ToyasCard.lean, 'card_holds'). Laid BY PROGRAM, IN A SANDBOX (cutbox-door.mjs). By AI agents, Wed Nov 11 2026. No macro, syntax, notation, axiom, sorry.
-/
import Derived.Test.YtmmgkdcojkmlcaaGreatDoorRows
import GoSem.ClaimSeven
namespace Go.Proofs.YtmmgkdcojkmlcaaGreatDoor
namespace Rows

/-- THE TIED CARD OF 'attestlaw6.LowerFirst'. -/
def lowerFirstCard : Claim7 := { stood := { row := lowerFirstRow, standIns := [], harness := (true, "28e0d50ebe409eaced350f17ee4a67cae65988f18dff81ca0b5acb51151fba2b"), looks := true }, kinds := [], alts := [], laidByText := true, laidKinds := [.data, .data, .data, .handle, .sentinel, .sentinel], laidTests := true, laidLooks := .later }
def LowerFirstCardSaid : Prop := Claim7.holds Tryz.pinned (.plain (OpenSpec.ofChange lowerFirstSpec)) lowerFirstCard

/-- THE SECOND FORM's CARD OF 'attestlaw6.LowerFirst'. -/
def lowerFirstUptoCard : Claim7 := { stood := { row := lowerFirstUptoRow, standIns := [], harness := (true, "28e0d50ebe409eaced350f17ee4a67cae65988f18dff81ca0b5acb51151fba2b"), looks := true }, kinds := [], alts := [], laidByText := true, laidKinds := [.data, .data, .data, .handle, .sentinel, .sentinel], laidTests := true, laidLooks := .later }
def LowerFirstUptoCardSaid : Prop := Claim7.holds Tryz.pinned (.plain (OpenSpec.upto lowerFirstSpec)) lowerFirstUptoCard
end Rows
end Go.Proofs.YtmmgkdcojkmlcaaGreatDoor
