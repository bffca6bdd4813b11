/-
  DERIVED. GIVEN WITH THE SEED: THE CARDS: each row of YtaapbopcfpihbabGreatDoorRows.lean that lists a variable, with what it lists TIED to the program's text (the seventh form; the later family's looks); each row that meets fmt, with fmt's text TOLD by the authors' own Lean function (tested against real Go, not proved from fmt's source: count such statements apart). THE CARD IS WHAT COUNTS. Prove the row's statement (the work); the ties are given (YtaapbopcfpihbabGreatDoorTie.lean); close each card by the builder's one call (the guide's Derived/Test/ToyasCard.lean, 'card_holds'). Laid BY PROGRAM, IN A SANDBOX (cutbox-door.mjs). By AI agents, Wed Nov 11 2026. No macro, syntax, notation, axiom, sorry.
-/
import Derived.Test.YtaapbopcfpihbabGreatDoorRows
import GoSem.ClaimSeven
namespace Go.Proofs.YtaapbopcfpihbabGreatDoor
namespace Rows

/-- THE TIED CARD OF 'attestlaw10.GatesChecks'. -/
def gatesChecksCard : Claim7 := { stood := { row := gatesChecksRow, standIns := [], harness := (true, "1b5ddf50bf61219dd64fe9fe31c28583e5192c464982bb5342cfe15fdc2498e0"), looks := true }, kinds := [], alts := [], laidByText := true, laidKinds := [.data, .data, .handle], laidTests := true, laidLooks := .later }
def GatesChecksCardSaid : Prop := Claim7.holds Tryz.pinned (.plain (OpenSpec.ofChange gatesChecksSpec)) gatesChecksCard

/-- THE TIED CARD OF 'attestlaw10.GatesTrue'. -/
def gatesTrueCard : Claim7 := { stood := { row := gatesTrueRow, standIns := [], harness := (true, "1b5ddf50bf61219dd64fe9fe31c28583e5192c464982bb5342cfe15fdc2498e0"), looks := true }, kinds := [], alts := [], laidByText := true, laidKinds := [.data, .data, .handle], laidTests := true, laidLooks := .later }
def GatesTrueCardSaid : Prop := Claim7.holds Tryz.pinned (.plain (OpenSpec.ofChange gatesTrueSpec)) gatesTrueCard

/-- THE SECOND FORM's CARD OF 'attestlaw10.GatesChecks'. -/
def gatesChecksUptoCard : Claim7 := { stood := { row := gatesChecksUptoRow, standIns := [], harness := (true, "1b5ddf50bf61219dd64fe9fe31c28583e5192c464982bb5342cfe15fdc2498e0"), looks := true }, kinds := [], alts := [], laidByText := true, laidKinds := [.data, .data, .handle], laidTests := true, laidLooks := .later }
def GatesChecksUptoCardSaid : Prop := Claim7.holds Tryz.pinned (.plain (OpenSpec.upto gatesChecksSpec)) gatesChecksUptoCard

/-- THE SECOND FORM's CARD OF 'attestlaw10.GatesTrue'. -/
def gatesTrueUptoCard : Claim7 := { stood := { row := gatesTrueUptoRow, standIns := [], harness := (true, "1b5ddf50bf61219dd64fe9fe31c28583e5192c464982bb5342cfe15fdc2498e0"), looks := true }, kinds := [], alts := [], laidByText := true, laidKinds := [.data, .data, .handle], laidTests := true, laidLooks := .later }
def GatesTrueUptoCardSaid : Prop := Claim7.holds Tryz.pinned (.plain (OpenSpec.upto gatesTrueSpec)) gatesTrueUptoCard
end Rows
end Go.Proofs.YtaapbopcfpihbabGreatDoor
