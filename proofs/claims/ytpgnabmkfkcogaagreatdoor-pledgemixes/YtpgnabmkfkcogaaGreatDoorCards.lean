/-
  DERIVED. GIVEN WITH THE SEED: THE CARDS: each row of YtpgnabmkfkcogaaGreatDoorRows.lean that lists a variable, with what it lists TIED to the program's text (the seventh form; the later family's looks); each row that meets fmt, with fmt's text TOLD by the authors' own Lean function (tested against real Go, not proved from fmt's source: count such statements apart). THE CARD IS WHAT COUNTS. Prove the row's statement (the work); the ties are given (YtpgnabmkfkcogaaGreatDoorTie.lean); close each card by the builder's one call (the guide's Derived/Test/ToyasCard.lean, 'card_holds'). Laid BY PROGRAM, IN A SANDBOX (cutbox-door.mjs). By AI agents, Wed Nov 11 2026. No macro, syntax, notation, axiom, sorry.
-/
import Derived.Test.YtpgnabmkfkcogaaGreatDoorRows
import GoSem.ClaimSeven
namespace Go.Proofs.YtpgnabmkfkcogaaGreatDoor
namespace Rows

/-- THE TIED CARD OF 'attestlaw10.PledgeMixes'. -/
def pledgeMixesCard : Claim7 := { stood := { row := pledgeMixesRow, standIns := [], harness := (true, "1b6eab191825d5dde64b1db0486e66b03505b5f13e382406c4cc22e8f0bb60ef"), looks := true }, kinds := [], alts := [], laidByText := true, laidKinds := [.data, .data, .handle], laidTests := true, laidLooks := .later }
def PledgeMixesCardSaid : Prop := Claim7.holds Tryz.pinned (.plain (OpenSpec.ofChange pledgeMixesSpec)) pledgeMixesCard

/-- THE TIED CARD OF 'attestlaw10.PledgeOpens'. -/
def pledgeOpensCard : Claim7 := { stood := { row := pledgeOpensRow, standIns := [], harness := (true, "1b6eab191825d5dde64b1db0486e66b03505b5f13e382406c4cc22e8f0bb60ef"), looks := true }, kinds := [], alts := [], laidByText := true, laidKinds := [.data, .data, .handle], laidTests := true, laidLooks := .later }
def PledgeOpensCardSaid : Prop := Claim7.holds Tryz.pinned (.plain (OpenSpec.ofChange pledgeOpensSpec)) pledgeOpensCard

/-- THE TIED CARD OF 'attestlaw10.GatesMakes'. -/
def gatesMakesCard : Claim7 := { stood := { row := gatesMakesRow, standIns := [], harness := (true, "1b6eab191825d5dde64b1db0486e66b03505b5f13e382406c4cc22e8f0bb60ef"), looks := true }, kinds := [], alts := [], laidByText := true, laidKinds := [.data, .data, .handle], laidTests := true, laidLooks := .later }
def GatesMakesCardSaid : Prop := Claim7.holds Tryz.pinned (.plain (OpenSpec.ofChange gatesMakesSpec)) gatesMakesCard

/-- THE TIED CARD OF 'attestlaw10.GatesTrue'. -/
def gatesTrueCard : Claim7 := { stood := { row := gatesTrueRow, standIns := [], harness := (true, "1b6eab191825d5dde64b1db0486e66b03505b5f13e382406c4cc22e8f0bb60ef"), looks := true }, kinds := [], alts := [], laidByText := true, laidKinds := [.data, .data, .handle], laidTests := true, laidLooks := .later }
def GatesTrueCardSaid : Prop := Claim7.holds Tryz.pinned (.plain (OpenSpec.ofChange gatesTrueSpec)) gatesTrueCard

/-- THE TIED CARD OF 'attesttop.TopGates'. -/
def topGatesCard : Claim7 := { stood := { row := topGatesRow, standIns := [], harness := (true, "1b6eab191825d5dde64b1db0486e66b03505b5f13e382406c4cc22e8f0bb60ef"), looks := true }, kinds := [], alts := [], laidByText := true, laidKinds := [.data, .data], laidTests := true, laidLooks := .later }
def TopGatesCardSaid : Prop := Claim7.holds Tryz.pinned (.plain (OpenSpec.ofChange topGatesSpec)) topGatesCard

/-- THE SECOND FORM's CARD OF 'attestlaw10.PledgeMixes'. -/
def pledgeMixesUptoCard : Claim7 := { stood := { row := pledgeMixesUptoRow, standIns := [], harness := (true, "1b6eab191825d5dde64b1db0486e66b03505b5f13e382406c4cc22e8f0bb60ef"), looks := true }, kinds := [], alts := [], laidByText := true, laidKinds := [.data, .data, .handle], laidTests := true, laidLooks := .later }
def PledgeMixesUptoCardSaid : Prop := Claim7.holds Tryz.pinned (.plain (OpenSpec.upto pledgeMixesSpec)) pledgeMixesUptoCard

/-- THE SECOND FORM's CARD OF 'attestlaw10.PledgeOpens'. -/
def pledgeOpensUptoCard : Claim7 := { stood := { row := pledgeOpensUptoRow, standIns := [], harness := (true, "1b6eab191825d5dde64b1db0486e66b03505b5f13e382406c4cc22e8f0bb60ef"), looks := true }, kinds := [], alts := [], laidByText := true, laidKinds := [.data, .data, .handle], laidTests := true, laidLooks := .later }
def PledgeOpensUptoCardSaid : Prop := Claim7.holds Tryz.pinned (.plain (OpenSpec.upto pledgeOpensSpec)) pledgeOpensUptoCard

/-- THE SECOND FORM's CARD OF 'attestlaw10.GatesMakes'. -/
def gatesMakesUptoCard : Claim7 := { stood := { row := gatesMakesUptoRow, standIns := [], harness := (true, "1b6eab191825d5dde64b1db0486e66b03505b5f13e382406c4cc22e8f0bb60ef"), looks := true }, kinds := [], alts := [], laidByText := true, laidKinds := [.data, .data, .handle], laidTests := true, laidLooks := .later }
def GatesMakesUptoCardSaid : Prop := Claim7.holds Tryz.pinned (.plain (OpenSpec.upto gatesMakesSpec)) gatesMakesUptoCard

/-- THE SECOND FORM's CARD OF 'attestlaw10.GatesTrue'. -/
def gatesTrueUptoCard : Claim7 := { stood := { row := gatesTrueUptoRow, standIns := [], harness := (true, "1b6eab191825d5dde64b1db0486e66b03505b5f13e382406c4cc22e8f0bb60ef"), looks := true }, kinds := [], alts := [], laidByText := true, laidKinds := [.data, .data, .handle], laidTests := true, laidLooks := .later }
def GatesTrueUptoCardSaid : Prop := Claim7.holds Tryz.pinned (.plain (OpenSpec.upto gatesTrueSpec)) gatesTrueUptoCard

/-- THE SECOND FORM's CARD OF 'attesttop.TopGates'. -/
def topGatesUptoCard : Claim7 := { stood := { row := topGatesUptoRow, standIns := [], harness := (true, "1b6eab191825d5dde64b1db0486e66b03505b5f13e382406c4cc22e8f0bb60ef"), looks := true }, kinds := [], alts := [], laidByText := true, laidKinds := [.data, .data], laidTests := true, laidLooks := .later }
def TopGatesUptoCardSaid : Prop := Claim7.holds Tryz.pinned (.plain (OpenSpec.upto topGatesSpec)) topGatesUptoCard
end Rows
end Go.Proofs.YtpgnabmkfkcogaaGreatDoor
