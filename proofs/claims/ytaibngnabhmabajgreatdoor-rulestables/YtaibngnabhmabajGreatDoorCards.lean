/-
  DERIVED. GIVEN WITH THE SEED: THE CARDS: each row of YtaibngnabhmabajGreatDoorRows.lean that lists a variable, with what it lists TIED to the program's text (the seventh form; the later family's looks); each row that meets fmt, with fmt's text TOLD by the authors' own Lean function (tested against real Go, not proved from fmt's source: count such statements apart). THE CARD IS WHAT COUNTS. Prove the row's statement (the work); the ties are given (YtaibngnabhmabajGreatDoorTie.lean); close each card by the builder's one call (the guide's Derived/Test/ToyasCard.lean, 'card_holds'). Laid BY PROGRAM, IN A SANDBOX (cutbox-door.mjs). By AI agents, Wed Nov 11 2026. No macro, syntax, notation, axiom, sorry.
-/
import Derived.Test.YtaibngnabhmabajGreatDoorRows
import GoSem.ClaimSeven
namespace Go.Proofs.YtaibngnabhmabajGreatDoor
namespace Rows

/-- THE TIED CARD OF 'attestlaw6.SourceEvals'. -/
def sourceEvalsCard : Claim7 := { stood := { row := sourceEvalsRow, standIns := [], harness := (true, "f53b232727f7c057c76d3b5ab26cd0377d8e0fa033a7d1925852b10adf9c9dd1"), looks := true }, kinds := [], alts := [], laidByText := true, laidKinds := [.data, .data, .data, .handle, .sentinel, .sentinel], laidTests := true, laidLooks := .later }
def SourceEvalsCardSaid : Prop := Claim7.holds Tryz.pinned (.plain (OpenSpec.ofChange sourceEvalsSpec)) sourceEvalsCard

/-- THE TIED CARD OF 'attestlaw6.SourceFuel'. -/
def sourceFuelCard : Claim7 := { stood := { row := sourceFuelRow, standIns := [], harness := (true, "f53b232727f7c057c76d3b5ab26cd0377d8e0fa033a7d1925852b10adf9c9dd1"), looks := true }, kinds := [], alts := [], laidByText := true, laidKinds := [.data, .data, .data, .handle, .sentinel, .sentinel], laidTests := true, laidLooks := .later }
def SourceFuelCardSaid : Prop := Claim7.holds Tryz.pinned (.plain (OpenSpec.ofChange sourceFuelSpec)) sourceFuelCard

/-- THE TIED CARD OF 'attestlaw6.LowerFirst'. -/
def lowerFirstCard : Claim7 := { stood := { row := lowerFirstRow, standIns := [], harness := (true, "f53b232727f7c057c76d3b5ab26cd0377d8e0fa033a7d1925852b10adf9c9dd1"), looks := true }, kinds := [], alts := [], laidByText := true, laidKinds := [.data, .data, .data, .handle, .sentinel, .sentinel], laidTests := true, laidLooks := .later }
def LowerFirstCardSaid : Prop := Claim7.holds Tryz.pinned (.plain (OpenSpec.ofChange lowerFirstSpec)) lowerFirstCard

/-- THE TIED CARD OF 'attestlaw6.LowerRuns'. -/
def lowerRunsCard : Claim7 := { stood := { row := lowerRunsRow, standIns := [], harness := (true, "f53b232727f7c057c76d3b5ab26cd0377d8e0fa033a7d1925852b10adf9c9dd1"), looks := true }, kinds := [], alts := [], laidByText := true, laidKinds := [.data, .data, .data, .handle, .sentinel, .sentinel], laidTests := true, laidLooks := .later }
def LowerRunsCardSaid : Prop := Claim7.holds Tryz.pinned (.plain (OpenSpec.ofChange lowerRunsSpec)) lowerRunsCard

/-- THE TIED CARD OF 'attestlaw7.RulesTables'. -/
def rulesTablesCard : Claim7 := { stood := { row := rulesTablesRow, standIns := [], harness := (true, "f53b232727f7c057c76d3b5ab26cd0377d8e0fa033a7d1925852b10adf9c9dd1"), looks := true }, kinds := [], alts := [], laidByText := true, laidKinds := [.handle], laidTests := true, laidLooks := .later }
def RulesTablesCardSaid : Prop := Claim7.holds Tryz.pinned (.plain (OpenSpec.ofChange rulesTablesSpec)) rulesTablesCard

/-- THE SECOND FORM's CARD OF 'attestlaw6.SourceEvals'. -/
def sourceEvalsUptoCard : Claim7 := { stood := { row := sourceEvalsUptoRow, standIns := [], harness := (true, "f53b232727f7c057c76d3b5ab26cd0377d8e0fa033a7d1925852b10adf9c9dd1"), looks := true }, kinds := [], alts := [], laidByText := true, laidKinds := [.data, .data, .data, .handle, .sentinel, .sentinel], laidTests := true, laidLooks := .later }
def SourceEvalsUptoCardSaid : Prop := Claim7.holds Tryz.pinned (.plain (OpenSpec.upto sourceEvalsSpec)) sourceEvalsUptoCard

/-- THE SECOND FORM's CARD OF 'attestlaw6.SourceFuel'. -/
def sourceFuelUptoCard : Claim7 := { stood := { row := sourceFuelUptoRow, standIns := [], harness := (true, "f53b232727f7c057c76d3b5ab26cd0377d8e0fa033a7d1925852b10adf9c9dd1"), looks := true }, kinds := [], alts := [], laidByText := true, laidKinds := [.data, .data, .data, .handle, .sentinel, .sentinel], laidTests := true, laidLooks := .later }
def SourceFuelUptoCardSaid : Prop := Claim7.holds Tryz.pinned (.plain (OpenSpec.upto sourceFuelSpec)) sourceFuelUptoCard

/-- THE SECOND FORM's CARD OF 'attestlaw6.LowerFirst'. -/
def lowerFirstUptoCard : Claim7 := { stood := { row := lowerFirstUptoRow, standIns := [], harness := (true, "f53b232727f7c057c76d3b5ab26cd0377d8e0fa033a7d1925852b10adf9c9dd1"), looks := true }, kinds := [], alts := [], laidByText := true, laidKinds := [.data, .data, .data, .handle, .sentinel, .sentinel], laidTests := true, laidLooks := .later }
def LowerFirstUptoCardSaid : Prop := Claim7.holds Tryz.pinned (.plain (OpenSpec.upto lowerFirstSpec)) lowerFirstUptoCard

/-- THE SECOND FORM's CARD OF 'attestlaw6.LowerRuns'. -/
def lowerRunsUptoCard : Claim7 := { stood := { row := lowerRunsUptoRow, standIns := [], harness := (true, "f53b232727f7c057c76d3b5ab26cd0377d8e0fa033a7d1925852b10adf9c9dd1"), looks := true }, kinds := [], alts := [], laidByText := true, laidKinds := [.data, .data, .data, .handle, .sentinel, .sentinel], laidTests := true, laidLooks := .later }
def LowerRunsUptoCardSaid : Prop := Claim7.holds Tryz.pinned (.plain (OpenSpec.upto lowerRunsSpec)) lowerRunsUptoCard

/-- THE SECOND FORM's CARD OF 'attestlaw7.RulesTables'. -/
def rulesTablesUptoCard : Claim7 := { stood := { row := rulesTablesUptoRow, standIns := [], harness := (true, "f53b232727f7c057c76d3b5ab26cd0377d8e0fa033a7d1925852b10adf9c9dd1"), looks := true }, kinds := [], alts := [], laidByText := true, laidKinds := [.handle], laidTests := true, laidLooks := .later }
def RulesTablesUptoCardSaid : Prop := Claim7.holds Tryz.pinned (.plain (OpenSpec.upto rulesTablesSpec)) rulesTablesUptoCard
end Rows
end Go.Proofs.YtaibngnabhmabajGreatDoor
