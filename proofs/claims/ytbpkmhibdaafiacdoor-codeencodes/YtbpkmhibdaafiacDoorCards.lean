/-
  DERIVED. GIVEN WITH THE SEED: THE CARDS: each row of YtbpkmhibdaafiacDoorRows.lean that lists a variable, with what it lists TIED to the program's text (the seventh form; the later family's looks); each row that meets fmt, with fmt's text TOLD by the authors' own Lean function (tested against real Go, not proved from fmt's source: count such statements apart). THE CARD IS WHAT COUNTS. Prove the row's statement (the work); the ties are given (YtbpkmhibdaafiacDoorTie.lean); close each card by the builder's one call (the guide's Derived/Test/ToyasCard.lean, 'card_holds'). Laid BY PROGRAM, IN A SANDBOX (cutbox-door.mjs). By AI agents, Wed Nov 11 2026. No macro, syntax, notation, axiom, sorry.
-/
import Derived.Test.YtbpkmhibdaafiacDoorRows
import GoSem.ClaimSeven
namespace Go.Proofs.YtbpkmhibdaafiacDoor
namespace Rows

/-- THE TIED CARD OF 'attestlaw2.DomainMakes'. -/
def domainMakesCard : Claim7 := { stood := { row := domainMakesRow, standIns := [], harness := (true, "95d81fa1594b64adc9e15236d1b8885ed7487aa26369f5f053f48de6b9f66a5a"), looks := true }, kinds := [], alts := [], laidByText := true, laidKinds := [.handle], laidTests := true, laidLooks := .later }
def DomainMakesCardSaid : Prop := Claim7.holds Tryd.pinned (.plain (OpenSpec.ofChange domainMakesSpec)) domainMakesCard

/-- THE TIED CARD OF 'attestlaw2.DomainValues'. -/
def domainValuesCard : Claim7 := { stood := { row := domainValuesRow, standIns := [], harness := (true, "95d81fa1594b64adc9e15236d1b8885ed7487aa26369f5f053f48de6b9f66a5a"), looks := true }, kinds := [], alts := [], laidByText := true, laidKinds := [.handle], laidTests := true, laidLooks := .later }
def DomainValuesCardSaid : Prop := Claim7.holds Tryd.pinned (.plain (OpenSpec.ofChange domainValuesSpec)) domainValuesCard

/-- THE TIED CARD OF 'attestlaw2.DomainBack'. -/
def domainBackCard : Claim7 := { stood := { row := domainBackRow, standIns := [], harness := (true, "95d81fa1594b64adc9e15236d1b8885ed7487aa26369f5f053f48de6b9f66a5a"), looks := true }, kinds := [], alts := [], laidByText := true, laidKinds := [.handle], laidTests := true, laidLooks := .later }
def DomainBackCardSaid : Prop := Claim7.holds Tryd.pinned (.plain (OpenSpec.ofChange domainBackSpec)) domainBackCard

/-- THE TIED CARD OF 'attestlaw2.CodeEncodes'. -/
def codeEncodesCard : Claim7 := { stood := { row := codeEncodesRow, standIns := [], harness := (true, "95d81fa1594b64adc9e15236d1b8885ed7487aa26369f5f053f48de6b9f66a5a"), looks := true }, kinds := [], alts := [], laidByText := true, laidKinds := [.handle], laidTests := true, laidLooks := .later }
def CodeEncodesCardSaid : Prop := Claim7.holds Tryd.pinned (.plain (OpenSpec.ofChange codeEncodesSpec)) codeEncodesCard

/-- THE SECOND FORM's CARD OF 'attestlaw2.DomainMakes'. -/
def domainMakesUptoCard : Claim7 := { stood := { row := domainMakesUptoRow, standIns := [], harness := (true, "95d81fa1594b64adc9e15236d1b8885ed7487aa26369f5f053f48de6b9f66a5a"), looks := true }, kinds := [], alts := [], laidByText := true, laidKinds := [.handle], laidTests := true, laidLooks := .later }
def DomainMakesUptoCardSaid : Prop := Claim7.holds Tryd.pinned (.plain (OpenSpec.upto domainMakesSpec)) domainMakesUptoCard

/-- THE SECOND FORM's CARD OF 'attestlaw2.DomainValues'. -/
def domainValuesUptoCard : Claim7 := { stood := { row := domainValuesUptoRow, standIns := [], harness := (true, "95d81fa1594b64adc9e15236d1b8885ed7487aa26369f5f053f48de6b9f66a5a"), looks := true }, kinds := [], alts := [], laidByText := true, laidKinds := [.handle], laidTests := true, laidLooks := .later }
def DomainValuesUptoCardSaid : Prop := Claim7.holds Tryd.pinned (.plain (OpenSpec.upto domainValuesSpec)) domainValuesUptoCard

/-- THE SECOND FORM's CARD OF 'attestlaw2.DomainBack'. -/
def domainBackUptoCard : Claim7 := { stood := { row := domainBackUptoRow, standIns := [], harness := (true, "95d81fa1594b64adc9e15236d1b8885ed7487aa26369f5f053f48de6b9f66a5a"), looks := true }, kinds := [], alts := [], laidByText := true, laidKinds := [.handle], laidTests := true, laidLooks := .later }
def DomainBackUptoCardSaid : Prop := Claim7.holds Tryd.pinned (.plain (OpenSpec.upto domainBackSpec)) domainBackUptoCard

/-- THE SECOND FORM's CARD OF 'attestlaw2.CodeEncodes'. -/
def codeEncodesUptoCard : Claim7 := { stood := { row := codeEncodesUptoRow, standIns := [], harness := (true, "95d81fa1594b64adc9e15236d1b8885ed7487aa26369f5f053f48de6b9f66a5a"), looks := true }, kinds := [], alts := [], laidByText := true, laidKinds := [.handle], laidTests := true, laidLooks := .later }
def CodeEncodesUptoCardSaid : Prop := Claim7.holds Tryd.pinned (.plain (OpenSpec.upto codeEncodesSpec)) codeEncodesUptoCard
end Rows
end Go.Proofs.YtbpkmhibdaafiacDoor
