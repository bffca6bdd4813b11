/-
  DERIVED. GIVEN WITH THE SEED: THE CARDS: each row of YtaibngnabhmabajDoorRows.lean that lists a variable, with what it lists TIED to the program's text (the seventh form; the later family's looks); each row that meets fmt, with fmt's text TOLD by the authors' own Lean function (tested against real Go, not proved from fmt's source: count such statements apart). THE CARD IS WHAT COUNTS. Prove the row's statement (the work); the ties are given (YtaibngnabhmabajDoorTie.lean); close each card by the builder's one call (the guide's Derived/Test/ToyasCard.lean, 'card_holds'). Laid BY PROGRAM, IN A SANDBOX (cutbox-door.mjs). By AI agents, Wed Nov 11 2026. No macro, syntax, notation, axiom, sorry.
-/
import Derived.Test.YtaibngnabhmabajDoorRows
import GoSem.ClaimSeven
namespace Go.Proofs.YtaibngnabhmabajDoor
namespace Rows

/-- THE TIED CARD OF 'attestlaw7.RulesBroken'. -/
def rulesBrokenCard : Claim7 := { stood := { row := rulesBrokenRow, standIns := [], harness := (true, "b8f67c7f761139da0acf9a04e3194576e27735dcbdae9341d8eec40621ac4a7c"), looks := true }, kinds := [], alts := [], laidByText := true, laidKinds := [.handle], laidTests := true, laidLooks := .later }
def RulesBrokenCardSaid : Prop := Claim7.holds Tryd.pinned (.plain (OpenSpec.ofChange rulesBrokenSpec)) rulesBrokenCard

/-- THE SECOND FORM's CARD OF 'attestlaw7.RulesBroken'. -/
def rulesBrokenUptoCard : Claim7 := { stood := { row := rulesBrokenUptoRow, standIns := [], harness := (true, "b8f67c7f761139da0acf9a04e3194576e27735dcbdae9341d8eec40621ac4a7c"), looks := true }, kinds := [], alts := [], laidByText := true, laidKinds := [.handle], laidTests := true, laidLooks := .later }
def RulesBrokenUptoCardSaid : Prop := Claim7.holds Tryd.pinned (.plain (OpenSpec.upto rulesBrokenSpec)) rulesBrokenUptoCard
end Rows
end Go.Proofs.YtaibngnabhmabajDoor
