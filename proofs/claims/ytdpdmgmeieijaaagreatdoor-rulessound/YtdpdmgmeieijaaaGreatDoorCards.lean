/-
  DERIVED. GIVEN WITH THE SEED: THE CARDS: each row of YtdpdmgmeieijaaaGreatDoorRows.lean that lists a variable, with what it lists TIED to the program's text (the seventh form; the later family's looks); each row that meets fmt, with fmt's text TOLD by the authors' own Lean function (tested against real Go, not proved from fmt's source: count such statements apart). THE CARD IS WHAT COUNTS. Prove the row's statement (the work); the ties are given (YtdpdmgmeieijaaaGreatDoorTie.lean); close each card by the builder's one call (the guide's Derived/Test/ToyasCard.lean, 'card_holds'). Laid BY PROGRAM, IN A SANDBOX (cutbox-door.mjs). By AI agents, Wed Nov 11 2026. No macro, syntax, notation, axiom, sorry.
-/
import Derived.Test.YtdpdmgmeieijaaaGreatDoorRows
import GoSem.ClaimSeven
namespace Go.Proofs.YtdpdmgmeieijaaaGreatDoor
namespace Rows

/-- THE TIED CARD OF 'attestlaw7.RulesSound'. -/
def rulesSoundCard : Claim7 := { stood := { row := rulesSoundRow, standIns := [], harness := (true, "3b1c8d6619ff85faf2b9ddfe6d51712fe7000a481cfca5ad85a52e3874020d77"), looks := true }, kinds := [], alts := [], laidByText := true, laidKinds := [.handle], laidTests := true, laidLooks := .later }
def RulesSoundCardSaid : Prop := Claim7.holds Tryz.pinned (.plain (OpenSpec.ofChange rulesSoundSpec)) rulesSoundCard

/-- THE SECOND FORM's CARD OF 'attestlaw7.RulesSound'. -/
def rulesSoundUptoCard : Claim7 := { stood := { row := rulesSoundUptoRow, standIns := [], harness := (true, "3b1c8d6619ff85faf2b9ddfe6d51712fe7000a481cfca5ad85a52e3874020d77"), looks := true }, kinds := [], alts := [], laidByText := true, laidKinds := [.handle], laidTests := true, laidLooks := .later }
def RulesSoundUptoCardSaid : Prop := Claim7.holds Tryz.pinned (.plain (OpenSpec.upto rulesSoundSpec)) rulesSoundUptoCard
end Rows
end Go.Proofs.YtdpdmgmeieijaaaGreatDoor
