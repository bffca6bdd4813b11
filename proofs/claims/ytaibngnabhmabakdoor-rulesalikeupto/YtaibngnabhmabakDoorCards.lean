/-
  DERIVED. GIVEN WITH THE SEED: THE CARDS: each row of YtaibngnabhmabakDoorRows.lean that lists a variable, with what it lists TIED to the program's text (the seventh form; the later family's looks); each row that meets fmt, with fmt's text TOLD by the authors' own Lean function (tested against real Go, not proved from fmt's source: count such statements apart). THE CARD IS WHAT COUNTS. Prove the row's statement (the work); the ties are given (YtaibngnabhmabakDoorTie.lean); close each card by the builder's one call (the guide's Derived/Test/ToyasCard.lean, 'card_holds'). Laid BY PROGRAM, IN A SANDBOX (cutbox-door.mjs). By AI agents, Wed Nov 11 2026. No macro, syntax, notation, axiom, sorry.
-/
import Derived.Test.YtaibngnabhmabakDoorRows
import GoSem.ClaimSeven
namespace Go.Proofs.YtaibngnabhmabakDoor
namespace Rows

/-- THE TIED CARD OF 'attestlaw7.RulesAlike'. -/
def rulesAlikeCard : Claim7 := { stood := { row := rulesAlikeRow, standIns := [], harness := (true, "28a0d9448e407bd5d0a85e48027b71094673b6dca3ff439922376333000f3be5"), looks := true }, kinds := [], alts := [], laidByText := true, laidKinds := [.handle], laidTests := true, laidLooks := .later }
def RulesAlikeCardSaid : Prop := Claim7.holds Tryd.pinned (.plain (OpenSpec.ofChange rulesAlikeSpec)) rulesAlikeCard

/-- THE TIED CARD OF 'attestlaw7.RulesSame'. -/
def rulesSameCard : Claim7 := { stood := { row := rulesSameRow, standIns := [], harness := (true, "28a0d9448e407bd5d0a85e48027b71094673b6dca3ff439922376333000f3be5"), looks := true }, kinds := [], alts := [], laidByText := true, laidKinds := [.handle], laidTests := true, laidLooks := .later }
def RulesSameCardSaid : Prop := Claim7.holds Tryd.pinned (.plain (OpenSpec.ofChange rulesSameSpec)) rulesSameCard

/-- THE SECOND FORM's CARD OF 'attestlaw7.RulesAlike'. -/
def rulesAlikeUptoCard : Claim7 := { stood := { row := rulesAlikeUptoRow, standIns := [], harness := (true, "28a0d9448e407bd5d0a85e48027b71094673b6dca3ff439922376333000f3be5"), looks := true }, kinds := [], alts := [], laidByText := true, laidKinds := [.handle], laidTests := true, laidLooks := .later }
def RulesAlikeUptoCardSaid : Prop := Claim7.holds Tryd.pinned (.plain (OpenSpec.upto rulesAlikeSpec)) rulesAlikeUptoCard

/-- THE SECOND FORM's CARD OF 'attestlaw7.RulesSame'. -/
def rulesSameUptoCard : Claim7 := { stood := { row := rulesSameUptoRow, standIns := [], harness := (true, "28a0d9448e407bd5d0a85e48027b71094673b6dca3ff439922376333000f3be5"), looks := true }, kinds := [], alts := [], laidByText := true, laidKinds := [.handle], laidTests := true, laidLooks := .later }
def RulesSameUptoCardSaid : Prop := Claim7.holds Tryd.pinned (.plain (OpenSpec.upto rulesSameSpec)) rulesSameUptoCard
end Rows
end Go.Proofs.YtaibngnabhmabakDoor
