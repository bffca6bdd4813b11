/-
  DERIVED. GIVEN WITH THE SEED: THE CARDS: each row of YtmmlphdekeflfaaDoorRows.lean that lists a variable, with what it lists TIED to the program's text (the seventh form; the later family's looks); each row that meets fmt, with fmt's text TOLD by the authors' own Lean function (tested against real Go, not proved from fmt's source: count such statements apart). THE CARD IS WHAT COUNTS. Prove the row's statement (the work); the ties are given (YtmmlphdekeflfaaDoorTie.lean); close each card by the builder's one call (the guide's Derived/Test/ToyasCard.lean, 'card_holds'). Laid BY PROGRAM, IN A SANDBOX (cutbox-door.mjs). By AI agents, Wed Nov 11 2026. No macro, syntax, notation, axiom, sorry.
-/
import Derived.Test.YtmmlphdekeflfaaDoorRows
import GoSem.ClaimSeven
namespace Go.Proofs.YtmmlphdekeflfaaDoor
namespace Rows

/-- THE TIED CARD OF 'attestlaw10.PledgeKeeps'. -/
def pledgeKeepsCard : Claim7 := { stood := { row := pledgeKeepsRow, standIns := [], harness := (true, "bfe9f9e4d8b0dccce59ab1e8d475a5fdf626e7daaec36024ed1c85ea6506610e"), looks := true }, kinds := [], alts := [], laidByText := true, laidKinds := [.handle], laidTests := true, laidLooks := .later }
def PledgeKeepsCardSaid : Prop := Claim7.holds Tryd.pinned (.plain (OpenSpec.ofChange pledgeKeepsSpec)) pledgeKeepsCard

/-- THE SECOND FORM's CARD OF 'attestlaw10.PledgeKeeps'. -/
def pledgeKeepsUptoCard : Claim7 := { stood := { row := pledgeKeepsUptoRow, standIns := [], harness := (true, "bfe9f9e4d8b0dccce59ab1e8d475a5fdf626e7daaec36024ed1c85ea6506610e"), looks := true }, kinds := [], alts := [], laidByText := true, laidKinds := [.handle], laidTests := true, laidLooks := .later }
def PledgeKeepsUptoCardSaid : Prop := Claim7.holds Tryd.pinned (.plain (OpenSpec.upto pledgeKeepsSpec)) pledgeKeepsUptoCard
end Rows
end Go.Proofs.YtmmlphdekeflfaaDoor
