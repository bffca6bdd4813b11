/-
  DERIVED. GIVEN WITH THE SEED: THE CARDS: each row of YtfijhnojflcajadDoorRows.lean that lists a variable, with what it lists TIED to the program's text (the seventh form; the later family's looks); each row that meets fmt, with fmt's text TOLD by the authors' own Lean function (tested against real Go, not proved from fmt's source: count such statements apart). THE CARD IS WHAT COUNTS. Prove the row's statement (the work); the ties are given (YtfijhnojflcajadDoorTie.lean); close each card by the builder's one call (the guide's Derived/Test/ToyasCard.lean, 'card_holds'). Laid BY PROGRAM, IN A SANDBOX (cutbox-door.mjs). By AI agents, Wed Nov 11 2026. No macro, syntax, notation, axiom, sorry.
-/
import Derived.Test.YtfijhnojflcajadDoorRows
import GoSem.ClaimSeven
namespace Go.Proofs.YtfijhnojflcajadDoor
namespace Rows

/-- THE TIED CARD OF 'attestlaw2.CodeCounts'. -/
def codeCountsCard : Claim7 := { stood := { row := codeCountsRow, standIns := [], harness := (true, "dcab44a054f1825240a28f4bc4a8e6668d371ba14b154664d7a0d2930552e074"), looks := true }, kinds := [], alts := [], laidByText := true, laidKinds := [.handle], laidTests := true, laidLooks := .later }
def CodeCountsCardSaid : Prop := Claim7.holds Tryd.pinned (.plain (OpenSpec.ofChange codeCountsSpec)) codeCountsCard

/-- THE TIED CARD OF 'attestlaw2.CodeMends'. -/
def codeMendsCard : Claim7 := { stood := { row := codeMendsRow, standIns := [], harness := (true, "dcab44a054f1825240a28f4bc4a8e6668d371ba14b154664d7a0d2930552e074"), looks := true }, kinds := [], alts := [], laidByText := true, laidKinds := [.handle], laidTests := true, laidLooks := .later }
def CodeMendsCardSaid : Prop := Claim7.holds Tryd.pinned (.plain (OpenSpec.ofChange codeMendsSpec)) codeMendsCard

/-- THE TIED CARD OF 'attestlaw2.CodeDecodes'. -/
def codeDecodesCard : Claim7 := { stood := { row := codeDecodesRow, standIns := [], harness := (true, "dcab44a054f1825240a28f4bc4a8e6668d371ba14b154664d7a0d2930552e074"), looks := true }, kinds := [], alts := [], laidByText := true, laidKinds := [.handle], laidTests := true, laidLooks := .later }
def CodeDecodesCardSaid : Prop := Claim7.holds Tryd.pinned (.plain (OpenSpec.ofChange codeDecodesSpec)) codeDecodesCard

/-- THE TIED CARD OF 'attestlaw3.SpongeMakes'. -/
def spongeMakesCard : Claim7 := { stood := { row := spongeMakesRow, standIns := [], harness := (true, "dcab44a054f1825240a28f4bc4a8e6668d371ba14b154664d7a0d2930552e074"), looks := true }, kinds := [], alts := [], laidByText := true, laidKinds := [.handle], laidTests := true, laidLooks := .later }
def SpongeMakesCardSaid : Prop := Claim7.holds Tryd.pinned (.plain (OpenSpec.ofChange spongeMakesSpec)) spongeMakesCard

/-- THE TIED CARD OF 'attestlaw3.SpongeStirs'. -/
def spongeStirsCard : Claim7 := { stood := { row := spongeStirsRow, standIns := [], harness := (true, "dcab44a054f1825240a28f4bc4a8e6668d371ba14b154664d7a0d2930552e074"), looks := true }, kinds := [], alts := [], laidByText := true, laidKinds := [.handle], laidTests := true, laidLooks := .later }
def SpongeStirsCardSaid : Prop := Claim7.holds Tryd.pinned (.plain (OpenSpec.ofChange spongeStirsSpec)) spongeStirsCard

/-- THE SECOND FORM's CARD OF 'attestlaw2.CodeCounts'. -/
def codeCountsUptoCard : Claim7 := { stood := { row := codeCountsUptoRow, standIns := [], harness := (true, "dcab44a054f1825240a28f4bc4a8e6668d371ba14b154664d7a0d2930552e074"), looks := true }, kinds := [], alts := [], laidByText := true, laidKinds := [.handle], laidTests := true, laidLooks := .later }
def CodeCountsUptoCardSaid : Prop := Claim7.holds Tryd.pinned (.plain (OpenSpec.upto codeCountsSpec)) codeCountsUptoCard

/-- THE SECOND FORM's CARD OF 'attestlaw2.CodeMends'. -/
def codeMendsUptoCard : Claim7 := { stood := { row := codeMendsUptoRow, standIns := [], harness := (true, "dcab44a054f1825240a28f4bc4a8e6668d371ba14b154664d7a0d2930552e074"), looks := true }, kinds := [], alts := [], laidByText := true, laidKinds := [.handle], laidTests := true, laidLooks := .later }
def CodeMendsUptoCardSaid : Prop := Claim7.holds Tryd.pinned (.plain (OpenSpec.upto codeMendsSpec)) codeMendsUptoCard

/-- THE SECOND FORM's CARD OF 'attestlaw2.CodeDecodes'. -/
def codeDecodesUptoCard : Claim7 := { stood := { row := codeDecodesUptoRow, standIns := [], harness := (true, "dcab44a054f1825240a28f4bc4a8e6668d371ba14b154664d7a0d2930552e074"), looks := true }, kinds := [], alts := [], laidByText := true, laidKinds := [.handle], laidTests := true, laidLooks := .later }
def CodeDecodesUptoCardSaid : Prop := Claim7.holds Tryd.pinned (.plain (OpenSpec.upto codeDecodesSpec)) codeDecodesUptoCard

/-- THE SECOND FORM's CARD OF 'attestlaw3.SpongeMakes'. -/
def spongeMakesUptoCard : Claim7 := { stood := { row := spongeMakesUptoRow, standIns := [], harness := (true, "dcab44a054f1825240a28f4bc4a8e6668d371ba14b154664d7a0d2930552e074"), looks := true }, kinds := [], alts := [], laidByText := true, laidKinds := [.handle], laidTests := true, laidLooks := .later }
def SpongeMakesUptoCardSaid : Prop := Claim7.holds Tryd.pinned (.plain (OpenSpec.upto spongeMakesSpec)) spongeMakesUptoCard

/-- THE SECOND FORM's CARD OF 'attestlaw3.SpongeStirs'. -/
def spongeStirsUptoCard : Claim7 := { stood := { row := spongeStirsUptoRow, standIns := [], harness := (true, "dcab44a054f1825240a28f4bc4a8e6668d371ba14b154664d7a0d2930552e074"), looks := true }, kinds := [], alts := [], laidByText := true, laidKinds := [.handle], laidTests := true, laidLooks := .later }
def SpongeStirsUptoCardSaid : Prop := Claim7.holds Tryd.pinned (.plain (OpenSpec.upto spongeStirsSpec)) spongeStirsUptoCard
end Rows
end Go.Proofs.YtfijhnojflcajadDoor
