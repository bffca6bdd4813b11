/-
  DERIVED. GIVEN WITH THE SEED: THE CARDS: each row of YtfijhnojflcajaeDoorRows.lean that lists a variable, with what it lists TIED to the program's text (the seventh form; the later family's looks); each row that meets fmt, with fmt's text TOLD by the authors' own Lean function (tested against real Go, not proved from fmt's source: count such statements apart). THE CARD IS WHAT COUNTS. Prove the row's statement (the work); the ties are given (YtfijhnojflcajaeDoorTie.lean); close each card by the builder's one call (the guide's Derived/Test/ToyasCard.lean, 'card_holds'). Laid BY PROGRAM, IN A SANDBOX (cutbox-door.mjs). By AI agents, Wed Nov 11 2026. No macro, syntax, notation, axiom, sorry.
-/
import Derived.Test.YtfijhnojflcajaeDoorRows
import GoSem.ClaimSeven
namespace Go.Proofs.YtfijhnojflcajaeDoor
namespace Rows

/-- THE TIED CARD OF 'attestlaw3.SpongePads'. -/
def spongePadsCard : Claim7 := { stood := { row := spongePadsRow, standIns := [], harness := (true, "2b2d1409ca1c0ca02a3c22c27f0270463baefa6af6d861a1f591c71c500041ec"), looks := true }, kinds := [], alts := [], laidByText := true, laidKinds := [.handle], laidTests := true, laidLooks := .later }
def SpongePadsCardSaid : Prop := Claim7.holds Tryd.pinned (.plain (OpenSpec.ofChange spongePadsSpec)) spongePadsCard

/-- THE TIED CARD OF 'attestlaw3.SpongeHashes'. -/
def spongeHashesCard : Claim7 := { stood := { row := spongeHashesRow, standIns := [], harness := (true, "2b2d1409ca1c0ca02a3c22c27f0270463baefa6af6d861a1f591c71c500041ec"), looks := true }, kinds := [], alts := [], laidByText := true, laidKinds := [.handle], laidTests := true, laidLooks := .later }
def SpongeHashesCardSaid : Prop := Claim7.holds Tryd.pinned (.plain (OpenSpec.ofChange spongeHashesSpec)) spongeHashesCard

/-- THE TIED CARD OF 'attestlaw3.TreeChecks'. -/
def treeChecksCard : Claim7 := { stood := { row := treeChecksRow, standIns := [], harness := (true, "2b2d1409ca1c0ca02a3c22c27f0270463baefa6af6d861a1f591c71c500041ec"), looks := true }, kinds := [], alts := [], laidByText := true, laidKinds := [.handle], laidTests := true, laidLooks := .later }
def TreeChecksCardSaid : Prop := Claim7.holds Tryd.pinned (.plain (OpenSpec.ofChange treeChecksSpec)) treeChecksCard

/-- THE SECOND FORM's CARD OF 'attestlaw3.SpongePads'. -/
def spongePadsUptoCard : Claim7 := { stood := { row := spongePadsUptoRow, standIns := [], harness := (true, "2b2d1409ca1c0ca02a3c22c27f0270463baefa6af6d861a1f591c71c500041ec"), looks := true }, kinds := [], alts := [], laidByText := true, laidKinds := [.handle], laidTests := true, laidLooks := .later }
def SpongePadsUptoCardSaid : Prop := Claim7.holds Tryd.pinned (.plain (OpenSpec.upto spongePadsSpec)) spongePadsUptoCard

/-- THE SECOND FORM's CARD OF 'attestlaw3.SpongeHashes'. -/
def spongeHashesUptoCard : Claim7 := { stood := { row := spongeHashesUptoRow, standIns := [], harness := (true, "2b2d1409ca1c0ca02a3c22c27f0270463baefa6af6d861a1f591c71c500041ec"), looks := true }, kinds := [], alts := [], laidByText := true, laidKinds := [.handle], laidTests := true, laidLooks := .later }
def SpongeHashesUptoCardSaid : Prop := Claim7.holds Tryd.pinned (.plain (OpenSpec.upto spongeHashesSpec)) spongeHashesUptoCard

/-- THE SECOND FORM's CARD OF 'attestlaw3.TreeChecks'. -/
def treeChecksUptoCard : Claim7 := { stood := { row := treeChecksUptoRow, standIns := [], harness := (true, "2b2d1409ca1c0ca02a3c22c27f0270463baefa6af6d861a1f591c71c500041ec"), looks := true }, kinds := [], alts := [], laidByText := true, laidKinds := [.handle], laidTests := true, laidLooks := .later }
def TreeChecksUptoCardSaid : Prop := Claim7.holds Tryd.pinned (.plain (OpenSpec.upto treeChecksSpec)) treeChecksUptoCard
end Rows
end Go.Proofs.YtfijhnojflcajaeDoor
