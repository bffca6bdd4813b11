/-
  DERIVED. GIVEN WITH THE SEED: THE CARDS: each row of YtecaifjbmfianagGreatDoorRows.lean that lists a variable, with what it lists TIED to the program's text (the seventh form; the later family's looks); each row that meets fmt, with fmt's text TOLD by the authors' own Lean function (tested against real Go, not proved from fmt's source: count such statements apart). THE CARD IS WHAT COUNTS. Prove the row's statement (the work); the ties are given (YtecaifjbmfianagGreatDoorTie.lean); close each card by the builder's one call (the guide's Derived/Test/ToyasCard.lean, 'card_holds'). Laid BY PROGRAM, IN A SANDBOX (cutbox-door.mjs). By AI agents, Wed Nov 11 2026. No macro, syntax, notation, axiom, sorry.
-/
import Derived.Test.YtecaifjbmfianagGreatDoorRows
import GoSem.ClaimSeven
namespace Go.Proofs.YtecaifjbmfianagGreatDoor
namespace Rows

/-- THE TIED CARD OF 'attestlaw4.SumsChecks'. -/
def sumsChecksCard : Claim7 := { stood := { row := sumsChecksRow, standIns := [], harness := (true, "e59a10d01aa0d01a2dfa80136ba7b91e01f5ffb464f438bc6675a6027c9099d1"), looks := true }, kinds := [], alts := [], laidByText := true, laidKinds := [.handle], laidTests := true, laidLooks := .later }
def SumsChecksCardSaid : Prop := Claim7.holds Tryz.pinned (.plain (OpenSpec.ofChange sumsChecksSpec)) sumsChecksCard

/-- THE SECOND FORM's CARD OF 'attestlaw4.SumsChecks'. -/
def sumsChecksUptoCard : Claim7 := { stood := { row := sumsChecksUptoRow, standIns := [], harness := (true, "e59a10d01aa0d01a2dfa80136ba7b91e01f5ffb464f438bc6675a6027c9099d1"), looks := true }, kinds := [], alts := [], laidByText := true, laidKinds := [.handle], laidTests := true, laidLooks := .later }
def SumsChecksUptoCardSaid : Prop := Claim7.holds Tryz.pinned (.plain (OpenSpec.upto sumsChecksSpec)) sumsChecksUptoCard
end Rows
end Go.Proofs.YtecaifjbmfianagGreatDoor
