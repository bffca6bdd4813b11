/-
  DERIVED. GIVEN WITH THE SEED: THE CARDS: each row of YtjlngcmkgkiplaaGreatDoorRows.lean that lists a variable, with what it lists TIED to the program's text (the seventh form; the later family's looks); each row that meets fmt, with fmt's text TOLD by the authors' own Lean function (tested against real Go, not proved from fmt's source: count such statements apart). THE CARD IS WHAT COUNTS. Prove the row's statement (the work); the ties are given (YtjlngcmkgkiplaaGreatDoorTie.lean); close each card by the builder's one call (the guide's Derived/Test/ToyasCard.lean, 'card_holds'). Laid BY PROGRAM, IN A SANDBOX (cutbox-door.mjs). By AI agents, Wed Nov 11 2026. No macro, syntax, notation, axiom, sorry.
-/
import Derived.Test.YtjlngcmkgkiplaaGreatDoorRows
import GoSem.ClaimSeven
namespace Go.Proofs.YtjlngcmkgkiplaaGreatDoor
namespace Rows

/-- THE TIED CARD OF 'attestlaw8.WholeComposes'. -/
def wholeComposesCard : Claim7 := { stood := { row := wholeComposesRow, standIns := [], harness := (true, "652f7530149e1a6b4111ba080b10773a63b1e057524848fa1e0686a2bf7273a7"), looks := true }, kinds := [], alts := [], laidByText := true, laidKinds := [.handle], laidTests := true, laidLooks := .later }
def WholeComposesCardSaid : Prop := Claim7.holds Tryz.pinned (.plain (OpenSpec.ofChange wholeComposesSpec)) wholeComposesCard

/-- THE SECOND FORM's CARD OF 'attestlaw8.WholeComposes'. -/
def wholeComposesUptoCard : Claim7 := { stood := { row := wholeComposesUptoRow, standIns := [], harness := (true, "652f7530149e1a6b4111ba080b10773a63b1e057524848fa1e0686a2bf7273a7"), looks := true }, kinds := [], alts := [], laidByText := true, laidKinds := [.handle], laidTests := true, laidLooks := .later }
def WholeComposesUptoCardSaid : Prop := Claim7.holds Tryz.pinned (.plain (OpenSpec.upto wholeComposesSpec)) wholeComposesUptoCard
end Rows
end Go.Proofs.YtjlngcmkgkiplaaGreatDoor
