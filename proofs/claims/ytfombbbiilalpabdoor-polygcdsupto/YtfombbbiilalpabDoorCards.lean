/-
  DERIVED. GIVEN WITH THE SEED: THE CARDS: each row of YtfombbbiilalpabDoorRows.lean that lists a variable, with what it lists TIED to the program's text (the seventh form; the later family's looks); each row that meets fmt, with fmt's text TOLD by the authors' own Lean function (tested against real Go, not proved from fmt's source: count such statements apart). THE CARD IS WHAT COUNTS. Prove the row's statement (the work); the ties are given (YtfombbbiilalpabDoorTie.lean); close each card by the builder's one call (the guide's Derived/Test/ToyasCard.lean, 'card_holds'). Laid BY PROGRAM, IN A SANDBOX (cutbox-door.mjs). By AI agents, Wed Nov 11 2026. No macro, syntax, notation, axiom, sorry.
-/
import Derived.Test.YtfombbbiilalpabDoorRows
import GoSem.ClaimSeven
namespace Go.Proofs.YtfombbbiilalpabDoor
namespace Rows

/-- THE TIED CARD OF 'attestlaw1.FieldInvs'. -/
def fieldInvsCard : Claim7 := { stood := { row := fieldInvsRow, standIns := [], harness := (true, "b6dadd2a04ec612d792be22bed2bb4ef4f6b0acc067c9b94751ba4e524edd7f3"), looks := true }, kinds := [], alts := [], laidByText := true, laidKinds := [.handle], laidTests := true, laidLooks := .later }
def FieldInvsCardSaid : Prop := Claim7.holds Tryd.pinned (.plain (OpenSpec.ofChange fieldInvsSpec)) fieldInvsCard

/-- THE TIED CARD OF 'attestlaw1.PolyAdds'. -/
def polyAddsCard : Claim7 := { stood := { row := polyAddsRow, standIns := [], harness := (true, "b6dadd2a04ec612d792be22bed2bb4ef4f6b0acc067c9b94751ba4e524edd7f3"), looks := true }, kinds := [], alts := [], laidByText := true, laidKinds := [.handle], laidTests := true, laidLooks := .later }
def PolyAddsCardSaid : Prop := Claim7.holds Tryd.pinned (.plain (OpenSpec.ofChange polyAddsSpec)) polyAddsCard

/-- THE TIED CARD OF 'attestlaw1.PolyDivides'. -/
def polyDividesCard : Claim7 := { stood := { row := polyDividesRow, standIns := [], harness := (true, "b6dadd2a04ec612d792be22bed2bb4ef4f6b0acc067c9b94751ba4e524edd7f3"), looks := true }, kinds := [], alts := [], laidByText := true, laidKinds := [.handle], laidTests := true, laidLooks := .later }
def PolyDividesCardSaid : Prop := Claim7.holds Tryd.pinned (.plain (OpenSpec.ofChange polyDividesSpec)) polyDividesCard

/-- THE TIED CARD OF 'attestlaw1.PolyEvals'. -/
def polyEvalsCard : Claim7 := { stood := { row := polyEvalsRow, standIns := [], harness := (true, "b6dadd2a04ec612d792be22bed2bb4ef4f6b0acc067c9b94751ba4e524edd7f3"), looks := true }, kinds := [], alts := [], laidByText := true, laidKinds := [.handle], laidTests := true, laidLooks := .later }
def PolyEvalsCardSaid : Prop := Claim7.holds Tryd.pinned (.plain (OpenSpec.ofChange polyEvalsSpec)) polyEvalsCard

/-- THE TIED CARD OF 'attestlaw1.PolyGcds'. -/
def polyGcdsCard : Claim7 := { stood := { row := polyGcdsRow, standIns := [], harness := (true, "b6dadd2a04ec612d792be22bed2bb4ef4f6b0acc067c9b94751ba4e524edd7f3"), looks := true }, kinds := [], alts := [], laidByText := true, laidKinds := [.handle], laidTests := true, laidLooks := .later }
def PolyGcdsCardSaid : Prop := Claim7.holds Tryd.pinned (.plain (OpenSpec.ofChange polyGcdsSpec)) polyGcdsCard

/-- THE TIED CARD OF 'attestlaw1.PolyFits'. -/
def polyFitsCard : Claim7 := { stood := { row := polyFitsRow, standIns := [], harness := (true, "b6dadd2a04ec612d792be22bed2bb4ef4f6b0acc067c9b94751ba4e524edd7f3"), looks := true }, kinds := [], alts := [], laidByText := true, laidKinds := [.handle], laidTests := true, laidLooks := .later }
def PolyFitsCardSaid : Prop := Claim7.holds Tryd.pinned (.plain (OpenSpec.ofChange polyFitsSpec)) polyFitsCard

/-- THE SECOND FORM's CARD OF 'attestlaw1.FieldInvs'. -/
def fieldInvsUptoCard : Claim7 := { stood := { row := fieldInvsUptoRow, standIns := [], harness := (true, "b6dadd2a04ec612d792be22bed2bb4ef4f6b0acc067c9b94751ba4e524edd7f3"), looks := true }, kinds := [], alts := [], laidByText := true, laidKinds := [.handle], laidTests := true, laidLooks := .later }
def FieldInvsUptoCardSaid : Prop := Claim7.holds Tryd.pinned (.plain (OpenSpec.upto fieldInvsSpec)) fieldInvsUptoCard

/-- THE SECOND FORM's CARD OF 'attestlaw1.PolyAdds'. -/
def polyAddsUptoCard : Claim7 := { stood := { row := polyAddsUptoRow, standIns := [], harness := (true, "b6dadd2a04ec612d792be22bed2bb4ef4f6b0acc067c9b94751ba4e524edd7f3"), looks := true }, kinds := [], alts := [], laidByText := true, laidKinds := [.handle], laidTests := true, laidLooks := .later }
def PolyAddsUptoCardSaid : Prop := Claim7.holds Tryd.pinned (.plain (OpenSpec.upto polyAddsSpec)) polyAddsUptoCard

/-- THE SECOND FORM's CARD OF 'attestlaw1.PolyDivides'. -/
def polyDividesUptoCard : Claim7 := { stood := { row := polyDividesUptoRow, standIns := [], harness := (true, "b6dadd2a04ec612d792be22bed2bb4ef4f6b0acc067c9b94751ba4e524edd7f3"), looks := true }, kinds := [], alts := [], laidByText := true, laidKinds := [.handle], laidTests := true, laidLooks := .later }
def PolyDividesUptoCardSaid : Prop := Claim7.holds Tryd.pinned (.plain (OpenSpec.upto polyDividesSpec)) polyDividesUptoCard

/-- THE SECOND FORM's CARD OF 'attestlaw1.PolyEvals'. -/
def polyEvalsUptoCard : Claim7 := { stood := { row := polyEvalsUptoRow, standIns := [], harness := (true, "b6dadd2a04ec612d792be22bed2bb4ef4f6b0acc067c9b94751ba4e524edd7f3"), looks := true }, kinds := [], alts := [], laidByText := true, laidKinds := [.handle], laidTests := true, laidLooks := .later }
def PolyEvalsUptoCardSaid : Prop := Claim7.holds Tryd.pinned (.plain (OpenSpec.upto polyEvalsSpec)) polyEvalsUptoCard

/-- THE SECOND FORM's CARD OF 'attestlaw1.PolyGcds'. -/
def polyGcdsUptoCard : Claim7 := { stood := { row := polyGcdsUptoRow, standIns := [], harness := (true, "b6dadd2a04ec612d792be22bed2bb4ef4f6b0acc067c9b94751ba4e524edd7f3"), looks := true }, kinds := [], alts := [], laidByText := true, laidKinds := [.handle], laidTests := true, laidLooks := .later }
def PolyGcdsUptoCardSaid : Prop := Claim7.holds Tryd.pinned (.plain (OpenSpec.upto polyGcdsSpec)) polyGcdsUptoCard

/-- THE SECOND FORM's CARD OF 'attestlaw1.PolyFits'. -/
def polyFitsUptoCard : Claim7 := { stood := { row := polyFitsUptoRow, standIns := [], harness := (true, "b6dadd2a04ec612d792be22bed2bb4ef4f6b0acc067c9b94751ba4e524edd7f3"), looks := true }, kinds := [], alts := [], laidByText := true, laidKinds := [.handle], laidTests := true, laidLooks := .later }
def PolyFitsUptoCardSaid : Prop := Claim7.holds Tryd.pinned (.plain (OpenSpec.upto polyFitsSpec)) polyFitsUptoCard
end Rows
end Go.Proofs.YtfombbbiilalpabDoor
