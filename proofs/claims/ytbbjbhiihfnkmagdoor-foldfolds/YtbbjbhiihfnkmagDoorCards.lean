/-
  DERIVED. GIVEN WITH THE SEED: THE CARDS: each row of YtbbjbhiihfnkmagDoorRows.lean that lists a variable, with what it lists TIED to the program's text (the seventh form; the later family's looks); each row that meets fmt, with fmt's text TOLD by the authors' own Lean function (tested against real Go, not proved from fmt's source: count such statements apart). THE CARD IS WHAT COUNTS. Prove the row's statement (the work); the ties are given (YtbbjbhiihfnkmagDoorTie.lean); close each card by the builder's one call (the guide's Derived/Test/ToyasCard.lean, 'card_holds'). Laid BY PROGRAM, IN A SANDBOX (cutbox-door.mjs). By AI agents, Wed Nov 11 2026. No macro, syntax, notation, axiom, sorry.
-/
import Derived.Test.YtbbjbhiihfnkmagDoorRows
import GoSem.ClaimSeven
namespace Go.Proofs.YtbbjbhiihfnkmagDoor
namespace Rows

/-- THE TIED CARD OF 'attestlaw4.SumsMakes'. -/
def sumsMakesCard : Claim7 := { stood := { row := sumsMakesRow, standIns := [], harness := (true, "2968345e59ae82d8fbd9b9cc222c5905516f844674ad244c192866a03ed27ea3"), looks := true }, kinds := [], alts := [], laidByText := true, laidKinds := [.data, .data, .handle], laidTests := true, laidLooks := .later }
def SumsMakesCardSaid : Prop := Claim7.holds Tryd.pinned (.plain (OpenSpec.ofChange sumsMakesSpec)) sumsMakesCard

/-- THE TIED CARD OF 'attestlaw4.SumsTrue'. -/
def sumsTrueCard : Claim7 := { stood := { row := sumsTrueRow, standIns := [], harness := (true, "2968345e59ae82d8fbd9b9cc222c5905516f844674ad244c192866a03ed27ea3"), looks := true }, kinds := [], alts := [], laidByText := true, laidKinds := [.data, .data], laidTests := true, laidLooks := .later }
def SumsTrueCardSaid : Prop := Claim7.holds Tryd.pinned (.plain (OpenSpec.ofChange sumsTrueSpec)) sumsTrueCard

/-- THE TIED CARD OF 'attestlaw4.SumsCatches'. -/
def sumsCatchesCard : Claim7 := { stood := { row := sumsCatchesRow, standIns := [], harness := (true, "2968345e59ae82d8fbd9b9cc222c5905516f844674ad244c192866a03ed27ea3"), looks := true }, kinds := [], alts := [], laidByText := true, laidKinds := [.data, .data], laidTests := true, laidLooks := .later }
def SumsCatchesCardSaid : Prop := Claim7.holds Tryd.pinned (.plain (OpenSpec.ofChange sumsCatchesSpec)) sumsCatchesCard

/-- THE TIED CARD OF 'attestlaw4.SumsOnly'. -/
def sumsOnlyCard : Claim7 := { stood := { row := sumsOnlyRow, standIns := [], harness := (true, "2968345e59ae82d8fbd9b9cc222c5905516f844674ad244c192866a03ed27ea3"), looks := true }, kinds := [], alts := [], laidByText := true, laidKinds := [.data, .data], laidTests := true, laidLooks := .later }
def SumsOnlyCardSaid : Prop := Claim7.holds Tryd.pinned (.plain (OpenSpec.ofChange sumsOnlySpec)) sumsOnlyCard

/-- THE TIED CARD OF 'attestlaw5.FoldFolds'. -/
def foldFoldsCard : Claim7 := { stood := { row := foldFoldsRow, standIns := [], harness := (true, "2968345e59ae82d8fbd9b9cc222c5905516f844674ad244c192866a03ed27ea3"), looks := true }, kinds := [], alts := [], laidByText := true, laidKinds := [.handle], laidTests := true, laidLooks := .later }
def FoldFoldsCardSaid : Prop := Claim7.holds Tryd.pinned (.plain (OpenSpec.ofChange foldFoldsSpec)) foldFoldsCard

/-- THE SECOND FORM's CARD OF 'attestlaw4.SumsMakes'. -/
def sumsMakesUptoCard : Claim7 := { stood := { row := sumsMakesUptoRow, standIns := [], harness := (true, "2968345e59ae82d8fbd9b9cc222c5905516f844674ad244c192866a03ed27ea3"), looks := true }, kinds := [], alts := [], laidByText := true, laidKinds := [.data, .data, .handle], laidTests := true, laidLooks := .later }
def SumsMakesUptoCardSaid : Prop := Claim7.holds Tryd.pinned (.plain (OpenSpec.upto sumsMakesSpec)) sumsMakesUptoCard

/-- THE SECOND FORM's CARD OF 'attestlaw4.SumsTrue'. -/
def sumsTrueUptoCard : Claim7 := { stood := { row := sumsTrueUptoRow, standIns := [], harness := (true, "2968345e59ae82d8fbd9b9cc222c5905516f844674ad244c192866a03ed27ea3"), looks := true }, kinds := [], alts := [], laidByText := true, laidKinds := [.data, .data], laidTests := true, laidLooks := .later }
def SumsTrueUptoCardSaid : Prop := Claim7.holds Tryd.pinned (.plain (OpenSpec.upto sumsTrueSpec)) sumsTrueUptoCard

/-- THE SECOND FORM's CARD OF 'attestlaw4.SumsCatches'. -/
def sumsCatchesUptoCard : Claim7 := { stood := { row := sumsCatchesUptoRow, standIns := [], harness := (true, "2968345e59ae82d8fbd9b9cc222c5905516f844674ad244c192866a03ed27ea3"), looks := true }, kinds := [], alts := [], laidByText := true, laidKinds := [.data, .data], laidTests := true, laidLooks := .later }
def SumsCatchesUptoCardSaid : Prop := Claim7.holds Tryd.pinned (.plain (OpenSpec.upto sumsCatchesSpec)) sumsCatchesUptoCard

/-- THE SECOND FORM's CARD OF 'attestlaw4.SumsOnly'. -/
def sumsOnlyUptoCard : Claim7 := { stood := { row := sumsOnlyUptoRow, standIns := [], harness := (true, "2968345e59ae82d8fbd9b9cc222c5905516f844674ad244c192866a03ed27ea3"), looks := true }, kinds := [], alts := [], laidByText := true, laidKinds := [.data, .data], laidTests := true, laidLooks := .later }
def SumsOnlyUptoCardSaid : Prop := Claim7.holds Tryd.pinned (.plain (OpenSpec.upto sumsOnlySpec)) sumsOnlyUptoCard

/-- THE SECOND FORM's CARD OF 'attestlaw5.FoldFolds'. -/
def foldFoldsUptoCard : Claim7 := { stood := { row := foldFoldsUptoRow, standIns := [], harness := (true, "2968345e59ae82d8fbd9b9cc222c5905516f844674ad244c192866a03ed27ea3"), looks := true }, kinds := [], alts := [], laidByText := true, laidKinds := [.handle], laidTests := true, laidLooks := .later }
def FoldFoldsUptoCardSaid : Prop := Claim7.holds Tryd.pinned (.plain (OpenSpec.upto foldFoldsSpec)) foldFoldsUptoCard
end Rows
end Go.Proofs.YtbbjbhiihfnkmagDoor
