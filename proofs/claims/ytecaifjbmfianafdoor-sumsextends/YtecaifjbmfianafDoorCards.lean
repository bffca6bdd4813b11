/-
  DERIVED. GIVEN WITH THE SEED: THE CARDS: each row of YtecaifjbmfianafDoorRows.lean that lists a variable, with what it lists TIED to the program's text (the seventh form; the later family's looks); each row that meets fmt, with fmt's text TOLD by the authors' own Lean function (tested against real Go, not proved from fmt's source: count such statements apart). THE CARD IS WHAT COUNTS. Prove the row's statement (the work); the ties are given (YtecaifjbmfianafDoorTie.lean); close each card by the builder's one call (the guide's Derived/Test/ToyasCard.lean, 'card_holds'). Laid BY PROGRAM, IN A SANDBOX (cutbox-door.mjs). By AI agents, Wed Nov 11 2026. No macro, syntax, notation, axiom, sorry.
-/
import Derived.Test.YtecaifjbmfianafDoorRows
import GoSem.ClaimSeven
namespace Go.Proofs.YtecaifjbmfianafDoor
namespace Rows

/-- THE TIED CARD OF 'attestlaw3.ChainDraws'. -/
def chainDrawsCard : Claim7 := { stood := { row := chainDrawsRow, standIns := [], harness := (true, "57369c4bad4ce050f7890e773d5f689c492db28ff4b264cf103a60f2b9f32108"), looks := true }, kinds := [], alts := [], laidByText := true, laidKinds := [.handle], laidTests := true, laidLooks := .later }
def ChainDrawsCardSaid : Prop := Claim7.holds Tryd.pinned (.plain (OpenSpec.ofChange chainDrawsSpec)) chainDrawsCard

/-- THE TIED CARD OF 'attestlaw4.SumsExtends'. -/
def sumsExtendsCard : Claim7 := { stood := { row := sumsExtendsRow, standIns := [], harness := (true, "57369c4bad4ce050f7890e773d5f689c492db28ff4b264cf103a60f2b9f32108"), looks := true }, kinds := [], alts := [], laidByText := true, laidKinds := [.data, .data, .handle], laidTests := true, laidLooks := .later }
def SumsExtendsCardSaid : Prop := Claim7.holds Tryd.pinned (.plain (OpenSpec.ofChange sumsExtendsSpec)) sumsExtendsCard

/-- THE TIED CARD OF 'attestlaw4.SumsTotals'. -/
def sumsTotalsCard : Claim7 := { stood := { row := sumsTotalsRow, standIns := [], harness := (true, "57369c4bad4ce050f7890e773d5f689c492db28ff4b264cf103a60f2b9f32108"), looks := true }, kinds := [], alts := [], laidByText := true, laidKinds := [.data, .data, .handle], laidTests := true, laidLooks := .later }
def SumsTotalsCardSaid : Prop := Claim7.holds Tryd.pinned (.plain (OpenSpec.ofChange sumsTotalsSpec)) sumsTotalsCard

/-- THE SECOND FORM's CARD OF 'attestlaw3.ChainDraws'. -/
def chainDrawsUptoCard : Claim7 := { stood := { row := chainDrawsUptoRow, standIns := [], harness := (true, "57369c4bad4ce050f7890e773d5f689c492db28ff4b264cf103a60f2b9f32108"), looks := true }, kinds := [], alts := [], laidByText := true, laidKinds := [.handle], laidTests := true, laidLooks := .later }
def ChainDrawsUptoCardSaid : Prop := Claim7.holds Tryd.pinned (.plain (OpenSpec.upto chainDrawsSpec)) chainDrawsUptoCard

/-- THE SECOND FORM's CARD OF 'attestlaw4.SumsExtends'. -/
def sumsExtendsUptoCard : Claim7 := { stood := { row := sumsExtendsUptoRow, standIns := [], harness := (true, "57369c4bad4ce050f7890e773d5f689c492db28ff4b264cf103a60f2b9f32108"), looks := true }, kinds := [], alts := [], laidByText := true, laidKinds := [.data, .data, .handle], laidTests := true, laidLooks := .later }
def SumsExtendsUptoCardSaid : Prop := Claim7.holds Tryd.pinned (.plain (OpenSpec.upto sumsExtendsSpec)) sumsExtendsUptoCard

/-- THE SECOND FORM's CARD OF 'attestlaw4.SumsTotals'. -/
def sumsTotalsUptoCard : Claim7 := { stood := { row := sumsTotalsUptoRow, standIns := [], harness := (true, "57369c4bad4ce050f7890e773d5f689c492db28ff4b264cf103a60f2b9f32108"), looks := true }, kinds := [], alts := [], laidByText := true, laidKinds := [.data, .data, .handle], laidTests := true, laidLooks := .later }
def SumsTotalsUptoCardSaid : Prop := Claim7.holds Tryd.pinned (.plain (OpenSpec.upto sumsTotalsSpec)) sumsTotalsUptoCard
end Rows
end Go.Proofs.YtecaifjbmfianafDoor
