/-
  DERIVED. GIVEN WITH THE SEED: THE CARDS: each row of YtaapbopcfpihbaaDoorRows.lean that lists a variable, with what it lists TIED to the program's text (the seventh form; the later family's looks); each row that meets fmt, with fmt's text TOLD by the authors' own Lean function (tested against real Go, not proved from fmt's source: count such statements apart). THE CARD IS WHAT COUNTS. Prove the row's statement (the work); the ties are given (YtaapbopcfpihbaaDoorTie.lean); close each card by the builder's one call (the guide's Derived/Test/ToyasCard.lean, 'card_holds'). Laid BY PROGRAM, IN A SANDBOX (cutbox-door.mjs). By AI agents, Wed Nov 11 2026. No macro, syntax, notation, axiom, sorry.
-/
import Derived.Test.YtaapbopcfpihbaaDoorRows
import GoSem.ClaimSeven
namespace Go.Proofs.YtaapbopcfpihbaaDoor
namespace Rows

/-- THE TIED CARD OF 'attestlaw10.GatesValues'. -/
def gatesValuesCard : Claim7 := { stood := { row := gatesValuesRow, standIns := [], harness := (true, "8c46ad462c5e4ae21a4d0b68e3d2628531ba97a65ec03dda1a49326b6f9001fd"), looks := true }, kinds := [], alts := [], laidByText := true, laidKinds := [.data, .data, .handle], laidTests := true, laidLooks := .later }
def GatesValuesCardSaid : Prop := Claim7.holds Tryd.pinned (.plain (OpenSpec.ofChange gatesValuesSpec)) gatesValuesCard

/-- THE TIED CARD OF 'attestlaw10.GatesParts'. -/
def gatesPartsCard : Claim7 := { stood := { row := gatesPartsRow, standIns := [], harness := (true, "8c46ad462c5e4ae21a4d0b68e3d2628531ba97a65ec03dda1a49326b6f9001fd"), looks := true }, kinds := [], alts := [], laidByText := true, laidKinds := [.data, .data, .handle], laidTests := true, laidLooks := .later }
def GatesPartsCardSaid : Prop := Claim7.holds Tryd.pinned (.plain (OpenSpec.ofChange gatesPartsSpec)) gatesPartsCard

/-- THE TIED CARD OF 'attestlaw10.GatesLayer'. -/
def gatesLayerCard : Claim7 := { stood := { row := gatesLayerRow, standIns := [], harness := (true, "8c46ad462c5e4ae21a4d0b68e3d2628531ba97a65ec03dda1a49326b6f9001fd"), looks := true }, kinds := [], alts := [], laidByText := true, laidKinds := [.data, .data, .handle], laidTests := true, laidLooks := .later }
def GatesLayerCardSaid : Prop := Claim7.holds Tryd.pinned (.plain (OpenSpec.ofChange gatesLayerSpec)) gatesLayerCard

/-- THE SECOND FORM's CARD OF 'attestlaw10.GatesValues'. -/
def gatesValuesUptoCard : Claim7 := { stood := { row := gatesValuesUptoRow, standIns := [], harness := (true, "8c46ad462c5e4ae21a4d0b68e3d2628531ba97a65ec03dda1a49326b6f9001fd"), looks := true }, kinds := [], alts := [], laidByText := true, laidKinds := [.data, .data, .handle], laidTests := true, laidLooks := .later }
def GatesValuesUptoCardSaid : Prop := Claim7.holds Tryd.pinned (.plain (OpenSpec.upto gatesValuesSpec)) gatesValuesUptoCard

/-- THE SECOND FORM's CARD OF 'attestlaw10.GatesParts'. -/
def gatesPartsUptoCard : Claim7 := { stood := { row := gatesPartsUptoRow, standIns := [], harness := (true, "8c46ad462c5e4ae21a4d0b68e3d2628531ba97a65ec03dda1a49326b6f9001fd"), looks := true }, kinds := [], alts := [], laidByText := true, laidKinds := [.data, .data, .handle], laidTests := true, laidLooks := .later }
def GatesPartsUptoCardSaid : Prop := Claim7.holds Tryd.pinned (.plain (OpenSpec.upto gatesPartsSpec)) gatesPartsUptoCard

/-- THE SECOND FORM's CARD OF 'attestlaw10.GatesLayer'. -/
def gatesLayerUptoCard : Claim7 := { stood := { row := gatesLayerUptoRow, standIns := [], harness := (true, "8c46ad462c5e4ae21a4d0b68e3d2628531ba97a65ec03dda1a49326b6f9001fd"), looks := true }, kinds := [], alts := [], laidByText := true, laidKinds := [.data, .data, .handle], laidTests := true, laidLooks := .later }
def GatesLayerUptoCardSaid : Prop := Claim7.holds Tryd.pinned (.plain (OpenSpec.upto gatesLayerSpec)) gatesLayerUptoCard
end Rows
end Go.Proofs.YtaapbopcfpihbaaDoor
