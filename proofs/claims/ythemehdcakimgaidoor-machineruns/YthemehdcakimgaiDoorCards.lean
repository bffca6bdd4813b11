/-
  DERIVED. GIVEN WITH THE SEED: THE CARDS: each row of YthemehdcakimgaiDoorRows.lean that lists a variable, with what it lists TIED to the program's text (the seventh form; the later family's looks); each row that meets fmt, with fmt's text TOLD by the authors' own Lean function (tested against real Go, not proved from fmt's source: count such statements apart). THE CARD IS WHAT COUNTS. Prove the row's statement (the work); the ties are given (YthemehdcakimgaiDoorTie.lean); close each card by the builder's one call (the guide's Derived/Test/ToyasCard.lean, 'card_holds'). Laid BY PROGRAM, IN A SANDBOX (cutbox-door.mjs). By AI agents, Wed Nov 11 2026. No macro, syntax, notation, axiom, sorry.
-/
import Derived.Test.YthemehdcakimgaiDoorRows
import GoSem.ClaimSeven
namespace Go.Proofs.YthemehdcakimgaiDoor
namespace Rows

/-- THE TIED CARD OF 'attestlaw6.MachineRuns'. -/
def machineRunsCard : Claim7 := { stood := { row := machineRunsRow, standIns := [], harness := (true, "6c1116127c16834d0678327cd3e6a8b20f281b46d7c4f6918a1f83b4ca590e27"), looks := true }, kinds := [], alts := [], laidByText := true, laidKinds := [.handle], laidTests := true, laidLooks := .later }
def MachineRunsCardSaid : Prop := Claim7.holds Tryd.pinned (.plain (OpenSpec.ofChange machineRunsSpec)) machineRunsCard

/-- THE TIED CARD OF 'attestlaw6.MachineWalks'. -/
def machineWalksCard : Claim7 := { stood := { row := machineWalksRow, standIns := [], harness := (true, "6c1116127c16834d0678327cd3e6a8b20f281b46d7c4f6918a1f83b4ca590e27"), looks := true }, kinds := [], alts := [], laidByText := true, laidKinds := [.handle], laidTests := true, laidLooks := .later }
def MachineWalksCardSaid : Prop := Claim7.holds Tryd.pinned (.plain (OpenSpec.ofChange machineWalksSpec)) machineWalksCard

/-- THE TIED CARD OF 'attestlaw6.MachineLonger'. -/
def machineLongerCard : Claim7 := { stood := { row := machineLongerRow, standIns := [], harness := (true, "6c1116127c16834d0678327cd3e6a8b20f281b46d7c4f6918a1f83b4ca590e27"), looks := true }, kinds := [], alts := [], laidByText := true, laidKinds := [.handle], laidTests := true, laidLooks := .later }
def MachineLongerCardSaid : Prop := Claim7.holds Tryd.pinned (.plain (OpenSpec.ofChange machineLongerSpec)) machineLongerCard

/-- THE TIED CARD OF 'attestlaw6.SourceAgain'. -/
def sourceAgainCard : Claim7 := { stood := { row := sourceAgainRow, standIns := [], harness := (true, "6c1116127c16834d0678327cd3e6a8b20f281b46d7c4f6918a1f83b4ca590e27"), looks := true }, kinds := [], alts := [], laidByText := true, laidKinds := [.data, .data, .data, .sentinel, .sentinel], laidTests := true, laidLooks := .later }
def SourceAgainCardSaid : Prop := Claim7.holds Tryd.pinned (.plain (OpenSpec.ofChange sourceAgainSpec)) sourceAgainCard

/-- THE SECOND FORM's CARD OF 'attestlaw6.MachineRuns'. -/
def machineRunsUptoCard : Claim7 := { stood := { row := machineRunsUptoRow, standIns := [], harness := (true, "6c1116127c16834d0678327cd3e6a8b20f281b46d7c4f6918a1f83b4ca590e27"), looks := true }, kinds := [], alts := [], laidByText := true, laidKinds := [.handle], laidTests := true, laidLooks := .later }
def MachineRunsUptoCardSaid : Prop := Claim7.holds Tryd.pinned (.plain (OpenSpec.upto machineRunsSpec)) machineRunsUptoCard

/-- THE SECOND FORM's CARD OF 'attestlaw6.MachineWalks'. -/
def machineWalksUptoCard : Claim7 := { stood := { row := machineWalksUptoRow, standIns := [], harness := (true, "6c1116127c16834d0678327cd3e6a8b20f281b46d7c4f6918a1f83b4ca590e27"), looks := true }, kinds := [], alts := [], laidByText := true, laidKinds := [.handle], laidTests := true, laidLooks := .later }
def MachineWalksUptoCardSaid : Prop := Claim7.holds Tryd.pinned (.plain (OpenSpec.upto machineWalksSpec)) machineWalksUptoCard

/-- THE SECOND FORM's CARD OF 'attestlaw6.MachineLonger'. -/
def machineLongerUptoCard : Claim7 := { stood := { row := machineLongerUptoRow, standIns := [], harness := (true, "6c1116127c16834d0678327cd3e6a8b20f281b46d7c4f6918a1f83b4ca590e27"), looks := true }, kinds := [], alts := [], laidByText := true, laidKinds := [.handle], laidTests := true, laidLooks := .later }
def MachineLongerUptoCardSaid : Prop := Claim7.holds Tryd.pinned (.plain (OpenSpec.upto machineLongerSpec)) machineLongerUptoCard

/-- THE SECOND FORM's CARD OF 'attestlaw6.SourceAgain'. -/
def sourceAgainUptoCard : Claim7 := { stood := { row := sourceAgainUptoRow, standIns := [], harness := (true, "6c1116127c16834d0678327cd3e6a8b20f281b46d7c4f6918a1f83b4ca590e27"), looks := true }, kinds := [], alts := [], laidByText := true, laidKinds := [.data, .data, .data, .sentinel, .sentinel], laidTests := true, laidLooks := .later }
def SourceAgainUptoCardSaid : Prop := Claim7.holds Tryd.pinned (.plain (OpenSpec.upto sourceAgainSpec)) sourceAgainUptoCard
end Rows
end Go.Proofs.YthemehdcakimgaiDoor
