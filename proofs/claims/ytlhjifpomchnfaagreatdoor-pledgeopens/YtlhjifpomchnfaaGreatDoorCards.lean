/-
  DERIVED. GIVEN WITH THE SEED: THE CARDS: each row of YtlhjifpomchnfaaGreatDoorRows.lean that lists a variable, with what it lists TIED to the program's text (the seventh form; the later family's looks); each row that meets fmt, with fmt's text TOLD by the authors' own Lean function (tested against real Go, not proved from fmt's source: count such statements apart). THE CARD IS WHAT COUNTS. Prove the row's statement (the work); the ties are given (YtlhjifpomchnfaaGreatDoorTie.lean); close each card by the builder's one call (the guide's Derived/Test/ToyasCard.lean, 'card_holds'). Laid BY PROGRAM, IN A SANDBOX (cutbox-door.mjs). By AI agents, Wed Nov 11 2026. No macro, syntax, notation, axiom, sorry.
-/
import Derived.Test.YtlhjifpomchnfaaGreatDoorRows
import GoSem.ClaimSeven
namespace Go.Proofs.YtlhjifpomchnfaaGreatDoor
namespace Rows

/-- THE TIED CARD OF 'attestlaw10.PledgeOpens'. -/
def pledgeOpensCard : Claim7 := { stood := { row := pledgeOpensRow, standIns := [], harness := (true, "cf25286bc527041b96ce6b151d2c29f631868bef3ff11f2b1d1726abe49786bd"), looks := true }, kinds := [], alts := [], laidByText := true, laidKinds := [.data, .data, .handle], laidTests := true, laidLooks := .later }
def PledgeOpensCardSaid : Prop := Claim7.holds Tryz.pinned (.plain (OpenSpec.ofChange pledgeOpensSpec)) pledgeOpensCard

/-- THE TIED CARD OF 'attesttop.TopGates'. -/
def topGatesCard : Claim7 := { stood := { row := topGatesRow, standIns := [], harness := (true, "cf25286bc527041b96ce6b151d2c29f631868bef3ff11f2b1d1726abe49786bd"), looks := true }, kinds := [], alts := [], laidByText := true, laidKinds := [.data, .data], laidTests := true, laidLooks := .later }
def TopGatesCardSaid : Prop := Claim7.holds Tryz.pinned (.plain (OpenSpec.ofChange topGatesSpec)) topGatesCard

/-- THE SECOND FORM's CARD OF 'attestlaw10.PledgeOpens'. -/
def pledgeOpensUptoCard : Claim7 := { stood := { row := pledgeOpensUptoRow, standIns := [], harness := (true, "cf25286bc527041b96ce6b151d2c29f631868bef3ff11f2b1d1726abe49786bd"), looks := true }, kinds := [], alts := [], laidByText := true, laidKinds := [.data, .data, .handle], laidTests := true, laidLooks := .later }
def PledgeOpensUptoCardSaid : Prop := Claim7.holds Tryz.pinned (.plain (OpenSpec.upto pledgeOpensSpec)) pledgeOpensUptoCard

/-- THE SECOND FORM's CARD OF 'attesttop.TopGates'. -/
def topGatesUptoCard : Claim7 := { stood := { row := topGatesUptoRow, standIns := [], harness := (true, "cf25286bc527041b96ce6b151d2c29f631868bef3ff11f2b1d1726abe49786bd"), looks := true }, kinds := [], alts := [], laidByText := true, laidKinds := [.data, .data], laidTests := true, laidLooks := .later }
def TopGatesUptoCardSaid : Prop := Claim7.holds Tryz.pinned (.plain (OpenSpec.upto topGatesSpec)) topGatesUptoCard
end Rows
end Go.Proofs.YtlhjifpomchnfaaGreatDoor
