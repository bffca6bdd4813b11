/-
  DERIVED. GIVEN WITH THE SEED: THE CARDS: each row of YtmmlphdekeflfaaGreatDoorRows.lean that lists a variable, with what it lists TIED to the program's text (the seventh form; the later family's looks); each row that meets fmt, with fmt's text TOLD by the authors' own Lean function (tested against real Go, not proved from fmt's source: count such statements apart). THE CARD IS WHAT COUNTS. Prove the row's statement (the work); the ties are given (YtmmlphdekeflfaaGreatDoorTie.lean); close each card by the builder's one call (the guide's Derived/Test/ToyasCard.lean, 'card_holds'). Laid BY PROGRAM, IN A SANDBOX (cutbox-door.mjs). By AI agents, Wed Nov 11 2026. No macro, syntax, notation, axiom, sorry.
-/
import Derived.Test.YtmmlphdekeflfaaGreatDoorRows
import GoSem.ClaimSeven
namespace Go.Proofs.YtmmlphdekeflfaaGreatDoor
namespace Rows

/-- THE TIED CARD OF 'attestlaw10.PledgeMixes'. -/
def pledgeMixesCard : Claim7 := { stood := { row := pledgeMixesRow, standIns := [], harness := (true, "5f542afde8aefacf38dc02c5107941c2d801aa45251df14acebcfc808c9a57f3"), looks := true }, kinds := [], alts := [], laidByText := true, laidKinds := [.data, .data, .handle], laidTests := true, laidLooks := .later }
def PledgeMixesCardSaid : Prop := Claim7.holds Tryz.pinned (.plain (OpenSpec.ofChange pledgeMixesSpec)) pledgeMixesCard

/-- THE TIED CARD OF 'attestlaw10.PledgeOpens'. -/
def pledgeOpensCard : Claim7 := { stood := { row := pledgeOpensRow, standIns := [], harness := (true, "5f542afde8aefacf38dc02c5107941c2d801aa45251df14acebcfc808c9a57f3"), looks := true }, kinds := [], alts := [], laidByText := true, laidKinds := [.data, .data, .handle], laidTests := true, laidLooks := .later }
def PledgeOpensCardSaid : Prop := Claim7.holds Tryz.pinned (.plain (OpenSpec.ofChange pledgeOpensSpec)) pledgeOpensCard

/-- THE TIED CARD OF 'attestlaw10.PledgeChecks'. -/
def pledgeChecksCard : Claim7 := { stood := { row := pledgeChecksRow, standIns := [], harness := (true, "5f542afde8aefacf38dc02c5107941c2d801aa45251df14acebcfc808c9a57f3"), looks := true }, kinds := [], alts := [], laidByText := true, laidKinds := [.handle], laidTests := true, laidLooks := .later }
def PledgeChecksCardSaid : Prop := Claim7.holds Tryz.pinned (.plain (OpenSpec.ofChange pledgeChecksSpec)) pledgeChecksCard

/-- THE TIED CARD OF 'attestlaw10.PledgeBinds'. -/
def pledgeBindsCard : Claim7 := { stood := { row := pledgeBindsRow, standIns := [], harness := (true, "5f542afde8aefacf38dc02c5107941c2d801aa45251df14acebcfc808c9a57f3"), looks := true }, kinds := [], alts := [], laidByText := true, laidKinds := [.handle], laidTests := true, laidLooks := .later }
def PledgeBindsCardSaid : Prop := Claim7.holds Tryz.pinned (.plain (OpenSpec.ofChange pledgeBindsSpec)) pledgeBindsCard

/-- THE SECOND FORM's CARD OF 'attestlaw10.PledgeMixes'. -/
def pledgeMixesUptoCard : Claim7 := { stood := { row := pledgeMixesUptoRow, standIns := [], harness := (true, "5f542afde8aefacf38dc02c5107941c2d801aa45251df14acebcfc808c9a57f3"), looks := true }, kinds := [], alts := [], laidByText := true, laidKinds := [.data, .data, .handle], laidTests := true, laidLooks := .later }
def PledgeMixesUptoCardSaid : Prop := Claim7.holds Tryz.pinned (.plain (OpenSpec.upto pledgeMixesSpec)) pledgeMixesUptoCard

/-- THE SECOND FORM's CARD OF 'attestlaw10.PledgeOpens'. -/
def pledgeOpensUptoCard : Claim7 := { stood := { row := pledgeOpensUptoRow, standIns := [], harness := (true, "5f542afde8aefacf38dc02c5107941c2d801aa45251df14acebcfc808c9a57f3"), looks := true }, kinds := [], alts := [], laidByText := true, laidKinds := [.data, .data, .handle], laidTests := true, laidLooks := .later }
def PledgeOpensUptoCardSaid : Prop := Claim7.holds Tryz.pinned (.plain (OpenSpec.upto pledgeOpensSpec)) pledgeOpensUptoCard

/-- THE SECOND FORM's CARD OF 'attestlaw10.PledgeChecks'. -/
def pledgeChecksUptoCard : Claim7 := { stood := { row := pledgeChecksUptoRow, standIns := [], harness := (true, "5f542afde8aefacf38dc02c5107941c2d801aa45251df14acebcfc808c9a57f3"), looks := true }, kinds := [], alts := [], laidByText := true, laidKinds := [.handle], laidTests := true, laidLooks := .later }
def PledgeChecksUptoCardSaid : Prop := Claim7.holds Tryz.pinned (.plain (OpenSpec.upto pledgeChecksSpec)) pledgeChecksUptoCard

/-- THE SECOND FORM's CARD OF 'attestlaw10.PledgeBinds'. -/
def pledgeBindsUptoCard : Claim7 := { stood := { row := pledgeBindsUptoRow, standIns := [], harness := (true, "5f542afde8aefacf38dc02c5107941c2d801aa45251df14acebcfc808c9a57f3"), looks := true }, kinds := [], alts := [], laidByText := true, laidKinds := [.handle], laidTests := true, laidLooks := .later }
def PledgeBindsUptoCardSaid : Prop := Claim7.holds Tryz.pinned (.plain (OpenSpec.upto pledgeBindsSpec)) pledgeBindsUptoCard
end Rows
end Go.Proofs.YtmmlphdekeflfaaGreatDoor
