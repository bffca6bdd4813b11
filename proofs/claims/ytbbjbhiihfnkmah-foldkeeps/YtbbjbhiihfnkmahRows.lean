/-
  No cell of these rows narrows 'for every input' (looked for: loops, veiled, ifaces, maps, wideKeys, modest, calm, conditions, laid).
  DERIVED. THE GIVEN ROWS OF THIS SEAT. 3 by the template 'for every input the law returns true; each argument reads behind the call as it read before'; 0 by the template 'total and deterministic' (their statements: YtbbjbhiihfnkmahTotals.lean).
  GIVEN WITH THE SEED: the statements are not yours to turn. If you find one false, say at which input.
  Laid BY PROGRAM, IN A SANDBOX (cutbox-rows.mjs): the forced cells as the released guide's own fill.sh prints them over the translation c4aabfacd670f7a8… (all of the seat's roots in one cut). By AI agents, Wed Nov 11 2026. No macro, syntax, notation, axiom, sorry.
-/
import Derived.Test.YtbbjbhiihfnkmahChecked
import GoSem.Claim
import GoSem.ClaimJoined
import GoSem.ClaimMapViews
import Derived.JoinedTies
import Derived.KernelRfl
namespace Go.Proofs.Ytbbjbhiihfnkmah
/- THE CELL 'sum', in the pinned program and in every row, IS THE sha256 OF THE DUMP (.gsa) THAT YtbbjbhiihfnkmahProg.lean LOADS. Nothing in Lean hashes anything: it is a label: what it is worth is what the hold of that sum in a sandbox is worth. -/
noncomputable def Try.pinned : Pinned := { name := "ytbbjbhiihfnkmah", sum := "c4aabfacd670f7a8d9ce6b5e3e9e7785fd266ec3e8984513741c43bea2940376", checked := Try.checked }
namespace Rows
def none {H : Type} : Left H := { results := [], args := [] }

/-- 'attestlaw5.FoldKeeps': WHATEVER THE INPUT: true; the input reads as it did. -/
def foldKeepsSpec : ChangeSpec := { name := "foldKeeps", fn := fun _ => fun
  | [d1, d2, d3, d4, d5] => { results := [.lit (.bool true)], args := [d1, d2, d3, d4, d5] }
  | _ => none }
def foldKeepsRow : OpenClaim := { program := "ytbbjbhiihfnkmah", sum := "c4aabfacd670f7a8d9ce6b5e3e9e7785fd266ec3e8984513741c43bea2940376", func := "attest/attestlaw5.FoldKeeps", spec := "foldKeeps", recurses := true, apart := false }
def FoldKeepsSaid : Prop := foldKeepsRow.holds Try.pinned (OpenSpec.ofChange foldKeepsSpec)

/-- ITS FALSE NEIGHBOUR: 'it returns false'. Refute it at one input. -/
def foldKeepsWrong : ChangeSpec := { name := "foldKeeps", fn := fun _ => fun
  | [d1, d2, d3, d4, d5] => { results := [.lit (.bool false)], args := [d1, d2, d3, d4, d5] }
  | _ => none }
def FoldKeepsWrongFalsely : Prop := foldKeepsRow.holds Try.pinned (OpenSpec.ofChange foldKeepsWrong)

/-- 'attestlaw5.FoldCatches': WHATEVER THE INPUT: true; the input reads as it did. -/
def foldCatchesSpec : ChangeSpec := { name := "foldCatches", fn := fun _ => fun
  | [d1, d2, d3, d4, d5, d6, d7] => { results := [.lit (.bool true)], args := [d1, d2, d3, d4, d5, d6, d7] }
  | _ => none }
def foldCatchesRow : OpenClaim := { program := "ytbbjbhiihfnkmah", sum := "c4aabfacd670f7a8d9ce6b5e3e9e7785fd266ec3e8984513741c43bea2940376", func := "attest/attestlaw5.FoldCatches", spec := "foldCatches", recurses := true, apart := false }
def FoldCatchesSaid : Prop := foldCatchesRow.holds Try.pinned (OpenSpec.ofChange foldCatchesSpec)

/-- ITS FALSE NEIGHBOUR: 'it returns false'. Refute it at one input. -/
def foldCatchesWrong : ChangeSpec := { name := "foldCatches", fn := fun _ => fun
  | [d1, d2, d3, d4, d5, d6, d7] => { results := [.lit (.bool false)], args := [d1, d2, d3, d4, d5, d6, d7] }
  | _ => none }
def FoldCatchesWrongFalsely : Prop := foldCatchesRow.holds Try.pinned (OpenSpec.ofChange foldCatchesWrong)

/-- 'attestlaw5.FoldNear': WHATEVER THE INPUT: true; the input reads as it did. -/
def foldNearSpec : ChangeSpec := { name := "foldNear", fn := fun _ => fun
  | [d1, d2, d3, d4, d5, d6, d7, d8, d9] => { results := [.lit (.bool true)], args := [d1, d2, d3, d4, d5, d6, d7, d8, d9] }
  | _ => none }
def foldNearRow : OpenClaim := { program := "ytbbjbhiihfnkmah", sum := "c4aabfacd670f7a8d9ce6b5e3e9e7785fd266ec3e8984513741c43bea2940376", func := "attest/attestlaw5.FoldNear", spec := "foldNear", unfollowed := true, recurses := true, apart := false }
def FoldNearSaid : Prop := foldNearRow.holds Try.pinned (OpenSpec.ofChange foldNearSpec)

/-- ITS FALSE NEIGHBOUR: 'it returns false'. Refute it at one input. -/
def foldNearWrong : ChangeSpec := { name := "foldNear", fn := fun _ => fun
  | [d1, d2, d3, d4, d5, d6, d7, d8, d9] => { results := [.lit (.bool false)], args := [d1, d2, d3, d4, d5, d6, d7, d8, d9] }
  | _ => none }
def FoldNearWrongFalsely : Prop := foldNearRow.holds Try.pinned (OpenSpec.ofChange foldNearWrong)

/- THE SECOND FORM. 'bulk': how many values and letters a reading holds, each counted each time it is reached (what is shared counts as often as it is met; a slice's spare places count too). A statement '..UptoSaid' is the law's where the arguments, and the package variables that the reading takes, are together of bulk at most 1048576: NARROWER than '..Said'. Prove '..Said' where nothing that the law and all that it calls make is longer than what came in: it says more and counts as full. Else prove '..UptoSaid'. A law counts once. -/
mutual
def uptoBulk {H : Type} : DataW H → Nat
  | .lit (.string bytes) => bytes.length + 1
  | .lit _ => 1
  | .nil => 1
  | .ptr d => uptoBulk d + 1
  | .slice elems spare => uptoBulkAll elems + uptoBulkAll spare + 1
  | .agg parts => uptoBulkAll parts + 1
  | .iface _ d => uptoBulk d + 1
  | .map entries => uptoBulkEntries entries + 1
  | .held _ => 1
def uptoBulkAll {H : Type} : List (DataW H) → Nat
  | [] => 0
  | d :: r => uptoBulk d + uptoBulkAll r
def uptoBulkEntries {H : Type} : List (Lit × DataW H) → Nat
  | [] => 0
  | x :: r => uptoBulkEntry x + uptoBulkEntries r
def uptoBulkEntry {H : Type} : Lit × DataW H → Nat
  | (.string bytes, d) => bytes.length + uptoBulk d + 1
  | (_, d) => uptoBulk d + 1
 end
def uptoSmall : (H : Type) → List (DataW H) → Bool := fun _ ds => decide (uptoBulkAll ds ≤ 1048576)
def OpenSpec.upto (s : _root_.Go.ChangeSpec) : _root_.Go.OpenSpec := { _root_.Go.OpenSpec.ofChange s with cond := some uptoSmall }

/-- 'attestlaw5.FoldKeeps', WHERE WHAT IT READS IS OF BULK AT MOST 1048576: true; the input reads as it did. -/
def foldKeepsUptoRow : OpenClaim := { program := "ytbbjbhiihfnkmah", sum := "c4aabfacd670f7a8d9ce6b5e3e9e7785fd266ec3e8984513741c43bea2940376", func := "attest/attestlaw5.FoldKeeps", spec := "foldKeeps", recurses := true, apart := false, narrowed := true }
def FoldKeepsUptoSaid : Prop := foldKeepsUptoRow.holds Try.pinned (OpenSpec.upto foldKeepsSpec)

/-- 'attestlaw5.FoldCatches', WHERE WHAT IT READS IS OF BULK AT MOST 1048576: true; the input reads as it did. -/
def foldCatchesUptoRow : OpenClaim := { program := "ytbbjbhiihfnkmah", sum := "c4aabfacd670f7a8d9ce6b5e3e9e7785fd266ec3e8984513741c43bea2940376", func := "attest/attestlaw5.FoldCatches", spec := "foldCatches", recurses := true, apart := false, narrowed := true }
def FoldCatchesUptoSaid : Prop := foldCatchesUptoRow.holds Try.pinned (OpenSpec.upto foldCatchesSpec)

/-- 'attestlaw5.FoldNear', WHERE WHAT IT READS IS OF BULK AT MOST 1048576: true; the input reads as it did. -/
def foldNearUptoRow : OpenClaim := { program := "ytbbjbhiihfnkmah", sum := "c4aabfacd670f7a8d9ce6b5e3e9e7785fd266ec3e8984513741c43bea2940376", func := "attest/attestlaw5.FoldNear", spec := "foldNear", unfollowed := true, recurses := true, apart := false, narrowed := true }
def FoldNearUptoSaid : Prop := foldNearUptoRow.holds Try.pinned (OpenSpec.upto foldNearSpec)

end Rows
end Go.Proofs.Ytbbjbhiihfnkmah
