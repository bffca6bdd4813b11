/- Package tree: Open. Package tree: Root. Package pledge: Commit. A region that draws its order, walked by hand: what is read is taken first. A region that draws its order, walked by hand: an operation that is not wanted is passed by. -/
import Derived.Test.YtlhjifpomchnfaaGreatDoorPoAI
import Derived.Test.YtlhjifpomchnfaaGreatDoorPoAM
import Derived.Test.YtlhjifpomchnfaaGreatDoorFld
import Derived.OrdersHeld
import Derived.Deep.RegionHeld3
namespace Go.Proofs.YtlhjifpomchnfaaGreatDoor
open Go.RowKit

/-- what stands of old, while Open goes on -/
structure OpB (q n d b s : Nat) (a : Option Addr) (cap : Nat) (rows : List (List Int)) (w : World) (G O : Nat) (os : List Int) (ap : Option Addr) (cp : Nat) (W : World) : Prop where
  res : W.rowIs w.heap.size 31 3 (tri (.slice none 0 0) (.slice none 0 0) (.slice none 0 0))
  all : W.rowIs G 201 2 (duo (.int .i64 0) (.int .i64 (rows.length : Int)))
  below : Below w.heap.size w W
  places : SlR W os (.slice ap os.length cp)
  isO : ∃ c f, W.heap[O]? = some (.cells c 31 f)
  hG : w.heap.size < G
  hO : G < O
theorem OpB.pair {q n d b s : Nat} {a : Option Addr} {cap : Nat} {rows : List (List Int)} {w : World} {G O B : Nat} {os : List Int} {ap : Option Addr} {cp : Nat} {W W' : World} (h : OpB q n d b s a cap rows w G O os ap cp W) (hB : B = O ∨ (NotC W B ∧ O < B)) (hp : Pair O B W W') (hO : ∃ c f, W'.heap[O]? = some (.cells c 31 f)) : OpB q n d b s a cap rows w G O os ap cp W' := by
  have h1 := h.hG
  have h2 := h.hO
  have hB1 : O ≤ B := by rcases hB with rfl | h; exact Nat.le_refl _; omega
  refine ⟨h.res.of_block (hp.block _ h.res.lt (by omega) (by omega)), h.all.of_block (hp.block _ h.all.lt (by omega) (by omega)), h.below.trans (hp.below h.below.size (by omega) (by omega)), h.places.pair h.isO (hB.imp id And.left) hp, hO, h1, h2⟩
theorem OpB.keep {q n d b s : Nat} {a : Option Addr} {cap : Nat} {rows : List (List Int)} {w : World} {G O : Nat} {os : List Int} {ap : Option Addr} {cp : Nat} {W W' : World} (h : OpB q n d b s a cap rows w G O os ap cp W) (hp : Below W.heap.size W W') : OpB q n d b s a cap rows w G O os ap cp W' := by
  obtain ⟨c, f, hc⟩ := h.isO
  exact ⟨h.res.of_block (hp.block _ h.res.lt), h.all.of_block (hp.block _ h.all.lt), h.below.trans (hp.mono h.below.size), h.places.keep hp, ⟨c, f, (hp.block _ (Array.getElem?_eq_some_iff.1 hc).1).trans hc⟩, h.hG, h.hO⟩

end Go.Proofs.YtlhjifpomchnfaaGreatDoor

namespace Go.Proofs.YtlhjifpomchnfaaGreatDoor
open Go.RowKit

end Go.Proofs.YtlhjifpomchnfaaGreatDoor

namespace Go.Proofs.YtlhjifpomchnfaaGreatDoor
open Go.RowKit

end Go.Proofs.YtlhjifpomchnfaaGreatDoor

namespace Go.Proofs.YtlhjifpomchnfaaGreatDoor
open Go.RowKit

section
variable {P : Program} {ops : Array Oper} {Q : Exit → Act → World → Prop} {md : Region.Mode} {S : World → Prop}
end
end Go.Proofs.YtlhjifpomchnfaaGreatDoor

namespace Go.Proofs.YtlhjifpomchnfaaGreatDoor
open Go.RowKit

section
variable {P : Program} {ops : Array Oper} {Q : Exit → Act → World → Prop} {md : Region.Mode} {S : World → Prop}
end

end Go.Proofs.YtlhjifpomchnfaaGreatDoor
