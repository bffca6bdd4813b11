/- What package fold's Fold must answer; attestlaw5.plain, lives. PledgeBinds, plainly: who says two things of one root has shown two columns that are not the same. PledgeKeeps, plainly: rows that are no codewords are seen in all mixtures but a few. Package code: Is, Distance; the reference's Distance. The law DomainValues answers true: what any polynomial is at all points of any domain. What lies still while a law on codewords goes on: the domain on both sides. attestlaw10.things: a sponge and a domain. -/
import Derived.Test.YtlhjifpomchnfaaGreatDoorPoBA
import Derived.Test.YtlhjifpomchnfaaGreatDoorDoms
import Derived.Test.YtlhjifpomchnfaaGreatDoorPoAV
import Derived.Test.YtlhjifpomchnfaaGreatDoorPoAP
import Derived.Test.YtlhjifpomchnfaaGreatDoorCodA
import Derived.Test.YtlhjifpomchnfaaGreatDoorPls
import Derived.Test.YtlhjifpomchnfaaGreatDoorPoAA
namespace Go.Proofs.YtlhjifpomchnfaaGreatDoor
open Go.RowKit

/-- a domain and half of it -/
structure Dh (w : World) (q b d h m : Nat) (r s : Int) : Prop where
  dom : DO w q b d (2 * m) r s
  half : DO w q b h m (r * r % (q : Int)) (s * s % (q : Int))
theorem Dh.step {w w' : World} {q b d h m : Nat} {r s : Int} (D : Dh w q b d h m r s) (e : Below w.heap.size w w') : Dh w' q b d h m r s := ⟨D.dom.step e, D.half.step e⟩
end Go.Proofs.YtlhjifpomchnfaaGreatDoor

namespace Go.Proofs.YtlhjifpomchnfaaGreatDoor
open Go.RowKit

end Go.Proofs.YtlhjifpomchnfaaGreatDoor

namespace Go.Proofs.YtlhjifpomchnfaaGreatDoor
open Go.RowKit Pol

theorem ps_zero {f : Nat → Int} {n : Nat} (x : Int) (h : ∀ i, i < n → f i = 0) : Pol.ps f x n = 0 := by
  rw [ps_sm, Dom.sm_same (g := fun _ => 0) (fun i hi => by rw [h i hi]; omega), Dom.sm_zero]
end Go.Proofs.YtlhjifpomchnfaaGreatDoor

namespace Go.Proofs.YtlhjifpomchnfaaGreatDoor
open Go.RowKit

end Go.Proofs.YtlhjifpomchnfaaGreatDoor

namespace Go.Proofs.YtlhjifpomchnfaaGreatDoor
open Go.RowKit

end Go.Proofs.YtlhjifpomchnfaaGreatDoor

namespace Go.Proofs.YtlhjifpomchnfaaGreatDoor
open Go.RowKit

/-- the domain, the reference's, and what was there ahead -/
structure Sit (w0 w : World) (q b d N g : Nat) (r t : Int) : Prop where
  dom : DO w q b d N r t
  quad : w.rowIs g 39 4 (quad (.int .i64 q) (.int .i64 N) (.int .i64 t) (.int .i64 r))
  below : Below w0.heap.size w0 w
  laid : Laid w

theorem Sit.step {w0 w w' : World} {q b d N g : Nat} {r t : Int} (h : Sit w0 w q b d N g r t) (e : Below w.heap.size w w') : Sit w0 w' q b d N g r t :=
  ⟨h.dom.step e, h.quad.of_block (e.block g h.quad.lt), h.below.trans (e.mono h.below.size), h.laid.below e⟩

theorem Sit.cells {w0 w : World} {q b d N g : Nat} {r t : Int} (h : Sit w0 w q b d N g r t) : w.cell? ⟨g, 0, none⟩ = some (.int .i64 q) ∧ w.cell? ⟨g, 1, none⟩ = some (.int .i64 N) ∧ w.cell? ⟨g, 2, none⟩ = some (.int .i64 t) ∧ w.cell? ⟨g, 3, none⟩ = some (.int .i64 r) :=
  ⟨h.quad.cell (i := 0) (by omega), h.quad.cell (i := 1) (by omega), h.quad.cell (i := 2) (by omega), h.quad.cell (i := 3) (by omega)⟩

theorem DO.of {w : World} {q k b d r : Nat} {s : Int} (hg : GoodAt q k s) (hr : RootIs q ((2 ^ k : Nat) : Int) r) (hc : w.cell? ⟨b, 0, none⟩ = some (.int .i64 q)) (hd : DomAt w d b ((2 ^ k : Nat) : Int) r (s % (q : Int))) : DO w q b d (2 ^ k) r (s % (q : Int)) := by
  obtain ⟨h1, h2⟩ := root_ord2 hg.pr hg.h3 hg.hd hr
  obtain ⟨t0, t1⟩ := emod_bounds s q hg.h3
  exact ⟨hg.pr, hg.h3, hg.h4, hc, hd, ⟨k, hg.hk, rfl⟩, by omega, by omega, h1, t0, t1, not_dvd_of_emod hg.hs⟩

end Go.Proofs.YtlhjifpomchnfaaGreatDoor

namespace Go.Proofs.YtlhjifpomchnfaaGreatDoor
open Go.RowKit

/-- a field with a sponge, and a domain -/
structure GoodT (q k : Nat) (s : Int) : Prop where
  at' : GoodAt q k s
  h23 : 23 ≤ q
end Go.Proofs.YtlhjifpomchnfaaGreatDoor
