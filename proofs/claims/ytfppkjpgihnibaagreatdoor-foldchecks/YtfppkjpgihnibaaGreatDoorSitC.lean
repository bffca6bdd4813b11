/- What lies still while a law on codewords goes on: the domain on both sides. -/
import Derived.Test.YtfppkjpgihnibaaGreatDoorCods
import Derived.Test.YtfppkjpgihnibaaGreatDoorCodB
import Derived.Test.YtfppkjpgihnibaaGreatDoorLawDValues
namespace Go.Proofs.YtfppkjpgihnibaaGreatDoor
open Go.RowKit

/-- the domain, the reference's, and what was there ahead -/
structure Sit (w0 w : World) (q b d N g : Nat) (r t : Int) : Prop where
  dom : DO w q b d N r t
  quad : w.rowIs g 26 4 (quad (.int .i64 q) (.int .i64 N) (.int .i64 t) (.int .i64 r))
  below : Below w0.heap.size w0 w
  laid : Laid w

theorem Sit.step {w0 w w' : World} {q b d N g : Nat} {r t : Int} (h : Sit w0 w q b d N g r t) (e : Below w.heap.size w w') : Sit w0 w' q b d N g r t :=
  ⟨h.dom.step e, h.quad.of_block (e.block g h.quad.lt), h.below.trans (e.mono h.below.size), h.laid.below e⟩

theorem Sit.cells {w0 w : World} {q b d N g : Nat} {r t : Int} (h : Sit w0 w q b d N g r t) : w.cell? ⟨g, 0, none⟩ = some (.int .i64 q) ∧ w.cell? ⟨g, 1, none⟩ = some (.int .i64 N) ∧ w.cell? ⟨g, 2, none⟩ = some (.int .i64 t) ∧ w.cell? ⟨g, 3, none⟩ = some (.int .i64 r) :=
  ⟨h.quad.cell (i := 0) (by omega), h.quad.cell (i := 1) (by omega), h.quad.cell (i := 2) (by omega), h.quad.cell (i := 3) (by omega)⟩

theorem DO.of {w : World} {q k b d r : Nat} {s : Int} (hg : GoodAt q k s) (hr : RootIs q ((2 ^ k : Nat) : Int) r) (hc : w.cell? ⟨b, 0, none⟩ = some (.int .i64 q)) (hd : DomAt w d b ((2 ^ k : Nat) : Int) r (s % (q : Int))) : DO w q b d (2 ^ k) r (s % (q : Int)) := by
  obtain ⟨h1, h2⟩ := root_ord2 hg.pr hg.h3 hg.hd hr
  obtain ⟨t0, t1⟩ := emod_bounds s q hg.h3
  exact ⟨hg.pr, hg.h3, hg.h4, hc, hd, ⟨k, hg.hk, rfl⟩, by omega, by omega, h1, t0, t1, not_dvd_of_emod hg.hs⟩

theorem sit_of {w w1 : World} {q k b d r : Nat} {s : Int} (hg : GoodAt q k s) (hL : Laid w) (hr : RootIs q ((2 ^ k : Nat) : Int) r) (hc : w1.cell? ⟨b, 0, none⟩ = some (.int .i64 q)) (hd : DomAt w1 d b ((2 ^ k : Nat) : Int) r (s % (q : Int))) (hb : Below w.heap.size w w1) :
    Sit w (w1.alloc (.cells #[.int .i64 q, .int .i64 ((2 ^ k : Nat) : Int), .int .i64 (s % (q : Int)), .int .i64 r] 26)) q b d (2 ^ k) w1.heap.size r (s % (q : Int)) := by
  have hba : Below w1.heap.size w1 (w1.alloc (.cells #[.int .i64 q, .int .i64 ((2 ^ k : Nat) : Int), .int .i64 (s % (q : Int)), .int .i64 r] 26)) := (Below.refl _ _).alloc (Nat.le_refl _) _
  exact ⟨(DO.of hg hr hc hd).step hba, quad_new w1 26 _ _ _ _, hb.trans (hba.mono hb.size), (hL.below hb).below hba⟩

end Go.Proofs.YtfppkjpgihnibaaGreatDoor
