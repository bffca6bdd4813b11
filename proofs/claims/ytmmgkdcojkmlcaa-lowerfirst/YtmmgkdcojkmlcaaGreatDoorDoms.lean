/- Package domain's own numbers: which sizes have one bit alone; the last bits of a place. Package domain: mayBeSize and New. Package domain: Field, Size, Point, Points, Half. Package domain: Point and Half. Package domain: spread, the transform by halves. Package domain: wrapped and Values. Package domain: Values. slices.Clone of a list of numbers that is not empty. Package domain: Coefficients. Plain facts on what Values and Coefficients answer: the values of a product, the sum of all values, the way back; an element of the order of a size. What package attestref2 answers of domains: Fault, New, Points, Values, Half. attestlaw2's plain and lives: a domain without the chapter's answer; chapter 3's example. attestsame.Spoil writes to its own list alone: no other block that was there turns. attestlaw2's made: a domain on both sides, or none on both. -/
import Derived.Test.YtmmgkdcojkmlcaaGreatDoorFld
import Derived.Test.YtmmgkdcojkmlcaaGreatDoorPlain
import Derived.Laws.Bits64b
import Derived.KernelRfl
import Derived.RegionTactic
import Derived.Deep.QuietTactic
import Derived.BigQuiet
import Derived.Test.YtmmgkdcojkmlcaaGreatDoorLFAB
import Derived.StillTailTactics
import Derived.BigRegion
import Derived.Deep.RegionWith
import Derived.Test.YtmmgkdcojkmlcaaGreatDoorPls
import Derived.Lib.SliceRun
import Derived.OwnWalk
namespace Go.Proofs.YtmmgkdcojkmlcaaGreatDoor
open Go.RowKit

/-! ## bits.OnesCount at small numbers -/
end Go.Proofs.YtmmgkdcojkmlcaaGreatDoor

namespace Go.Proofs.YtmmgkdcojkmlcaaGreatDoor
open Go.RowKit

/-- a domain in memory -/
structure DomAt (w : World) (d b : Nat) (n r s : Int) : Prop where
  f : w.cell? ⟨d, 0, none⟩ = some (.pointer (some ⟨b, 0, none⟩))
  n : w.cell? ⟨d, 1, none⟩ = some (.int .i64 n)
  r : w.cell? ⟨d, 2, none⟩ = some (.int .i64 r)
  s : w.cell? ⟨d, 3, none⟩ = some (.int .i64 s)
theorem DomAt.lt {w : World} {d b : Nat} {n r s : Int} (h : DomAt w d b n r s) : d < w.heap.size := by
  rcases Nat.lt_or_ge d w.heap.size with g | g
  · exact g
  · have := h.f; simp [World.cell?, Array.getElem?_eq_none g] at this
theorem DomAt.below {w w' : World} {d b n0 : Nat} {n r s : Int} (h : DomAt w d b n r s) (e : Below n0 w w') (hd : d < n0) : DomAt w' d b n r s :=
  ⟨(e.cell (p := ⟨d, 0, none⟩) hd).trans h.f, (e.cell (p := ⟨d, 1, none⟩) hd).trans h.n, (e.cell (p := ⟨d, 2, none⟩) hd).trans h.r, (e.cell (p := ⟨d, 3, none⟩) hd).trans h.s⟩

end Go.Proofs.YtmmgkdcojkmlcaaGreatDoor

namespace Go.Proofs.YtmmgkdcojkmlcaaGreatDoor
open Go.RowKit

end Go.Proofs.YtmmgkdcojkmlcaaGreatDoor

namespace Go.Proofs.YtmmgkdcojkmlcaaGreatDoor
open Go.RowKit

end Go.Proofs.YtmmgkdcojkmlcaaGreatDoor

namespace Go.Proofs.YtmmgkdcojkmlcaaGreatDoor
open Go.RowKit

/-- of the blocks that were there, two alone have turned -/
structure Pair (g h : Nat) (w w' : World) : Prop where
  os : w'.os = w.os
  tape : w'.tape = w.tape
  output : w'.output = w.output
  size : w.heap.size ≤ w'.heap.size
  block : ∀ k, k < w.heap.size → k ≠ g → k ≠ h → w'.heap[k]? = w.heap[k]?
theorem Pair.refl (g h : Nat) (w : World) : Pair g h w w := ⟨rfl, rfl, rfl, Nat.le_refl _, fun _ _ _ _ => rfl⟩
theorem Pair.trans {g h : Nat} {a b c : World} (x : Pair g h a b) (y : Pair g h b c) : Pair g h a c :=
  ⟨y.os.trans x.os, y.tape.trans x.tape, y.output.trans x.output, Nat.le_trans x.size y.size, fun i h0 h1 h2 => (y.block i (Nat.lt_of_lt_of_le h0 x.size) h1 h2).trans (x.block i h0 h1 h2)⟩
theorem Pair.symm {g h : Nat} {a b : World} (x : Pair g h a b) : Pair h g a b := ⟨x.os, x.tape, x.output, x.size, fun i h0 h1 h2 => x.block i h0 h2 h1⟩
theorem Pair.drewN {g h : Nat} {a w : World} (x : Pair g h a w) (n : Nat) : Pair g h a (w.drewN n) := x.trans ⟨rfl, rfl, rfl, Nat.le_refl _, fun _ _ _ _ => rfl⟩
theorem Pair.drew {g h : Nat} {a w : World} (x : Pair g h a w) : Pair g h a w.drew := x.trans ⟨rfl, rfl, rfl, Nat.le_refl _, fun _ _ _ _ => rfl⟩
theorem Pair.setCell {g h : Nat} {a w : World} (x : Pair g h a w) {p : Addr} (hp : p.block = g ∨ p.block = h) (u : Value) : Pair g h a (w.setCell p u) :=
  x.trans ⟨rfl, rfl, rfl, by simp [World.setCell], fun k _ h1 h2 => Below.heap_setCell _ _ _ _ (by rcases hp with e | e <;> omega)⟩
theorem Pair.cell {g h : Nat} {w w' : World} (x : Pair g h w w') {p : Addr} (h0 : p.block < w.heap.size) (h1 : p.block ≠ g) (h2 : p.block ≠ h) : w'.cell? p = w.cell? p := World.cell?_of_block (w := w) (x.block p.block h0 h1 h2)
theorem Pair.alloc {g h : Nat} {a w : World} (x : Pair g h a w) (o : Obj) : Pair g h a (w.alloc o) :=
  x.trans ⟨rfl, rfl, rfl, by simp, fun k h0 _ _ => Go.Deep.blk_alloc_lt _ _ _ h0⟩
theorem Pair.below {g h n0 : Nat} {w w' : World} (x : Pair g h w w') (h0 : n0 ≤ w.heap.size) (hg : n0 ≤ g) (hh : n0 ≤ h) : Below n0 w w' :=
  ⟨x.os, x.tape, x.output, x.size, fun k hk => x.block k (by omega) (by omega) (by omega)⟩

end Go.Proofs.YtmmgkdcojkmlcaaGreatDoor

namespace Go.Proofs.YtmmgkdcojkmlcaaGreatDoor
open Go.RowKit

end Go.Proofs.YtmmgkdcojkmlcaaGreatDoor

namespace Go.Proofs.YtmmgkdcojkmlcaaGreatDoor
open Go.RowKit

end Go.Proofs.YtmmgkdcojkmlcaaGreatDoor

namespace Go.Proofs.YtmmgkdcojkmlcaaGreatDoor
open Go.RowKit

end Go.Proofs.YtmmgkdcojkmlcaaGreatDoor

namespace Go.Proofs.YtmmgkdcojkmlcaaGreatDoor
open Go.RowKit

end Go.Proofs.YtmmgkdcojkmlcaaGreatDoor

namespace Go.Proofs.YtmmgkdcojkmlcaaGreatDoor
open Go.RowKit

end Go.Proofs.YtmmgkdcojkmlcaaGreatDoor

namespace Go.Proofs.YtmmgkdcojkmlcaaGreatDoor
open Go.RowKit

end Go.Proofs.YtmmgkdcojkmlcaaGreatDoor

namespace Go.Proofs.YtmmgkdcojkmlcaaGreatDoor
open Go.RowKit

/-- a domain may be made of these -/
structure GoodAt (q k : Nat) (s : Int) : Prop where
  pr : Num.Prime q
  h3 : 3 ≤ q
  h4 : q ≤ 2147483647
  hk : k ≤ 16
  hd : (q - 1) % 2 ^ k = 0
  hs : ¬ s % (q : Int) = 0
def Good (p n s : Int) : Prop := ∃ q k : Nat, p = (q : Int) ∧ n = ((2 ^ k : Nat) : Int) ∧ GoodAt q k s

end Go.Proofs.YtmmgkdcojkmlcaaGreatDoor

namespace Go.Proofs.YtmmgkdcojkmlcaaGreatDoor
open Go.RowKit

theorem Pair.grown {g h : Nat} {a w w' : World} {row : Option Nat} (x : Pair g h a w) (hg : w.grownBy w' row) (hr : ∀ k, row = some k → k = g ∨ k = h) : Pair g h a w' :=
  x.trans ⟨hg.os, hg.tape, hg.output, hg.size, fun k hk h1 h2 => hg.block k hk (fun e => by rcases hr k e.symm with e | e <;> omega)⟩

end Go.Proofs.YtmmgkdcojkmlcaaGreatDoor

namespace Go.Proofs.YtmmgkdcojkmlcaaGreatDoor
open Go.RowKit

end Go.Proofs.YtmmgkdcojkmlcaaGreatDoor
