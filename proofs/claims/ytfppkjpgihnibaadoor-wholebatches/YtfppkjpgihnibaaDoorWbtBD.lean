/- attestref6.Run. Steps of a walk: their bounds. Package rules and its reference: what shows that something is not 0. Package rules: a row that shows one step. Package rules: Said, RowsOf, has, brokenIn, isWide. -/
import Derived.Test.YtfppkjpgihnibaaDoorWbtBC
import Derived.Test.YtfppkjpgihnibaaDoorWbtAI
import Derived.Test.YtfppkjpgihnibaaDoorWbtAT
import Derived.Test.YtfppkjpgihnibaaDoorWbtAH
import Derived.Test.YtfppkjpgihnibaaDoorWbtAV
import Derived.Test.YtfppkjpgihnibaaDoorFld
import Derived.Test.YtfppkjpgihnibaaDoorWbtBA
import Derived.Laws.CopyOwn
import Derived.Deep.RegionLaw
import Derived.Test.YtfppkjpgihnibaaDoorWbtAO
namespace Go.Proofs.YtfppkjpgihnibaaDoor
open Go.RowKit Go.Maps

end Go.Proofs.YtfppkjpgihnibaaDoor

namespace Go.Proofs.YtfppkjpgihnibaaDoor
open Go.RowKit Go.Maps

end Go.Proofs.YtfppkjpgihnibaaDoor

namespace Go.Proofs.YtfppkjpgihnibaaDoor
open Go.RowKit

end Go.Proofs.YtfppkjpgihnibaaDoor

namespace Go.Proofs.YtfppkjpgihnibaaDoor
open Go.RowKit Go.Maps

/-- a row of numbers that is a block, whole -/
def BRow (g : Nat) (w : World) (l : List Int) : Prop := w.heap[g]? = some (.cells (l.map (Value.int .i64)).toArray 3 (0, 0))
theorem BRow.rowIs {g : Nat} {w : World} {l : List Int} (h : BRow g w l) : w.rowIs g 3 l.length (fun i => .int .i64 (zat l i)) :=
  ⟨_, h, by simp, fun i hi => by simp [zat, hi]⟩
theorem brow_of {g : Nat} {w : World} {l : List Int} (h : w.rowIs g 3 l.length (fun i => .int .i64 (zat l i))) : BRow g w l := by
  obtain ⟨c, hb, hs, hc⟩ := h
  unfold BRow
  rw [hb]
  congr 2
  apply Array.ext
  · simpa using hs
  · intro i h1 h2
    have h4 : i < l.length := by simpa using h2
    have := hc i h4
    rw [Array.getElem?_eq_getElem h1] at this
    injection this with this
    rw [this]
    simp [zat, h4]
theorem BRow.set {g : Nat} {w : World} {l : List Int} (h : BRow g w l) {k : Nat} (x : Int) (hk : k < l.length) : BRow g (w.setCell ⟨g, k, none⟩ (.int .i64 x)) (l.set k x) := by
  apply brow_of
  rw [List.length_set]
  have := h.rowIs.set k (.int .i64 x)
  obtain ⟨c, h1, h2, h3⟩ := this
  refine ⟨c, h1, h2, fun i hi => ?_⟩
  rw [h3 i hi]
  show some (if i = k then Value.int .i64 x else .int .i64 (zat l i)) = some (.int .i64 (zat (l.set k x) i))
  rw [zat_set hk]
  split <;> rfl
theorem BRow.row {g : Nat} {w : World} {l : List Int} (h : BRow g w l) : IRow g w l :=
  ⟨(Array.getElem?_eq_some_iff.1 h).1, fun k hk => by simp [World.cell?, show w.heap[g]? = _ from h, zat, hk], fun j => by simp [World.frozen?, show w.heap[g]? = _ from h]⟩
theorem BRow.block {g : Nat} {w w' : World} {l : List Int} (h : BRow g w l) (e : w'.heap[g]? = w.heap[g]?) : BRow g w' l := e.trans h
end Go.Proofs.YtfppkjpgihnibaaDoor

namespace Go.Proofs.YtfppkjpgihnibaaDoor
open Go.RowKit Go.Maps

end Go.Proofs.YtfppkjpgihnibaaDoor
