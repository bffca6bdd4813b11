/- Programs as text, plainly: the grammar ends. Package source: bytes and words. -/
import Derived.Test.YtjibpfdhaejfdaaDoorSrA
import Derived.Test.YtjibpfdhaejfdaaDoorFld
import Derived.Lib.Strings
import Derived.Shelf.Small.Strs
import Derived.Shelf.Strings.Prefix
namespace Go.Proofs.YtjibpfdhaejfdaaDoor

/-- a result that is one, behind a place -/
def Res.Fw {α : Type} (N a : Nat) : Res α → Prop
  | .ok _ j => a ≤ j ∧ j ≤ N
  | .bad _ _ => True
  | .out => False
theorem Res.Fw.bind {α β : Type} {N a b : Nat} {r : Res α} {f : α → Nat → Res β} (h : r.Fw N a) (hf : ∀ x j, r = .ok x j → a ≤ j → j ≤ N → (f x j).Fw N b) : (r.bind f).Fw N b := by
  cases r with
  | ok x j => exact hf x j rfl h.1 h.2
  | bad e at' => trivial
  | out => exact h
theorem Res.Fw.mono {α : Type} {N a b : Nat} {r : Res α} (h : r.Fw N a) (hb : b ≤ a) : r.Fw N b := by
  cases r with
  | ok x j => exact ⟨Nat.le_trans hb h.1, h.2⟩
  | bad e at' => trivial
  | out => exact h
end Go.Proofs.YtjibpfdhaejfdaaDoor

namespace Go.Proofs.YtjibpfdhaejfdaaDoor
open Go.RowKit

/-- a string of bytes -/
def bs (l : List UInt8) : ByteArray := ⟨l.toArray⟩
theorem bs_size (l : List UInt8) : (bs l).size = l.length := by simp [bs, ByteArray.size]
theorem bs_of (s : ByteArray) : bs s.data.toList = s := by simp [bs]
theorem bs_get (l : List UInt8) (i : Nat) (h : i < (bs l).size) : (bs l)[i] = l[i]'(by rw [bs_size] at h; exact h) := by simp [bs, ByteArray.getElem_eq_getElem_data]
theorem bs_ext (l : List UInt8) (a b : Nat) : (bs l).extract a b = bs ((l.take b).drop a) := by
  apply ByteArray.ext
  simp [bs, ByteArray.data_extract, List.drop_take]
theorem bs_app (l m : List UInt8) : bs l ++ bs m = bs (l ++ m) := by
  apply ByteArray.ext
  simp [bs]
end Go.Proofs.YtjibpfdhaejfdaaDoor
