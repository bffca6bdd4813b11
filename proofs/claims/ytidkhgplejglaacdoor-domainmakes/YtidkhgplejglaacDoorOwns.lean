/- Lists that are gathered by append: what they hold can be read. -/
import Derived.Test.YtidkhgplejglaacDoorMem
import Derived.Test.YtidkhgplejglaacDoorInts
import Derived.Deep.OwnRows
namespace Go.Proofs.YtidkhgplejglaacDoor
open Go.RowKit

theorem rowZ_of_B {n0 : Nat} {w : World} {a : Option Addr} {zs : List Int} (cap : Nat) (h : RowB n0 w a zs) : RowZ w (.slice a zs.length cap) zs :=
  ⟨a, cap, rfl, fun k hk => by
    obtain ⟨b, o, h1, _, h3⟩ := h k hk
    exact ⟨b, o, h1, h3⟩⟩

/-- a new list that is owned can be read -/
theorem rowB_of_owns {w : World} {base : Nat} {v : Value} {zs : List Int} (h : w.ownsRow base 3 1 v zs.length (zs.map (Value.int .i64))) : ∃ a cap, v = .slice a zs.length cap ∧ RowB w.heap.size w a zs := by
  rcases h.2 with ⟨h1, h2⟩ | ⟨g, cap, cur, hv, _, hg, _⟩
  · refine ⟨none, 0, by rw [h1, h2], fun k hk => by omega⟩
  · refine ⟨some ⟨g, 0, none⟩, cap, hv, fun k hk => ⟨g, 0, rfl, (Array.getElem?_eq_some_iff.1 hg).1, ?_⟩⟩
    have := h.cells (g := g) (by rw [hv]; rfl) k (.int .i64 (zat zs k)) (by simp [zat, hk])
    have hadd : (⟨g, 0, none⟩ : Addr).add k = ⟨g, k, none⟩ := by unfold Addr.add; split <;> simp_all
    rw [hadd] at this
    rw [Nat.zero_add]
    exact this

/-- a list that can be read, with its room -/
structure Lst (n0 : Nat) (w : World) (a : Option Addr) (cap : Nat) (zs : List Int) : Prop where
  row : RowB n0 w a zs
  room : zs.length ≤ cap
  nil : a = none → cap = 0

theorem Lst.below {n0 : Nat} {A B : World} {a : Option Addr} {cap : Nat} {zs : List Int} (h : Below n0 A B) (r : Lst n0 A a cap zs) : Lst n0 B a cap zs := ⟨r.row.below h, r.room, r.nil⟩
theorem Lst.mono {n0 n1 : Nat} {A : World} {a : Option Addr} {cap : Nat} {zs : List Int} (h : n0 ≤ n1) (r : Lst n0 A a cap zs) : Lst n1 A a cap zs := ⟨r.row.mono h, r.room, r.nil⟩
theorem Lst.none (n0 : Nat) (w : World) : Lst n0 w none 0 [] := ⟨fun k hk => by simp at hk, by simp, fun _ => rfl⟩

theorem lst_of_owns {w : World} {base : Nat} {v : Value} {zs : List Int} (h : w.ownsRow base 3 1 v zs.length (zs.map (Value.int .i64))) : ∃ a cap, v = .slice a zs.length cap ∧ Lst w.heap.size w a cap zs := by
  obtain ⟨a, cap, h1, h2⟩ := rowB_of_owns h
  refine ⟨a, cap, h1, h2, ?_, ?_⟩
  · rcases h.2 with ⟨g1, g2⟩ | ⟨g, c, cur, hv, _, _, hn, _⟩
    · omega
    · rw [h1] at hv; injection hv with _ _ e3; omega
  · intro ha
    rcases h.2 with ⟨g1, g2⟩ | ⟨g, c, cur, hv, _⟩
    · rw [h1] at g1; injection g1
    · rw [h1, ha] at hv; injection hv with e1; cases e1

/-- so many, each by its place -/
def ls (F : Nat → Int) (k : Nat) : List Int := (List.range k).map F
theorem ls_len (F : Nat → Int) (k : Nat) : (ls F k).length = k := by simp [ls]
theorem ls_succ (F : Nat → Int) (k : Nat) : ls F (k + 1) = ls F k ++ [F k] := by simp [ls, List.range_succ]
theorem ls_at (F : Nat → Int) (k j : Nat) (h : j < k) : zat (ls F k) j = F j := by simp [ls, zat, h]

theorem owns_succ {w : World} {base : Nat} {v : Value} {zs : List Int} {x : Int} (h : w.ownsRow base 3 1 v (zs.length + 1) (zs.map (Value.int .i64) ++ [.int .i64 x])) : w.ownsRow base 3 1 v (zs ++ [x]).length ((zs ++ [x]).map (Value.int .i64)) := by
  rw [List.length_append, List.length_singleton, List.map_append]; exact h

theorem owns_zeros (w : World) (k : Nat) (hk : k ≤ maxLen) : (w.alloc (.cells (madeCells #[.int .i64 0] k) 3)).ownsRow w.heap.size 3 1 (.slice (some ⟨w.heap.size, 0, none⟩) k k) (List.replicate k (0 : Int)).length ((List.replicate k (0 : Int)).map (Value.int .i64)) := by
  have hs : (madeCells #[Value.int .i64 0] k).size = k := by simp [madeCells]
  refine ⟨by simp, .inr ⟨w.heap.size, k, _, by simp, Nat.le_refl _, heap_alloc_new w _, by simp, hk, by omega, ?_⟩⟩
  apply List.ext_getElem
  · simp [hs]
  · intro j h1 h2
    simp [madeCells, Nat.mod_one]

end Go.Proofs.YtidkhgplejglaacDoor
