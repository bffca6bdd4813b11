/- Package sums: total, allFixed, round. Package sums: every, areTables, isShown. SumsExtends: the walk. -/
import Derived.Test.YtlhjifpomchnfaaGreatDoorPoAL
import Derived.Test.YtlhjifpomchnfaaGreatDoorSpgs
namespace Go.Proofs.YtlhjifpomchnfaaGreatDoor
open Go.RowKit

/-- rows of rows that lie in blocks of a kind -/
structure TabP (P : Nat → Prop) (w : World) (a : Option Addr) (cap : Nat) (rows : List (List Int)) : Prop where
  row : ∀ k, k < rows.length → ∃ b o ak ck, a = some ⟨b, o, none⟩ ∧ P b ∧ w.cell? ⟨b, o + k, none⟩ = some (.slice ak (rat rows k).length ck) ∧ RowP P w ak (rat rows k) ∧ (rat rows k).length ≤ ck ∧ (ak = none → ck = 0)
  room : rows.length ≤ cap
  nil : a = none → cap = 0
theorem TabP.lst {P : Nat → Prop} {w : World} {a : Option Addr} {cap n0 : Nat} {rows : List (List Int)} (h : TabP P w a cap rows) (hP : ∀ b, P b → b < n0) : LstR n0 w a cap rows :=
  ⟨fun k hk => by
    obtain ⟨b, o, ak, ck, h1, h2, h3, h4, h5, h6⟩ := h.row k hk
    exact ⟨b, o, ak, ck, h1, hP b h2, h3, ⟨fun j hj => by
      obtain ⟨b', o', g1, g2, g3⟩ := h4 j hj
      exact ⟨b', o', g1, hP b' g2, g3⟩, h5, h6⟩⟩, h.room, h.nil⟩
theorem TabP.keep {P : Nat → Prop} {w w' : World} {a : Option Addr} {cap : Nat} {rows : List (List Int)} (h : TabP P w a cap rows) (e : ∀ b, P b → w'.heap[b]? = w.heap[b]?) : TabP P w' a cap rows :=
  ⟨fun k hk => by
    obtain ⟨b, o, ak, ck, h1, h2, h3, h4, h5, h6⟩ := h.row k hk
    exact ⟨b, o, ak, ck, h1, h2, (World.cell?_of_block (w := w) (a := ⟨b, o + k, none⟩) (e b h2)).trans h3, fun j hj => by
      obtain ⟨b', o', g1, g2, g3⟩ := h4 j hj
      exact ⟨b', o', g1, g2, (World.cell?_of_block (w := w) (a := ⟨b', o' + j, none⟩) (e b' g2)).trans g3⟩, h5, h6⟩, h.room, h.nil⟩
theorem TabP.imp {P Q : Nat → Prop} {w : World} {a : Option Addr} {cap : Nat} {rows : List (List Int)} (h : TabP P w a cap rows) (e : ∀ b, P b → Q b) : TabP Q w a cap rows :=
  ⟨fun k hk => by
    obtain ⟨b, o, ak, ck, h1, h2, h3, h4, h5, h6⟩ := h.row k hk
    exact ⟨b, o, ak, ck, h1, e b h2, h3, fun j hj => by
      obtain ⟨b', o', g1, g2, g3⟩ := h4 j hj
      exact ⟨b', o', g1, e b' g2, g3⟩, h5, h6⟩, h.room, h.nil⟩

theorem ArrI.rowE {w : World} {g n n0 : Nat} {t : TypeId} {f : Nat → Int} (h : ArrI w g t n f) {zs : List Int} (hn : zs.length = n) (hz : ∀ j, j < n → zat zs j = f j) (hg : g < n0) : RowB n0 w (some ⟨g, 0, none⟩) zs := fun k hk => ⟨g, 0, rfl, hg, by rw [Nat.zero_add, h.cell (by omega), hz k (by omega)]⟩
theorem ArrI.lst {w : World} {g n n0 : Nat} {t : TypeId} {f : Nat → Int} (h : ArrI w g t n f) {zs : List Int} (hn : zs.length = n) (hz : ∀ j, j < n → zat zs j = f j) (hg : g < n0) : Lst n0 w (some ⟨g, 0, none⟩) n zs := ⟨h.rowE hn hz hg, by omega, fun e => by cases e⟩

end Go.Proofs.YtlhjifpomchnfaaGreatDoor

namespace Go.Proofs.YtlhjifpomchnfaaGreatDoor
open Go.RowKit

end Go.Proofs.YtlhjifpomchnfaaGreatDoor

namespace Go.Proofs.YtlhjifpomchnfaaGreatDoor
open Go.RowKit

end Go.Proofs.YtlhjifpomchnfaaGreatDoor
