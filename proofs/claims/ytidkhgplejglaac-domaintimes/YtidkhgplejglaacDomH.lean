/- slices.Clone of a list of numbers that is not empty. -/
import Derived.Test.YtidkhgplejglaacDomG
import Derived.Test.YtidkhgplejglaacOwns
import Derived.Lib.SliceRun
namespace Go.Proofs.Ytidkhgplejglaac
open Go.RowKit

theorem rowIs_of_owns {w : World} {base : Nat} {v : Value} {zs : List Int} (h : w.ownsRow base 3 1 v zs.length (zs.map (Value.int .i64))) (h0 : 0 < zs.length) :
    ∃ (g N : Nat) (F : Nat → Value), v = .slice (some ⟨g, 0, none⟩) zs.length N ∧ base ≤ g ∧ w.rowIs g 3 N F ∧ zs.length ≤ N ∧ ∀ j, j < zs.length → F j = .int .i64 (zat zs j) := by
  rcases h.2 with ⟨_, h2⟩ | ⟨g, cap, cur, hv, hb, hg, hn, _, hs, ht⟩
  · omega
  · refine ⟨g, cap, fun j => cur.getD j (.int .i64 0), hv, hb, ⟨cur, hg, by omega, fun i hi => ?_⟩, hn, fun j hj => ?_⟩
    · simp [show i < cur.size by omega]
    · have e : (cur.toList.take (zs.length * 1))[j]? = (zs.map (Value.int .i64))[j]? := by rw [ht]
      rw [List.getElem?_take, if_pos (by omega)] at e
      simp [hj, show j < cur.size by omega, zat] at e ⊢
      exact e

end Go.Proofs.Ytidkhgplejglaac
