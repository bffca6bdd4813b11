/- Law WholeAgain. -/
import Derived.Test.YtcajofdmadpmoaaDoorWbAN
import Derived.Test.YtcajofdmadpmoaaDoorWbJ
namespace Go.Proofs.YtcajofdmadpmoaaDoor
open Go.RowKit

/-- bytes of one's own, as an argument -/
theorem OwnB.by {base : Nat} {w : World} {v : Value} {bs : List Nat} (h : OwnB base w v bs) : ∃ a c, v = .slice a bs.length c ∧ ByR w.heap.size w a c bs := by
  have h0 := h
  rcases h.2 with ⟨rfl, hn⟩ | ⟨g, cap, cur, rfl, _, hg, hr, _⟩
  · exact ⟨none, 0, by rw [hn], ⟨fun k hk => by omega, by omega, fun _ => rfl⟩⟩
  · refine ⟨some ⟨g, 0, none⟩, cap, rfl, ⟨fun k hk => ?_, hr, fun e => by cases e⟩⟩
    refine ⟨g, 0, rfl, (Array.getElem?_eq_some_iff.1 hg).1, ?_⟩
    rw [Nat.zero_add, h0.cellAt k (by omega)]
    simp [u8s, bat, hk]
theorem lstR_nil (n : Nat) (w : World) : LstR n w none 0 [] := ⟨fun _ hk => absurd hk (Nat.not_lt_zero _), Nat.zero_le _, fun _ => rfl⟩
theorem lstF_nil (n : Nat) (w : World) : LstF n w none 0 [] := ⟨fun _ hk => absurd hk (Nat.not_lt_zero _), Nat.zero_le _, fun _ => rfl⟩
end Go.Proofs.YtcajofdmadpmoaaDoor
