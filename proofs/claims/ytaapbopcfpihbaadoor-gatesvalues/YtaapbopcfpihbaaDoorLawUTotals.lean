/- SumsTotals: the walk. -/
import Derived.Test.YtaapbopcfpihbaaDoorLawUExtends
namespace Go.Proofs.YtaapbopcfpihbaaDoor
open Go.RowKit

theorem InR.own {W w' : World} {a : Option Addr} {c bs : Nat} {rows : List (List Int)} {v : Value} (h : InR W a c rows) (ho : OwnR bs w' v rows) : ∃ ao co, v = .slice ao rows.length co ∧ InR w' ao co rows := by
  obtain ⟨ao, co, e, hl⟩ := ho.lst
  exact ⟨ao, co, e, h.len, h.lens, h.fit, hl⟩
theorem rows_same {w : World} {a1 a2 : Option Addr} {c1 c2 : Nat} {rows : List (List Int)} (h1 : InR w a1 c1 rows) (h2 : InR w a2 c2 rows) : Calls Tryd.prog 12 #[.slice a1 rows.length c1, .slice a2 rows.length c2] w fun e w' => e = .returned (.bool true) ∧ ∃ n, w' = w.drewN n := by
  have h := srows_any c1 c2 a1 a2 rows rows w.heap.size w.heap.size w (by have := h1.len; omega) (by have := h1.len; omega) (fun k hk => by have := h1.lens k hk; omega) (fun k hk => by have := h1.lens k hk; omega) h1.lst h2.lst
  rw [decide_eq_true rfl] at h
  exact h
end Go.Proofs.YtaapbopcfpihbaaDoor
