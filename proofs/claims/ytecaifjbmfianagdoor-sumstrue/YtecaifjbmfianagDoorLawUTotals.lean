/- SumsTotals: the walk. -/
import Derived.Test.YtecaifjbmfianagDoorLawUExtends
namespace Go.Proofs.YtecaifjbmfianagDoor
open Go.RowKit

theorem ovr_of {rows : List (List Int)} (h : 0 ≤ ovr rows) : ∃ v : Nat, v ≤ 12 ∧ ovr rows = v ∧ 1 ≤ rows.length ∧ rows.length ≤ 4 ∧ ∀ k, k < rows.length → (rat rows k).length = 2 ^ v := by
  unfold ovr at h ⊢
  split at h
  · rename_i hc
    rw [if_pos hc]
    obtain ⟨v, e1, e2, e3⟩ := vrs_of h
    exact ⟨v, e1, e3, hc.1, hc.2.1, fun k hk => by rw [hc.2.2 k hk, e2]⟩
  · omega
theorem InR.own {W w' : World} {a : Option Addr} {c bs : Nat} {rows : List (List Int)} {v : Value} (h : InR W a c rows) (ho : OwnR bs w' v rows) : ∃ ao co, v = .slice ao rows.length co ∧ InR w' ao co rows := by
  obtain ⟨ao, co, e, hl⟩ := ho.lst
  exact ⟨ao, co, e, h.len, h.lens, h.fit, hl⟩
theorem rows_same {w : World} {a1 a2 : Option Addr} {c1 c2 : Nat} {rows : List (List Int)} (h1 : InR w a1 c1 rows) (h2 : InR w a2 c2 rows) : Calls Tryd.prog 16 #[.slice a1 rows.length c1, .slice a2 rows.length c2] w fun e w' => e = .returned (.bool true) ∧ ∃ n, w' = w.drewN n := by
  have h := srows_any c1 c2 a1 a2 rows rows w.heap.size w.heap.size w (by have := h1.len; omega) (by have := h1.len; omega) (fun k hk => by have := h1.lens k hk; omega) (fun k hk => by have := h1.lens k hk; omega) h1.lst h2.lst
  rw [decide_eq_true rfl] at h
  exact h
theorem two12 {v : Nat} (h : v ≤ 12) : 2 ^ v ≤ 4096 := by
  have : 2 ^ v ≤ 2 ^ 12 := Nat.pow_le_pow_right (by omega) h
  omega

end Go.Proofs.YtecaifjbmfianagDoor
