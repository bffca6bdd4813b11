/- SumsTotals: the walk. -/
import Derived.Test.YtecaifjbmfianagGreatDoorLawUExtends
namespace Go.Proofs.YtecaifjbmfianagGreatDoor
open Go.RowKit

theorem ovr_of {rows : List (List Int)} (h : 0 ≤ ovr rows) : ∃ v : Nat, v ≤ 12 ∧ ovr rows = v ∧ 1 ≤ rows.length ∧ rows.length ≤ 4 ∧ ∀ k, k < rows.length → (rat rows k).length = 2 ^ v := by
  unfold ovr at h ⊢
  split at h
  · rename_i hc
    rw [if_pos hc]
    obtain ⟨v, e1, e2, e3⟩ := vrs_of h
    exact ⟨v, e1, e3, hc.1, hc.2.1, fun k hk => by rw [hc.2.2 k hk, e2]⟩
  · omega
theorem InR.own {W w' : World} {a : Option Addr} {c bs : Nat} {rows : List (List Int)} {v : Value} (h : InR W a c rows) (ho : OwnR bs w' v rows) : ∃ ao co, v = .slice ao rows.length co ∧ InR w' ao co rows := by
  obtain ⟨ao, co, e, hl⟩ := ho.lst
  exact ⟨ao, co, e, h.len, h.lens, h.fit, hl⟩
theorem two12 {v : Nat} (h : v ≤ 12) : 2 ^ v ≤ 4096 := by
  have : 2 ^ v ≤ 2 ^ 12 := Nat.pow_le_pow_right (by omega) h
  omega

end Go.Proofs.YtecaifjbmfianagGreatDoor
