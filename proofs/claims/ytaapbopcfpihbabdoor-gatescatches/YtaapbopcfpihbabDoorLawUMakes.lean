/- SumsMakes: the walk. -/
import Derived.Test.YtaapbopcfpihbabDoorLawUTotals
namespace Go.Proofs.YtaapbopcfpihbabDoor
open Go.RowKit

theorem tbs_len (p : Nat) (rows : List (List Int)) (drawn : List Int) (i : Nat) : (tbs p rows drawn i).length = rows.length := by
  induction i with
  | zero => rfl
  | succ i ih => rw [tbs, fixr_len, ih]
theorem tbs_lens {p : Nat} {rows : List (List Int)} {drawn : List Int} {v : Nat} (h : ∀ k, k < rows.length → (rat rows k).length = 2 ^ v) : ∀ i, i ≤ v → ∀ k, k < rows.length → (rat (tbs p rows drawn i) k).length = 2 ^ (v - i)
  | 0, _, k, hk => by rw [Nat.sub_zero]; exact h k hk
  | i + 1, hi, k, hk => by
    rw [tbs, fixr_rat (by rw [tbs_len]; exact hk), fixl_len, tbs_lens h i (by omega) k hk, show v - i = v - (i + 1) + 1 from by omega, Nat.pow_succ]
    omega
theorem tbs_fits {p : Nat} (h3 : 3 ≤ p) (hm : p ≤ 2147483647) {rows : List (List Int)} {drawn : List Int} (h : ∀ k, k < rows.length → Fits (rat rows k)) : ∀ i k, k < rows.length → Fits (rat (tbs p rows drawn i) k)
  | 0, k, hk => h k hk
  | i + 1, k, hk => by
    rw [tbs]
    exact fixr_fits h3 hm _ _ k (by rw [fixr_len, tbs_len]; exact hk)
theorem mkR_len {p : Nat} {rows : List (List Int)} {drawn : List Int} (h : mke p rows drawn = 0) : (mkR p rows drawn).length = drawn.length := by unfold mkR; rw [if_pos h]; simp
theorem mkR_rat {p : Nat} {rows : List (List Int)} {drawn : List Int} (h : mke p rows drawn = 0) {i : Nat} (hi : i < drawn.length) : rat (mkR p rows drawn) i = rndl p (tbs p rows drawn i) := by unfold mkR; rw [if_pos h]; simp [rat, hi]
theorem mkF_len {p : Nat} {rows : List (List Int)} {drawn : List Int} (h : mke p rows drawn = 0) : (mkF p rows drawn).length = rows.length := by unfold mkF; rw [if_pos h, ls_len]
theorem mkF_at {p : Nat} {rows : List (List Int)} {drawn : List Int} (h : mke p rows drawn = 0) {k : Nat} (hk : k < rows.length) : zat (mkF p rows drawn) k = zat (rat (tbs p rows drawn drawn.length) k) 0 % (p : Int) := by unfold mkF; rw [if_pos h, ls_at _ _ _ hk]

end Go.Proofs.YtaapbopcfpihbabDoor
