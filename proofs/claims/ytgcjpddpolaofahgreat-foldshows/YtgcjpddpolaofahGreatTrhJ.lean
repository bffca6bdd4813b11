/- What is opened: plain facts. -/
import Derived.Test.YtgcjpddpolaofahGreatTrhq
import Derived.Test.YtgcjpddpolaofahGreatTres
namespace Go.Proofs.YtgcjpddpolaofahGreat
open Go.RowKit

theorem ndf_four (q n : Nat) : ∀ (k : Nat) (rows : List (List Int)) (ps : List Int) (first : Int) (x : List Int), x ∈ ndf q n k rows ps first → x.length = 4
  | 0, _, _, _, _, hx => by simp [ndf] at hx
  | k + 1, rows, ps, first, x, hx => by
    simp only [ndf] at hx
    split at hx
    · rw [List.mem_singleton] at hx
      rw [hx]
      exact rtf_len _ _ _ _ (by omega)
    · split at hx
      · cases hx
      · rcases List.mem_append.1 hx with h | h
        · exact ndf_four q n k _ _ _ x h
        · exact ndf_four q n k _ _ _ x h
theorem rat_mem {rs : List (List Int)} {k : Nat} (h : k < rs.length) : rat rs k ∈ rs := by
  show rs.getD k [] ∈ rs
  rw [List.getD_eq_getElem?_getD, List.getElem?_eq_getElem h, Option.getD_some]
  exact List.getElem_mem h
theorem once_len {N : Nat} {ps os : List Int} (h : OnceIs ps os) (hin : ∀ x, x ∈ ps → 0 ≤ x ∧ x < (N : Int)) : os.length ≤ N := asc_count os 0 N h.1 (fun x hx => by have := hin x ((h.2 x).1 hx); omega)
theorem any_range {N : Nat} {ps : List Int} (h : ps.any (lackb 0 N) = false) : ∀ x, x ∈ ps → 0 ≤ x ∧ x < (N : Int) := fun x hx => by
  have := List.any_eq_false.1 h x hx
  simp [lackb] at this
  omega
theorem slr_nil (w : World) : SlR w [] (.slice none 0 0) := ⟨none, 0, rfl, ⟨fun _ hi => absurd hi (Nat.not_lt_zero _), Nat.zero_le _, fun _ => rfl⟩, fun h => absurd h (Nat.lt_irrefl _)⟩
theorem ascN_once {N : Nat} {ps os : List Int} (h : OnceIs ps os) (hin : ∀ x, x ∈ ps → 0 ≤ x ∧ x < (N : Int)) : AscN (N : Int) os := fun j hj => by
  have hb := hin (zat os j) ((h.2 _).1 (zat_mem hj))
  refine ⟨hb.1, hb.2, fun h0 => ?_⟩
  have := List.pairwise_iff_getElem.1 h.1 (j - 1) j (by omega) hj (by omega)
  simpa [zat, hj, show j - 1 < os.length by omega] using this
theorem shw_fits {q : Nat} (h3 : 3 ≤ q) (h4 : q ≤ 2147483647) {rows : List (List Int)} {os : List Int} (hfr : FitsR rows) (ha : AscN (rows.length : Int) os) : FitsR (shw q rows os) := fun k hk => by
  rw [shw_len] at hk
  rw [rat_shw hk]
  have h := ha k hk
  refine ⟨elr_fits h3 h4 _, ?_⟩
  unfold elr
  rw [ls_len]
  exact (hfr _ (by omega)).2
theorem ndf_dgst {q : Nat} (h3 : 3 ≤ q) (n : Nat) {rows : List (List Int)} (os : List Int) (h1 : 1 ≤ rows.length) {k : Nat} (hk : k < (ndf q n rows.length rows os 0).length) : Dgst q (rat (ndf q n rows.length rows os 0) k) := by
  have hm := rat_mem hk
  generalize rat (ndf q n rows.length rows os 0) k = x at *
  rw [ndf_all q n rows os h1] at hm
  obtain ⟨g, _, e⟩ := List.mem_map.1 hm
  rw [← e]
  exact DR_dgst h3 n rows g.1 g.2
theorem ndf_fits {q : Nat} (h3 : 3 ≤ q) (h4 : q ≤ 2147483647) (n : Nat) {rows : List (List Int)} (os : List Int) (h1 : 1 ≤ rows.length) : FitsR (ndf q n rows.length rows os 0) := fun k hk => by
  have := ndf_dgst h3 n os h1 hk
  exact ⟨this.fits h4, by rw [this.1]; omega⟩
theorem rtf_fitsR {q : Nat} (h3 : 3 ≤ q) (h4 : q ≤ 2147483647) (n : Nat) {rows : List (List Int)} (h1 : 1 ≤ rows.length) : Fits (rtf q n rows.length rows) := by
  rw [← DR_all h1]
  exact (DR_dgst h3 n rows 0 rows.length).fits h4
theorem samb_shown {q : Nat} {r : List Int} : samb q r (elr q r) = true := by
  rw [samb_iff, ← elr_map, ← elr_map, elr_map q (elr q r), elr_map q r, List.map_map]
  apply List.map_congr_left
  intro x _
  exact (Int.emod_emod_of_dvd _ (Int.dvd_refl _)).symm

end Go.Proofs.YtgcjpddpolaofahGreat
