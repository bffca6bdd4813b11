/- attestlaw5.lives; FoldKeeps: the walk. -/
import Derived.Test.YtgcjpddpolaofahGreatDoorCods
import Derived.Test.YtgcjpddpolaofahGreatDoorPls
namespace Go.Proofs.YtgcjpddpolaofahGreatDoor
open Go.RowKit

theorem ls_congr {F G : Nat → Int} {m : Nat} (h : ∀ i, i < m → F i = G i) : ls F m = ls G m := by
  unfold ls
  apply List.map_congr_left
  intro j hj
  exact h j (List.mem_range.1 hj)
theorem lst_of_rowIs {w : World} {g n : Nat} {f : Nat → Int} (h : w.rowIs g 3 n (fun j => .int .i64 (f j))) : Lst w.heap.size w (some ⟨g, 0, none⟩) n (ls f n) :=
  ⟨fun k hk => by rw [ls_len] at hk; exact ⟨g, 0, rfl, h.lt, by rw [Nat.zero_add, h.cell hk, ls_at _ _ _ hk]⟩, by rw [ls_len]; exact Nat.le_refl _, fun e => by cases e⟩
/-- the values of a polynomial -/
def vlz (p n : Nat) (r s : Int) (zs : List Int) : List Int := ls (fun j => evz p zs (Dom.pt p s r j)) n
theorem vlz_len (p n : Nat) (r s : Int) (zs : List Int) : (vlz p n r s zs).length = n := ls_len _ _
theorem vlz_fits {p : Nat} (h3 : 3 ≤ p) (hm : p ≤ 2147483647) (n : Nat) (r s : Int) (zs : List Int) : Fits (vlz p n r s zs) := fun j hj => by
  rw [vlz_len] at hj
  unfold vlz
  rw [ls_at _ _ _ hj]
  have := evz_bounds p zs (Dom.pt p s r j) h3
  omega
theorem evz_more {p : Nat} (zs : List Int) (x : Int) {N : Nat} (h : zs.length ≤ N) : evz p zs x = Pol.ps (zat zs) x N % (p : Int) := by
  unfold evz
  rw [Dom.ps_stay (zat zs) x zs.length N h (fun j hj => by simp [zat, hj])]
/-- the values of a polynomial, folded, are those of its halves -/
theorem DO.fold_vlz {w : World} {p b d m : Nat} {r s : Int} (D : DO w p b d (2 * m) r s) (zs : List Int) (c : Int) (M : Nat) (hM : zs.length ≤ 2 * M) (B : Nat → Int) (hB : ∀ j, j < M → (p : Int) ∣ B j - Fol.evod (zat zs) c j) :
    Fol.foldz p m r s (vlz p (2 * m) r s zs) c = vlz p m (r * r % (p : Int)) (s * s % (p : Int)) (ls B M) := by
  have hp0 : 0 < p := by have := D.h3; omega
  have h := fun i (hi : i < m) => D.cir.fold_vals (zat zs) M (vlz p (2 * m) r s zs) (fun j hj => by
    unfold vlz
    rw [ls_at _ _ _ hj, evz_more zs _ hM]
    exact Pol.emod_dvd p _) c hi
  unfold vlz at h ⊢
  unfold Fol.foldz at h ⊢
  refine ls_congr (fun i hi => ?_)
  have h1 := h i hi
  rw [ls_at _ _ _ hi] at h1
  rw [evz_more (ls B M) _ (by rw [ls_len]; exact Nat.le_refl _)]
  have h2 := Pol.ps_congr (p := p) (f := zat (ls B M)) (g := Fol.evod (zat zs) c) (Dom.pt p (s * s % (p : Int)) (r * r % (p : Int)) i) M (fun j hj => by rw [ls_at _ _ _ hj]; exact hB j hj)
  have h3 := Fol.dvdt h1 (Fol.dvdn h2)
  have hb := Fol.pairz_bounds p (Dom.pt p s r i) (zat (ls (fun j => evz p zs (Dom.pt p s r j)) (2 * m)) i) (zat (ls (fun j => evz p zs (Dom.pt p s r j)) (2 * m)) (i + m)) c D.h3
  rw [← Int.emod_eq_of_lt hb.1 hb.2, Pol.emod_eq_iff hp0]
  exact h3

end Go.Proofs.YtgcjpddpolaofahGreatDoor
