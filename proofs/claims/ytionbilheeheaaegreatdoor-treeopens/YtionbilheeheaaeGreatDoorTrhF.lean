/- Trees: the roots of groups of rows; what Open's nodes are. Plain. -/
import Derived.Test.YtionbilheeheaaeGreatDoorTrhE
namespace Go.Proofs.YtionbilheeheaaeGreatDoor
open Go.RowKit

/-- the rows of a group -/
def rws (rows : List (List Int)) (a b : Nat) : List (List Int) := (rows.drop a).take (b - a)
theorem rws_len {rows : List (List Int)} {a b : Nat} (h : b ≤ rows.length) : (rws rows a b).length = b - a := by
  unfold rws
  rw [List.length_take, List.length_drop]
  omega
theorem rat_rws {rows : List (List Int)} {a b k : Nat} (h : k < b - a) : rat (rws rows a b) k = rat rows (a + k) := by
  unfold rws
  rw [rat_take h, rat_drop]
theorem rws_take {rows : List (List Int)} {a m b : Nat} (h2 : m ≤ b) : (rws rows a b).take (m - a) = rws rows a m := by
  unfold rws
  rw [List.take_take, show min (m - a) (b - a) = m - a by omega]
theorem rws_drop {rows : List (List Int)} {a m b : Nat} (h1 : a ≤ m) : (rws rows a b).drop (m - a) = rws rows m b := by
  unfold rws
  rw [List.drop_take, List.drop_drop, show a + (m - a) = m by omega, show b - a - (m - a) = b - m by omega]
theorem rws_all (rows : List (List Int)) : rws rows 0 rows.length = rows := by simp [rws]
/-- the root of a group of rows -/
def DR (q n : Nat) (rows : List (List Int)) (a b : Nat) : List Int := if a < b then rtf q n (b - a) (rws rows a b) else List.replicate 4 0
theorem DR_leaf {q n : Nat} {rows : List (List Int)} {a : Nat} (h : a < rows.length) : DR q n rows a (a + 1) = digl q n (0 :: rat rows a) := by
  unfold DR
  rw [if_pos (by omega), show a + 1 - a = 0 + 1 by omega]
  rw [rtf, if_pos (by rw [rws_len (by omega)]; omega), rat_rws (by omega), Nat.add_zero]
theorem DR_node {q n : Nat} {rows : List (List Int)} {a b : Nat} (h : b ≤ rows.length) (h2 : 2 ≤ b - a) : DR q n rows a b = digl q n (1 :: (DR q n rows a (a + lft (b - a)) ++ DR q n rows (a + lft (b - a)) b)) := by
  obtain ⟨_, l2, l3⟩ := lft_spec (b - a)
  have l3' := l3 h2
  obtain ⟨k, hk⟩ : ∃ k, b - a = k + 1 := ⟨b - a - 1, by omega⟩
  have e1 : DR q n rows a b = rtf q n (k + 1) (rws rows a b) := by
    unfold DR
    rw [if_pos (by omega), hk]
  have hl := rws_len (a := a) h
  rw [e1, rtf, if_neg (by rw [hl]; omega), hl]
  have t1 : (rws rows a b).take (lft (b - a)) = rws rows a (a + lft (b - a)) := by
    have := rws_take (rows := rows) (a := a) (m := a + lft (b - a)) (b := b) (by omega)
    rwa [Nat.add_sub_cancel_left] at this
  have t2 : (rws rows a b).drop (lft (b - a)) = rws rows (a + lft (b - a)) b := by
    have := rws_drop (rows := rows) (a := a) (m := a + lft (b - a)) (b := b) (by omega)
    rwa [Nat.add_sub_cancel_left] at this
  rw [t1, t2]
  have g1 : rtf q n k (rws rows a (a + lft (b - a))) = DR q n rows a (a + lft (b - a)) := by
    unfold DR
    rw [if_pos (by omega)]
    exact rtf_more q n (a + lft (b - a) - a) k _ (by rw [rws_len (by omega)]; omega) (by rw [rws_len (by omega)]; omega) (by omega)
  have g2 : rtf q n k (rws rows (a + lft (b - a)) b) = DR q n rows (a + lft (b - a)) b := by
    unfold DR
    rw [if_pos (by omega)]
    exact rtf_more q n (b - (a + lft (b - a))) k _ (by rw [rws_len (by omega)]; omega) (by rw [rws_len (by omega)]; omega) (by omega)
  rw [g1, g2]
theorem DR_all {q n : Nat} {rows : List (List Int)} (h : 1 ≤ rows.length) : DR q n rows 0 rows.length = rtf q n rows.length rows := by
  unfold DR
  rw [if_pos (by omega), Nat.sub_zero, rws_all]
theorem dgst_elr {q : Nat} (h3 : 3 ≤ q) {l : List Int} (hl : l.length = 4) (e : elr q l = l) : Dgst q l := ⟨hl, fun j hj => by
  have h := emod_bounds (zat l j) q h3
  have : zat (elr q l) j = zat l j % (q : Int) := by unfold elr; rw [ls_at _ _ _ (by omega)]
  rw [e] at this
  rw [this]
  exact h⟩
theorem DR_dgst {q : Nat} (h3 : 3 ≤ q) (n : Nat) (rows : List (List Int)) (a b : Nat) : Dgst q (DR q n rows a b) := by
  unfold DR
  by_cases h : a < b
  · rw [if_pos h]
    exact dgst_elr h3 (rtf_len _ _ _ _ (by omega)) (elr_rtf h3 n _ _ (by omega))
  · rw [if_neg h]
    refine ⟨by simp, fun j hj => ?_⟩
    have : j = 0 ∨ j = 1 ∨ j = 2 ∨ j = 3 := by omega
    rcases this with rfl | rfl | rfl | rfl <;> simp [zat] <;> omega
/-- the nodes are the roots of the groups that are hidden -/
theorem ndf_hd (q n : Nat) (rows : List (List Int)) (os : List Int) : ∀ (k a c : Nat), 1 ≤ c → c ≤ k → a + c ≤ rows.length → ndf q n k (rws rows a (a + c)) os (a : Int) = (hd2 os k a c).map (fun g => DR q n rows g.1 g.2)
  | 0, _, _, h1, h2, _ => by omega
  | k + 1, a, c, h1, h2, h3 => by
    have hl : (rws rows a (a + c)).length = c := by rw [rws_len h3]; omega
    rw [ndf, hl]
    by_cases hs : smb os (a : Int) ((a : Int) + (c : Int)) = false
    · rw [if_pos hs, hd2_none hs]
      simp only [List.map_cons, List.map_nil]
      unfold DR
      rw [if_pos (by omega)]
      rw [rtf_more q n (a + c - a) (k + 1) _ (by omega) (by omega) (by omega)]
    · rw [if_neg hs]
      by_cases hc : c = 1
      · rw [if_pos hc, hd2, if_neg hs, if_pos hc]
        rfl
      · rw [if_neg hc, hd2_part hs hc, List.map_append]
        obtain ⟨_, l2, l3⟩ := lft_spec c
        have l3' := l3 (by omega)
        have t1 : (rws rows a (a + c)).take (lft c) = rws rows a (a + lft c) := by
          have := rws_take (rows := rows) (a := a) (m := a + lft c) (b := a + c) (by omega)
          rwa [Nat.add_sub_cancel_left] at this
        have t2 : (rws rows a (a + c)).drop (lft c) = rws rows (a + lft c) (a + lft c + (c - lft c)) := by
          have := rws_drop (rows := rows) (a := a) (m := a + lft c) (b := a + c) (by omega)
          rw [show a + lft c + (c - lft c) = a + c by omega]
          rwa [Nat.add_sub_cancel_left] at this
        rw [t1, t2, show (a : Int) + ((lft c : Nat) : Int) = ((a + lft c : Nat) : Int) by omega]
        rw [ndf_hd q n rows os k a (lft c) (by omega) (by omega) (by omega), ndf_hd q n rows os k (a + lft c) (c - lft c) (by omega) (by omega) (by omega)]
theorem ndf_all (q n : Nat) (rows : List (List Int)) (os : List Int) (h : 1 ≤ rows.length) : ndf q n rows.length rows os 0 = (hd2 os rows.length 0 rows.length).map (fun g => DR q n rows g.1 g.2) := by
  have := ndf_hd q n rows os rows.length 0 rows.length h (Nat.le_refl _) (by omega)
  rwa [Nat.zero_add, rws_all] at this
/-- a group whose rows are all found -/
theorem rdy_rows {q n : Nat} {rows : List (List Int)} {M : Nat → Nat → Option (List Int)} : ∀ (c a b : Nat), b - a ≤ c → a < b → b ≤ rows.length → (∀ x, a ≤ x → x < b → M x (x + 1) ≠ none) → Rdy q n (DR q n rows) M a b
  | 0, _, _, h1, h2, _, _ => by omega
  | c + 1, a, b, h1, h2, h3, h => by
    by_cases hc : b = a + 1
    · subst hc
      exact .found (h a (Nat.le_refl _) (by omega))
    · obtain ⟨_, l2, l3⟩ := lft_spec (b - a)
      have l3' := l3 (by omega)
      refine .node (by omega) (DR_node h3 (by omega)) ?_ ?_
      · exact rdy_rows c a (a + lft (b - a)) (by omega) (by omega) (by omega) (fun x h1 h2 => h x h1 (by omega))
      · exact rdy_rows c (a + lft (b - a)) b (by omega) (by omega) h3 (fun x h1 h2 => h x (by omega) h2)

end Go.Proofs.YtionbilheeheaaeGreatDoor
