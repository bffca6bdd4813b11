/- Trees, plain facts: what is opened is taken. -/
import Derived.Test.YtionbilheeheaaeGreatDoorTreH
namespace Go.Proofs.YtionbilheeheaaeGreatDoor
open Go.RowKit

theorem digl_congr {q n : Nat} {l l' : List Int} (hl : l.length = l'.length) (h : ∀ j, j < l.length → zat l j % (q : Int) = zat l' j % (q : Int)) : digl q n l = digl q n l' := by
  have e : pdf q (zat l) l.length = pdf q (zat l') l'.length := by
    funext j
    unfold pdf
    rw [← hl]
    split
    · rename_i hj
      exact h j hj
    · rfl
  unfold digl
  rw [e, hl]
theorem ls_cong {f g : Nat → Int} {n : Nat} (h : ∀ j, j < n → f j = g j) : ls f n = ls g n := by
  unfold ls
  exact List.map_congr_left (fun j hj => h j (List.mem_range.1 hj))
theorem elr_digl {q : Nat} (h3 : 3 ≤ q) (n : Nat) (l : List Int) : elr q (digl q n l) = digl q n l := by
  unfold elr
  rw [digl_len]
  unfold digl
  refine ls_cong fun j hj => ?_
  rw [ls_at _ _ _ hj]
  have := hst_bounds q n (pdf q (zat l) l.length) (l.length / 4 + 1) j h3
  exact Int.emod_eq_of_lt this.1 this.2
theorem elr_rtf {q : Nat} (h3 : 3 ≤ q) (n k : Nat) (rows : List (List Int)) (hk : 1 ≤ k) : elr q (rtf q n k rows) = rtf q n k rows := by
  cases k with
  | zero => omega
  | succ k => simp only [rtf]; split <;> exact elr_digl h3 _ _
theorem leaf_elr {q : Nat} (n : Nat) (r : List Int) (z : Int) : digl q n (z :: elr q r) = digl q n (z :: r) := by
  have hl : (elr q r).length = r.length := by unfold elr; exact ls_len _ _
  refine digl_congr (by simp [hl]) fun j hj => ?_
  cases j with
  | zero => rfl
  | succ j =>
    have hj2 : j < r.length := by simp [hl] at hj; omega
    show zat (elr q r) j % (q : Int) = zat r j % (q : Int)
    unfold elr
    rw [ls_at _ _ _ hj2, Int.emod_emod_of_dvd _ (Int.dvd_refl _)]
theorem rat_append_left {a b : List (List Int)} {i : Nat} (h : i < a.length) : rat (a ++ b) i = rat a i := by
  unfold rat
  rw [List.getD_eq_getElem?_getD, List.getD_eq_getElem?_getD, List.getElem?_append_left h]
theorem rat_shw {q : Nat} {rows : List (List Int)} {os : List Int} {i : Nat} (h : i < os.length) : rat (shw q rows os) i = elr q (rat rows (zat os i).toNat) := by
  show (shw q rows os).getD i [] = _
  unfold shw zat
  rw [List.getD_eq_getElem?_getD, List.getElem?_map, List.getElem?_eq_getElem h]
  rfl
theorem fx_spec {ps : List Int} {x : Int} (h : ∃ j, j < ps.length ∧ zat ps j = x) : fx ps x < ps.length ∧ zat ps (fx ps x) = x := by
  obtain ⟨j, h1, h2⟩ := h
  unfold fx
  cases e : (List.range ps.length).find? (fun i => zat ps i == x) with
  | none =>
    have := List.find?_eq_none.1 e j (List.mem_range.2 h1)
    simp [h2] at this
  | some i =>
    have h3 := List.find?_some e
    have h4 := List.mem_range.1 (List.mem_of_find?_eq_some e)
    exact ⟨h4, by simpa using h3⟩

theorem up_shown {q : Nat} (h3 : 3 ≤ q) (n : Nat) (rows : List (List Int)) (os : List Int) (nodes : List (List Int)) : ∀ (k first cnt t : Nat) (bad : Bool), 1 ≤ cnt → cnt ≤ k → first + cnt ≤ rows.length → (∃ post, nodes.drop t = ndf q n k ((rows.drop first).take cnt) os (first : Int) ++ post) →
    upf q n os (shw q rows os) nodes k (first : Int) cnt t bad = (rtf q n k ((rows.drop first).take cnt), t + (ndf q n k ((rows.drop first).take cnt) os (first : Int)).length, bad)
  | 0, _, _, _, _, h1, h2, _, _ => by omega
  | k + 1, first, cnt, t, bad, h1, h2, h5, hp => by
    have hlen : ((rows.drop first).take cnt).length = cnt := by rw [List.length_take, List.length_drop]; omega
    obtain ⟨post, hp⟩ := hp
    simp only [ndf, hlen] at hp ⊢
    simp only [upf]
    by_cases hs : smb os (first : Int) ((first : Int) + (cnt : Int)) = false
    · rw [if_pos hs] at hp ⊢
      rw [if_pos hs]
      have e0 : rat nodes t = rtf q n (k + 1) ((rows.drop first).take cnt) := by
        have e : rat (nodes.drop t) 0 = rtf q n (k + 1) ((rows.drop first).take cnt) := by rw [hp]; rfl
        rw [rat_drop] at e
        exact e
      have e1 : t < nodes.length := by
        have e : (nodes.drop t).length = 1 + post.length := by rw [hp]; simp; omega
        rw [List.length_drop] at e
        omega
      rw [if_neg (by rw [e0, rtf_len q n (k + 1) _ (by omega)]; omega), e0, elr_rtf h3 n (k + 1) _ (by omega)]
      rfl
    · rw [if_neg hs] at hp ⊢
      rw [if_neg hs]
      have hst : smb os (first : Int) ((first : Int) + (cnt : Int)) = true := by simpa using hs
      by_cases hone : cnt = 1
      · rw [if_pos hone]
        rw [if_pos hone]
        simp only [rtf, hlen]
        rw [if_pos hone]
        obtain ⟨j, g1, g2, g3⟩ := smb_iff.1 hst
        obtain ⟨f1, f2⟩ := fx_spec (ps := os) (x := (first : Int)) ⟨j, g1, by omega⟩
        rw [rat_shw f1, f2, leaf_elr, rat_take (by omega), rat_drop]
        simp
      · obtain ⟨_, l2, l3⟩ := lft_spec cnt
        have l3' := l3 (by omega)
        rw [if_neg hone] at hp ⊢
        rw [if_neg hone]
        obtain ⟨m, hm⟩ : ∃ m, m = lft cnt := ⟨_, rfl⟩
        simp only [rtf, hlen]
        rw [if_neg hone]
        rw [← hm] at hp l2 l3' ⊢
        have t1 : ((rows.drop first).take cnt).take m = (rows.drop first).take m := by rw [List.take_take, Nat.min_eq_left (by omega)]
        have t2 : ((rows.drop first).take cnt).drop m = (rows.drop (first + m)).take (cnt - m) := by rw [List.drop_take, List.drop_drop]
        rw [t1, t2] at hp ⊢
        have c1 : (first : Int) + (m : Int) = ((first + m : Nat) : Int) := by omega
        rw [c1] at hp ⊢
        have i1 := up_shown h3 n rows os nodes k first m t bad (by omega) (by omega) (by omega) ⟨_, by rw [hp, List.append_assoc]⟩
        have i2 := up_shown h3 n rows os nodes k (first + m) (cnt - m) (t + (ndf q n k ((rows.drop first).take m) os (first : Int)).length) bad (by omega) (by omega) (by omega) ⟨post, by
          rw [← List.drop_drop, hp, List.append_assoc, List.drop_left]⟩
        rw [i1]
        dsimp only
        rw [i2]
        simp [List.length_append, Nat.add_assoc]

/-- what is opened is taken -/
theorem chk_shown {q : Nat} (h3 : 3 ≤ q) (n : Nat) (rows : List (List Int)) (os : List Int) (h1 : 1 ≤ rows.length) (h2 : rows.length ≤ 65536) (hos : AscN (rows.length : Int) os) :
    chkf q n (rtf q n rows.length rows) (rows.length : Int) os (shw q rows os) (ndf q n rows.length rows os 0) = true := by
  have e := up_shown h3 n rows os (ndf q n rows.length rows os 0) rows.length 0 rows.length 0 false h1 (Nat.le_refl _) (by omega) ⟨[], by simp⟩
  simp only [List.drop_zero, List.take_length, Nat.zero_add, Int.natCast_zero] at e
  rw [chkf_yes ⟨by omega, by omega, shw_len _ _ _, rtf_len _ _ _ _ h1, hos⟩, Int.toNat_natCast, e]
  rw [samb_true rfl (fun _ _ => rfl)]
  simp

/-! ## alike as elements -/
theorem samb_iff {q : Nat} {xs ys : List Int} : samb q xs ys = true ↔ xs.map (· % (q : Int)) = ys.map (· % (q : Int)) := by
  unfold samb
  rw [decide_eq_true_eq]
theorem samb_cons {q : Nat} {z : Int} {xs ys : List Int} : samb q (z :: xs) (z :: ys) = samb q xs ys := by
  rw [Bool.eq_iff_iff, samb_iff, samb_iff]
  simp
theorem elr_map (q : Nat) (r : List Int) : elr q r = r.map (· % (q : Int)) := by
  apply List.ext_getElem?
  intro i
  unfold elr ls
  rw [List.getElem?_map, List.getElem?_map]
  by_cases h : i < r.length
  · rw [List.getElem?_range h, List.getElem?_eq_getElem h]
    simp [zat, h]
  · rw [List.getElem?_eq_none (by simp; omega), List.getElem?_eq_none (by omega)]
    rfl
theorem upf_red {q : Nat} (h3 : 3 ≤ q) (n : Nat) (ps : List Int) (rows nodes : List (List Int)) (k : Nat) (first : Int) (cnt t : Nat) (bad : Bool) : elr q (upf q n ps rows nodes k first cnt t bad).1 = (upf q n ps rows nodes k first cnt t bad).1 := by
  cases k with
  | zero => rfl
  | succ k =>
    simp only [upf]
    split
    · split
      · rw [elr_map]; simp
      · rw [elr_map, elr_map, List.map_map]
        exact List.map_congr_left fun x _ => Int.emod_emod_of_dvd _ (Int.dvd_refl _)
    · split <;> exact elr_digl h3 _ _
/-- two digests side by side, alike: each is the other's -/
theorem samb_two {q : Nat} {z : Int} {a1 b1 a2 b2 : List Int} (h : samb q (z :: (a1 ++ b1)) (z :: (a2 ++ b2)) = true) (hl : a1.length = a2.length) (ra1 : elr q a1 = a1) (rb1 : elr q b1 = b1) (ra2 : elr q a2 = a2) (rb2 : elr q b2 = b2) : a1 = a2 ∧ b1 = b2 := by
  rw [samb_cons, samb_iff, List.map_append, List.map_append, ← elr_map, ← elr_map, ← elr_map, ← elr_map, ra1, rb1, ra2, rb2] at h
  exact List.append_inj h hl
/-- of the way to a place that both show: if all lists on it are alike, so are the rows -/
theorem up_alike {q : Nat} (h3 : 3 ≤ q) (n : Nat) (ps1 ps2 : List Int) (rows1 rows2 nodes1 nodes2 : List (List Int)) (x : Int) (hx1 : ∃ j, j < ps1.length ∧ zat ps1 j = x) (hx2 : ∃ j, j < ps2.length ∧ zat ps2 j = x) (hno : ∀ l l', digl q n l = digl q n l' → samb q l l' = true) :
    ∀ (k : Nat) (first : Int) (cnt t1 t2 : Nat) (b1 b2 : Bool), 1 ≤ cnt → cnt ≤ k → first ≤ x → x < first + (cnt : Int) → (upf q n ps1 rows1 nodes1 k first cnt t1 b1).1 = (upf q n ps2 rows2 nodes2 k first cnt t2 b2).1 → samb q (rat rows1 (fx ps1 x)) (rat rows2 (fx ps2 x)) = true
  | 0, _, _, _, _, _, _, h1, h2, _, _, _ => by omega
  | k + 1, first, cnt, t1, t2, b1, b2, h1, h2, h4, h5, h => by
    have s1 : smb ps1 first (first + (cnt : Int)) ≠ false := by
      obtain ⟨j, e1, e2⟩ := hx1
      rw [smb_iff.2 ⟨j, e1, by omega, by omega⟩]
      simp
    have s2 : smb ps2 first (first + (cnt : Int)) ≠ false := by
      obtain ⟨j, e1, e2⟩ := hx2
      rw [smb_iff.2 ⟨j, e1, by omega, by omega⟩]
      simp
    simp only [upf] at h
    rw [if_neg s1, if_neg s2] at h
    by_cases hone : cnt = 1
    · rw [if_pos hone, if_pos hone] at h
      have e := hno _ _ h
      rw [samb_cons, show first = x by omega] at e
      exact e
    · rw [if_neg hone, if_neg hone] at h
      obtain ⟨_, l2, l3⟩ := lft_spec cnt
      have l3' := l3 (by omega)
      obtain ⟨m, hm⟩ : ∃ m, m = lft cnt := ⟨_, rfl⟩
      rw [← hm] at h l2 l3'
      obtain ⟨eA, eB⟩ := samb_two (hno _ _ h) (by rw [upf_len _ _ _ _ _ _ _ _ _ _ (by omega), upf_len _ _ _ _ _ _ _ _ _ _ (by omega)]) (upf_red h3 ..) (upf_red h3 ..) (upf_red h3 ..) (upf_red h3 ..)
      by_cases hc : x < first + (m : Int)
      · exact up_alike h3 n ps1 ps2 rows1 rows2 nodes1 nodes2 x hx1 hx2 hno k first m _ _ _ _ (by omega) (by omega) h4 hc eA
      · exact up_alike h3 n ps1 ps2 rows1 rows2 nodes1 nodes2 x hx1 hx2 hno k (first + (m : Int)) (cnt - m) _ _ _ _ (by omega) (by omega) (by omega) (by omega) eB

end Go.Proofs.YtionbilheeheaaeGreatDoor
