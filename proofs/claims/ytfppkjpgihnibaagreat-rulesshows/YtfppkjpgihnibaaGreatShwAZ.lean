/- A table's row, plainly; what the rules say of one step and the next. A table's pairs in order, plainly. Package rules: Table, walked. Package rules: Table, where there may be one. attestref8.Table: how it ends, its rows in memory. -/
import Derived.Test.YtfppkjpgihnibaaGreatShwAO
import Derived.Test.YtfppkjpgihnibaaGreatShwAY
import Derived.Test.YtfppkjpgihnibaaGreatShwAR
import Derived.Test.YtfppkjpgihnibaaGreatShwAN
import Derived.Test.YtfppkjpgihnibaaGreatShwAM
namespace Go.Proofs.YtfppkjpgihnibaaGreat
open Go.RowKit Go.Maps

theorem srow_at (p : Nat) {nL : Nat} (op : Int) {s : List Int} (hpc : (zat s 0).toNat < nL) (j : Nat) : zat (srow p nL op s) j =
    if j = 20 + (zat s 0).toNat then 1 else if j = 11 then hlp p op (zat s 7) (zat s 8) else if j = 9 then zat s 9 else if j = 8 then zat s 8 else if j = 7 then zat s 7 else if j = 5 then zat s 6 else if j = 4 then zat s 5 else if j = 3 then zat s 4 else if j = 2 then zat s 3 else if j = 1 then zat s 2 else if j = 0 then zat s 1 else 0 := by
  have hr : ∀ j, zat (List.replicate (20 + nL) (0 : Int)) j = 0 := fun j => by
    unfold zat
    rw [List.getElem?_replicate]
    split <;> rfl
  unfold srow
  rw [zat_set (by simp; omega), zat_set (by simp; omega), zat_set (by simp; omega), zat_set (by simp; omega), zat_set (by simp; omega), zat_set (by simp; omega), zat_set (by simp; omega), zat_set (by simp; omega), zat_set (by simp; omega), zat_set (by simp; omega), zat_set (by simp; omega), hr]

/-- pairs written into rows: what stands where -/
theorem fS_at (R : List (List Int)) (ps : List (Int × Int)) {i : Nat} (hi : i < R.length) (h20 : ∀ k, k < R.length → 20 ≤ (rat R k).length) (j : Nat) : ∀ m, m ≤ 4 * R.length → zat (rat (fS R ps m) i) j =
    if 12 ≤ j ∧ j < 16 ∧ 4 * i + (j - 12) < m then (cat ps (4 * i + (j - 12))).1 else if 16 ≤ j ∧ j < 20 ∧ 4 * i + (j - 16) < m then (cat ps (4 * i + (j - 16))).2 else zat (rat R i) j
  | 0, _ => by rw [if_neg (by omega), if_neg (by omega)]; rfl
  | m + 1, h => by
    have ih := fS_at R ps hi h20 j m (by omega)
    have hl1 : (rat (fS R ps m) i).length = (rat R i).length := fS_row_len R ps i m (by omega)
    have h20i := h20 i hi
    have hm4 : m / 4 < (fS R ps m).length := by rw [fS_len]; omega
    have hm4' : m / 4 < (put (fS R ps m) (m / 4) (12 + m % 4) (cat ps m).1).length := by rw [put_len]; exact hm4
    rw [fS, put_rat hm4']
    by_cases e : i = m / 4
    · subst e
      rw [if_pos rfl, put_rat hm4, if_pos rfl]
      have hlt : m % 4 < 4 := Nat.mod_lt _ (by decide)
      have hdm : 4 * (m / 4) + m % 4 = m := Nat.div_add_mod m 4
      rw [zat_set (by rw [List.length_set, hl1]; omega)]
      by_cases e2 : j = 16 + m % 4
      · rw [if_pos e2, if_neg (by omega), if_pos (by omega)]
        congr 2
        omega
      · rw [if_neg e2, zat_set (by rw [hl1]; omega)]
        by_cases e1 : j = 12 + m % 4
        · rw [if_pos e1, if_pos (by omega)]
          congr 2
          omega
        · rw [if_neg e1, ih]
          by_cases c1 : 12 ≤ j ∧ j < 16 ∧ 4 * (m / 4) + (j - 12) < m
          · rw [if_pos c1, if_pos (by omega)]
          · rw [if_neg c1, if_neg (show ¬ (12 ≤ j ∧ j < 16 ∧ 4 * (m / 4) + (j - 12) < m + 1) by omega)]
            by_cases c2 : 16 ≤ j ∧ j < 20 ∧ 4 * (m / 4) + (j - 16) < m
            · rw [if_pos c2, if_pos (by omega)]
            · rw [if_neg c2, if_neg (by omega)]
    · rw [if_neg e, put_rat hm4, if_neg e, ih]
      by_cases c1 : 12 ≤ j ∧ j < 16 ∧ 4 * i + (j - 12) < m
      · rw [if_pos c1, if_pos (by omega)]
      · rw [if_neg c1, if_neg (show ¬ (12 ≤ j ∧ j < 16 ∧ 4 * i + (j - 12) < m + 1) by omega)]
        by_cases c2 : 16 ≤ j ∧ j < 20 ∧ 4 * i + (j - 16) < m
        · rw [if_pos c2, if_pos (by omega)]
        · rw [if_neg c2, if_neg (by omega)]

/-- a row that shows a step -/
structure TRow (p : Nat) (L : List InsZ) (s : List Int) (r : List Int) : Prop where
  e0 : zat r 0 = zat s 1
  e1 : zat r 1 = zat s 2
  e2 : zat r 2 = zat s 3
  e3 : zat r 3 = zat s 4
  e4 : zat r 4 = zat s 5
  e5 : zat r 5 = zat s 6
  e7 : zat r 7 = zat s 7
  e8 : zat r 8 = zat s 8
  e9 : zat r 9 = zat s 9
  e11 : zat r 11 = hlp p (sin' L s).op (zat s 7) (zat s 8)
  es : ∀ k, k < L.length → zat r (20 + k) = if k = (zat s 0).toNat then 1 else 0

/-- a sum with one choice -/
theorem smz_one {p : Nat} (c : Nat) (s f : Nat → Int) : ∀ k, (∀ j, j < k → s j = if j = c then 1 else 0) → smz p s f k = if c < k then f c % (p : Int) else 0
  | 0, _ => by rw [if_neg (by omega)]; rfl
  | k + 1, h => by
    rw [smz, smz_one c s f k (fun j hj => h j (by omega)), h k (by omega)]
    by_cases h1 : c < k
    · rw [if_pos h1, if_neg (by omega), if_pos (by omega), Int.zero_mul, Int.add_zero, Int.emod_emod_of_dvd _ (Int.dvd_refl _)]
    · rw [if_neg h1]
      by_cases h2 : k = c
      · subst h2; rw [if_pos rfl, if_pos (by omega), Int.one_mul, Int.zero_add]
      · rw [if_neg h2, if_neg (by omega), Int.zero_mul, Int.add_zero, Int.zero_emod]
theorem smt_one {p : Nat} {L : List InsZ} {s r : List Int} (h : TRow p L s r) (hs : StB p L.length s) (f : Nat → InsZ → Int) : smt p L r f = f (zat s 0).toNat (sin' L s) % (p : Int) := by
  have hpc : (zat s 0).toNat < L.length := by have := hs.2.2; have := (hs.2.1 0 (by omega)).1; omega
  unfold smt
  rw [smz_one (zat s 0).toNat (sel r) _ _ (fun j hj => h.es j hj), if_pos hpc]
  rfl

theorem invz_one {p : Nat} (hp : Num.Prime p) (h3 : 3 ≤ p) {z : Int} (h0 : 0 ≤ z) (h1 : z < p) (hz : z ≠ 0) : ∃ k : Int, (invn p z : Int) * z = 1 + (p : Int) * k := by
  have hd : ¬ (p : Int) ∣ z := fun ⟨c, hc⟩ => by
    rcases Int.lt_trichotomy c 0 with h | h | h
    · have : (p : Int) * c ≤ (p : Int) * (-1) := Int.mul_le_mul_of_nonneg_left (by omega) (by omega)
      omega
    · subst h; simp at hc; exact hz hc
    · have : (p : Int) * 1 ≤ (p : Int) * c := Int.mul_le_mul_of_nonneg_left (by omega) (by omega)
      omega
  obtain ⟨k, hk⟩ := invn_dvd hp h3 hd
  exact ⟨k, by omega⟩
theorem em_zero {p : Nat} {x k : Int} (h : x = (p : Int) * k) : x % (p : Int) = 0 := by rw [h, Int.mul_emod_right]
theorem em_ex (p : Nat) (x : Int) : ∃ k : Int, x % (p : Int) = x - (p : Int) * k := ⟨x / (p : Int), Int.emod_def x p⟩

section
variable {p : Nat} {L : List InsZ} {s r : List Int}

/-- what an instruction works -/
theorem tvW_zero (hp : Num.Prime p) (h3 : 3 ≤ p) (h : TRow p L s r) (hs : StpF p L s) : tvW p r (sin' L s) % (p : Int) = 0 := by
  have z : (0 : Int) % (p : Int) = 0 := Int.zero_emod _
  have b := hs.bd.2.1
  have hrk := hs.rk
  have hdv := hs.dv
  have hst := hs.st
  have hmu := hs.mu
  have hca := hs.ca
  have hta := hs.ta
  have hpa := hs.pa
  have hop := hs.op
  have e11 := h.e11
  unfold tvW
  rw [h.e7, h.e8, h.e9, h.e0, h.e2, e11]
  have b7 := b 7 (by omega)
  have b8 := b 8 (by omega)
  generalize zat s 7 = x at *
  generalize zat s 8 = y at *
  generalize zat s 9 = t at *
  generalize (sin' L s).op = o at *
  generalize (sin' L s).b = ib at *
  obtain ⟨ha, hb⟩ := hop
  by_cases c1 : o = 1
  · subst c1
    have ht := hrk (.inl rfl)
    rw [if_pos rfl, ht]
    simp only [rkn, if_pos, em_sub2, Int.emod_emod_of_dvd _ (Int.dvd_refl (p : Int))]
    rw [Int.sub_self, Int.zero_emod]
  rw [if_neg c1]
  by_cases c2 : o = 2
  · subst c2
    have ht := hrk (.inr (.inl rfl))
    rw [if_pos rfl, ht]
    simp only [rkn, if_neg (show ¬ (2 : Int) = 1 by decide), if_pos, em_sub2, Int.emod_emod_of_dvd _ (Int.dvd_refl (p : Int))]
    rw [Int.sub_self, Int.zero_emod]
  rw [if_neg c2]
  by_cases c3 : o = 3
  · subst c3
    have ht := hrk (.inr (.inr (.inl rfl)))
    rw [if_pos rfl, ht]
    simp only [rkn, if_neg (show ¬ (3 : Int) = 1 by decide), if_neg (show ¬ (3 : Int) = 2 by decide), if_pos, em_sub2, Int.emod_emod_of_dvd _ (Int.dvd_refl (p : Int))]
    rw [Int.sub_self, Int.zero_emod]
  rw [if_neg c3]
  by_cases c4 : o = 4
  · subst c4
    have ht := hrk (.inr (.inr (.inr (.inl rfl))))
    have hy := hdv rfl
    obtain ⟨k, hk⟩ := invz_one hp h3 b8.1 b8.2 hy
    rw [if_pos rfl, ht, Int.emod_emod_of_dvd _ (Int.dvd_refl (p : Int))]
    simp only [rkn, if_neg (show ¬ (4 : Int) = 1 by decide), if_neg (show ¬ (4 : Int) = 2 by decide), if_neg (show ¬ (4 : Int) = 3 by decide), if_pos]
    rw [← em_sub1, em_mul1, em_sub1]
    generalize (invn p y : Int) = v at *
    have e : x * v * y - x = (p : Int) * (x * k) := by
      have : x * v * y = x * (v * y) := Int.mul_assoc _ _ _
      rw [this, hk]
      grind
    exact em_zero e
  rw [if_neg c4]
  by_cases c5 : o = 5
  · rw [if_pos c5, hst c5, em_sub1, Int.sub_self]
    simp
  rw [if_neg c5]
  by_cases c6 : o = 6
  · have ht := hrk (.inr (.inr (.inr (.inr c6))))
    rw [if_pos c6, ht, Int.emod_emod_of_dvd _ (Int.dvd_refl (p : Int))]
    subst c6
    simp only [rkn, hlp, if_neg (show ¬ (6 : Int) = 1 by decide), if_neg (show ¬ (6 : Int) = 2 by decide), if_neg (show ¬ (6 : Int) = 3 by decide), if_neg (show ¬ (6 : Int) = 4 by decide), if_pos]
    by_cases e : x = y
    · subst e
      rw [if_pos rfl, Int.sub_self, Int.zero_mul]
      simp
    · rw [if_neg e]
      have hd := emod_bounds (x - y) p h3
      have hne : (x - y) % (p : Int) ≠ 0 := fun hh => by
        obtain ⟨c, hc⟩ := Int.dvd_of_emod_eq_zero hh
        rcases Int.lt_trichotomy c 0 with h | h | h
        · have : (p : Int) * c ≤ (p : Int) * (-1) := Int.mul_le_mul_of_nonneg_left (by omega) (by omega)
          omega
        · subst h; simp at hc; omega
        · have : (p : Int) * 1 ≤ (p : Int) * c := Int.mul_le_mul_of_nonneg_left (by omega) (by omega)
          omega
      obtain ⟨k, hk⟩ := invz_one hp h3 hd.1 hd.2 hne
      generalize (invn p ((x - y) % (p : Int)) : Int) = v at *
      obtain ⟨m, hm⟩ := em_ex p (x - y)
      rw [hm] at hk
      refine em_zero (k := v * m + k) ?_
      have : v * (x - y - (p : Int) * m) = v * (x - y) - v * ((p : Int) * m) := Int.mul_sub _ _ _
      rw [this] at hk
      have e2 : (x - y) * v = v * (x - y) := Int.mul_comm _ _
      rw [e2]
      have : v * (x - y) = 1 + (p : Int) * k + v * ((p : Int) * m) := by omega
      rw [this]
      grind
  rw [if_neg c6]
  by_cases c7 : o = 7 ∨ o = 13
  · rw [if_pos c7]
    have : x = y := by
      rcases c7 with e | e
      · exact hmu e
      · exact hpa e
    rw [this, Int.sub_self]
    simp
  rw [if_neg c7]
  by_cases c9 : o = 9
  · rw [if_pos c9, Int.emod_emod_of_dvd _ (Int.dvd_refl (p : Int))]
    subst c9
    simp only [hlp, if_neg (show ¬ (9 : Int) = 4 by decide), if_neg (show ¬ (9 : Int) = 6 by decide), if_pos]
    by_cases e : x = 0
    · subst e; rw [Int.zero_mul]; exact z
    · obtain ⟨k, hk⟩ := invz_one hp h3 b7.1 b7.2 e
      rw [hk]
      refine em_zero (k := - (x * k)) ?_
      grind
  rw [if_neg c9]
  by_cases c10 : o = 10
  · rw [if_pos c10, (hca c10).1, Int.sub_self]
    simp
  rw [if_neg c10]
  by_cases c12 : o = 12
  · rw [if_pos c12, hta c12, Int.sub_self]
    simp
  rw [if_neg c12, if_pos (by omega)]
  exact z

theorem tvM_zero (hp : Num.Prime p) (h3 : 3 ≤ p) (h : TRow p L s r) (hs : StpF p L s) : tvM p r (zat s 0).toNat (sin' L s) % (p : Int) = 0 := by
  have b := hs.bd.2.1
  have hrk := hs.rk
  have hdv := hs.dv
  have hca := hs.ca
  have b0 := b 0 (by omega)
  unfold tvM
  rw [h.e7, h.e8, h.e9, h.e11]
  have b7 := b 7 (by omega)
  have b8 := b 8 (by omega)
  generalize zat s 7 = x at *
  generalize zat s 8 = y at *
  generalize zat s 9 = t at *
  generalize (sin' L s).op = o at *
  by_cases c4 : o = 4
  · subst c4
    have hy := hdv rfl
    obtain ⟨k, hk⟩ := invz_one hp h3 b8.1 b8.2 hy
    rw [if_pos rfl, Int.emod_emod_of_dvd _ (Int.dvd_refl (p : Int))]
    simp only [hlp, if_pos]
    rw [hk]
    exact em_zero (k := k) (by omega)
  rw [if_neg c4]
  by_cases c6 : o = 6
  · have ht := hrk (.inr (.inr (.inr (.inr c6))))
    rw [if_pos c6, ht, Int.emod_emod_of_dvd _ (Int.dvd_refl (p : Int))]
    subst c6
    simp only [rkn, if_neg (show ¬ (6 : Int) = 1 by decide), if_neg (show ¬ (6 : Int) = 2 by decide), if_neg (show ¬ (6 : Int) = 3 by decide), if_neg (show ¬ (6 : Int) = 4 by decide)]
    by_cases e : x = y
    · subst e; rw [Int.sub_self, Int.mul_zero, Int.zero_emod]
    · rw [if_neg e, Int.zero_mul, Int.zero_emod]
  rw [if_neg c6]
  by_cases c10 : o = 10
  · rw [if_pos c10, (hca c10).2, em_sub1, show zat s 0 + 1 - (((zat s 0).toNat : Int) + 1) = 0 by omega, Int.zero_emod, Int.zero_emod]
  rw [if_neg c10, Int.zero_emod]

/-- the next step's place -/
theorem tvN_next (hp : Num.Prime p) (h3 : 3 ≤ p) (h : TRow p L s r) (hs : StpF p L s) {n : Rg} (hn : Nxt p L s n) (h0 : (sin' L s).op ≠ 0) : (n.pc - tvN p r (zat s 0).toNat (sin' L s)) % (p : Int) = 0 := by
  have b := hs.bd.2.1
  have b0 := b 0 (by omega)
  unfold Nxt at hn
  subst hn
  unfold tvN mvg rgs
  rw [h.e7, h.e8, h.e11, if_neg h0]
  have b7 := b 7 (by omega)
  generalize zat s 7 = x at *
  generalize zat s 8 = y at *
  generalize (sin' L s).op = o at *
  generalize (sin' L s).a = ia at *
  generalize (sin' L s).b = ib at *
  have hk : (((zat s 0).toNat : Nat) : Int) = zat s 0 := by omega
  rw [hk]
  by_cases c8 : o = 8
  · rw [if_pos c8, if_pos (.inl c8)]
    show (ia % (p : Int) - ia) % (p : Int) = 0
    rw [em_sub1, Int.sub_self, Int.zero_emod]
  rw [if_neg c8]
  by_cases c9 : o = 9
  · rw [if_pos c9, if_neg (show ¬ (o = 8 ∨ o = 10) by omega), if_pos c9]
    subst c9
    simp only [hlp, if_neg (show ¬ (9 : Int) = 4 by decide), if_neg (show ¬ (9 : Int) = 6 by decide), if_pos]
    by_cases e : x = 0
    · rw [if_pos e]
      subst e
      show (ib % (p : Int) - _) % (p : Int) = 0
      rw [em_sub1, em_sub2]
      exact em_zero (k := 0) (by simp)
    · rw [if_neg e]
      show ((zat s 0 + 1) % (p : Int) - _) % (p : Int) = 0
      obtain ⟨k, hk⟩ := invz_one hp h3 b7.1 b7.2 e
      rw [em_sub1, em_sub2, hk]
      refine em_zero (k := k * ib - k * (zat s 0 + 1)) ?_
      grind
  rw [if_neg c9]
  by_cases c10 : o = 10
  · rw [if_pos c10, if_pos (.inr c10)]
    show (ia % (p : Int) - ia) % (p : Int) = 0
    rw [em_sub1, Int.sub_self, Int.zero_emod]
  rw [if_neg c10, if_neg (show ¬ (o = 8 ∨ o = 10) by omega), if_neg c9]
  by_cases c11 : o = 11
  · rw [if_pos c11, if_pos c11]
    show (y - y) % (p : Int) = 0
    rw [Int.sub_self, Int.zero_emod]
  rw [if_neg c11, if_neg c11]
  show ((zat s 0 + 1) % (p : Int) - (zat s 0 + 1)) % (p : Int) = 0
  rw [em_sub1, Int.sub_self, Int.zero_emod]
theorem tvF_next (h : TRow p L s r) {n : Rg} (hn : Nxt p L s n) : (n.fp - tvF p r (sin' L s)) % (p : Int) = 0 := by
  unfold Nxt at hn
  subst hn
  unfold tvF mvg rgs
  rw [h.e7, h.e0, h.e1]
  generalize (sin' L s).op = o at *
  have z : ∀ x : Int, (x - x) % (p : Int) = 0 := fun x => by rw [Int.sub_self, Int.zero_emod]
  by_cases c8 : o = 8
  · rw [if_pos c8, if_neg (show ¬ o = 10 by omega), if_neg (show ¬ o = 11 by omega)]; exact z _
  rw [if_neg c8]
  by_cases c9 : o = 9
  · rw [if_pos c9, if_neg (show ¬ o = 10 by omega), if_neg (show ¬ o = 11 by omega)]
    split <;> exact z _
  rw [if_neg c9]
  by_cases c10 : o = 10
  · rw [if_pos c10, if_pos c10]; exact z _
  rw [if_neg c10, if_neg c10]
  by_cases c11 : o = 11
  · rw [if_pos c11, if_pos c11]; exact z _
  rw [if_neg c11, if_neg c11]
  exact z _
theorem tvA_next (h : TRow p L s r) {n : Rg} (hn : Nxt p L s n) : (n.ap - tvA p r (sin' L s)) % (p : Int) = 0 := by
  unfold Nxt at hn
  subst hn
  unfold tvA mvg rgs
  rw [h.e1]
  generalize (sin' L s).op = o at *
  have z : ∀ x : Int, (x - x) % (p : Int) = 0 := fun x => by rw [Int.sub_self, Int.zero_emod]
  by_cases c8 : o = 8
  · rw [if_pos c8, if_neg (show ¬ o = 10 by omega)]; exact z _
  rw [if_neg c8]
  by_cases c9 : o = 9
  · rw [if_pos c9, if_neg (show ¬ o = 10 by omega)]
    split <;> exact z _
  rw [if_neg c9]
  by_cases c10 : o = 10
  · rw [if_pos c10, if_pos c10]
    show (((zat s 2 + 2) % (p : Int) + _) % (p : Int) - _) % (p : Int) = 0
    rw [em_add1]; exact z _
  rw [if_neg c10, if_neg c10]
  by_cases c11 : o = 11
  · rw [if_pos c11]; exact z _
  rw [if_neg c11]
  exact z _
theorem tvR_next (h : TRow p L s r) {n : Rg} (hn : Nxt p L s n) : (n.rv - tvR r (sin' L s)) % (p : Int) = 0 := by
  unfold Nxt at hn
  subst hn
  unfold tvR mvg rgs
  rw [h.e9, h.e2]
  generalize (sin' L s).op = o at *
  have z : ∀ x : Int, (x - x) % (p : Int) = 0 := fun x => by rw [Int.sub_self, Int.zero_emod]
  by_cases c8 : o = 8
  · rw [if_pos c8, if_neg (show ¬ o = 11 by omega)]; exact z _
  rw [if_neg c8]
  by_cases c9 : o = 9
  · rw [if_pos c9, if_neg (show ¬ o = 11 by omega)]
    split <;> exact z _
  rw [if_neg c9]
  by_cases c10 : o = 10
  · rw [if_pos c10, if_neg (show ¬ o = 11 by omega)]; exact z _
  rw [if_neg c10]
  by_cases c11 : o = 11
  · rw [if_pos c11, if_pos c11]; exact z _
  rw [if_neg c11, if_neg c11]
  exact z _
end

end Go.Proofs.YtfppkjpgihnibaaGreat

namespace Go.Proofs.YtfppkjpgihnibaaGreat
open Go.RowKit Go.Maps

theorem cat_get {ps : List (Int × Int)} {m : Nat} (h : m < ps.length) : cat ps m = ps[m] := by simp [cat, h]
theorem cat_memZ {ps : List (Int × Int)} {m : Nat} (h : m < ps.length) : cat ps m ∈ ps := by rw [cat_get h]; exact List.getElem_mem h
theorem pw_le {ps : List (Int × Int)} (h : ps.Pairwise cle) {i j : Nat} (hij : i ≤ j) (hj : j < ps.length) : (cat ps i).1 ≤ (cat ps j).1 := by
  rcases Nat.lt_or_eq_of_le hij with e | e
  · have := List.pairwise_iff_getElem.1 h i j (by omega) hj e
    rw [cat_get (show i < ps.length by omega), cat_get hj]
    unfold cle at this
    omega
  · subst e; exact Int.le_refl _
/-- what stands behind one another -/
theorem ord_next {ps : List (Int × Int)} {cv : Int → Int} (hs : ps.Pairwise cle) (hf : ∀ x, x ∈ ps → x.2 = cv x.1) (hd : ∀ x, x ∈ ps → ∀ y, 0 ≤ y → y < x.1 → ∃ z, z ∈ ps ∧ z.1 = y) (hn : ∀ x, x ∈ ps → 0 ≤ x.1) {m : Nat} (hm : m + 1 < ps.length) :
    ((cat ps (m + 1)).1 - (cat ps m).1 = 0 ∧ (cat ps (m + 1)).2 = (cat ps m).2) ∨ (cat ps (m + 1)).1 - (cat ps m).1 = 1 := by
  have h1 := pw_le hs (show m ≤ m + 1 by omega) hm
  have m0 := cat_memZ (show m < ps.length by omega)
  have m1 := cat_memZ hm
  by_cases e : (cat ps (m + 1)).1 = (cat ps m).1
  · exact .inl ⟨by omega, by rw [hf _ m0, hf _ m1, e]⟩
  · by_cases e2 : (cat ps (m + 1)).1 - (cat ps m).1 = 1
    · exact .inr e2
    · have := hn _ m0
      obtain ⟨z, hz, hz2⟩ := hd _ m1 ((cat ps m).1 + 1) (by omega) (by omega)
      obtain ⟨t, ht, rfl⟩ := List.getElem_of_mem hz
      rw [← cat_get ht] at hz2
      by_cases htm : t ≤ m
      · have := pw_le hs htm (by omega)
        omega
      · have := pw_le hs (show m + 1 ≤ t by omega) ht
        omega
theorem ord_first {ps : List (Int × Int)} (hs : ps.Pairwise cle) (hd : ∀ x, x ∈ ps → ∀ y, 0 ≤ y → y < x.1 → ∃ z, z ∈ ps ∧ z.1 = y) (hn : ∀ x, x ∈ ps → 0 ≤ x.1) (h0 : 0 < ps.length) : (cat ps 0).1 = 0 := by
  have m0 := cat_memZ h0
  have := hn _ m0
  rcases Int.lt_or_eq_of_le this with e | e
  · obtain ⟨z, hz, hz2⟩ := hd _ m0 0 (Int.le_refl _) e
    obtain ⟨t, ht, rfl⟩ := List.getElem_of_mem hz
    have := pw_le hs (Nat.zero_le t) ht
    rw [cat_get ht] at this
    omega
  · exact e.symm
theorem ord_zero (p : Nat) {a v b u : Int} (h : (b - a = 0 ∧ u = v) ∨ b - a = 1) : ord1 p a b = 0 ∧ ord2 p a v b u = 0 := by
  unfold ord1 ord2
  rcases h with ⟨h, rfl⟩ | h
  · rw [h, Int.sub_self, Int.zero_mul, Int.mul_zero]; exact ⟨Int.zero_emod _, Int.zero_emod _⟩
  · rw [h, Int.sub_self, Int.zero_mul, Int.mul_zero]; exact ⟨Int.zero_emod _, Int.zero_emod _⟩

theorem four_cases {k : Nat} (h : k < 4) : k = 0 ∨ k = 1 ∨ k = 2 ∨ k = 3 := by omega
theorem pr4_mem {p : Nat} {R : List (List Int)} {a v : Nat} {x : Int × Int} : x ∈ pr4 p R a v ↔ ∃ i, i < R.length ∧ ∃ k, k < 4 ∧ x = red p (zat (rat R i) (a + k), zat (rat R i) (v + k)) := by
  unfold pr4
  rw [List.mem_flatMap]
  constructor
  · rintro ⟨r, hr, hx⟩
    obtain ⟨i, hi, rfl⟩ := List.getElem_of_mem hr
    obtain ⟨y, hy, rfl⟩ := List.mem_map.1 hx
    have hri : rat R i = R[i] := by simp [rat, hi]
    obtain ⟨k, hk, rfl⟩ := List.getElem_of_mem hy
    rw [rw4_len] at hk
    refine ⟨i, hi, k, hk, ?_⟩
    rw [hri, ← rw4_at _ _ _ _ hk, cat_get (by rw [rw4_len]; exact hk)]
  · rintro ⟨i, hi, k, hk, rfl⟩
    refine ⟨rat R i, rat_mem hi, List.mem_map.2 ⟨cat (rw4 (rat R i) a v) k, cat_memZ (by rw [rw4_len]; exact hk), by rw [rw4_at _ _ _ _ hk]⟩⟩
theorem pr4_cat (p : Nat) (a v : Nat) {k : Nat} (hk : k < 4) : ∀ (R : List (List Int)) (i : Nat), i < R.length → cat (pr4 p R a v) (4 * i + k) = red p (zat (rat R i) (a + k), zat (rat R i) (v + k))
  | [], _, h => absurd h (Nat.not_lt_zero _)
  | r :: rs, 0, _ => by
    have : pr4 p (r :: rs) a v = (rw4 r a v).map (red p) ++ pr4 p rs a v := rfl
    rw [this]
    rcases four_cases hk with rfl | rfl | rfl | rfl <;> rfl
  | r :: rs, i + 1, h => by
    have : pr4 p (r :: rs) a v = (rw4 r a v).map (red p) ++ pr4 p rs a v := rfl
    have ih := pr4_cat p a v hk rs i (by simpa using h)
    have e : rat (r :: rs) (i + 1) = rat rs i := by simp [rat]
    rw [e, ← ih, this]
    unfold cat
    rw [List.getD_eq_getElem?_getD, List.getD_eq_getElem?_getD, List.getElem?_append_right (by rw [List.length_map, rw4_len]; omega), List.length_map, rw4_len]
    congr 2
    omega
theorem cats_ext {l m : List (Int × Int)} (h : l.length = m.length) (k : ∀ j, j < l.length → cat l j = cat m j) : l = m := by
  apply List.ext_getElem h
  intro j h1 h2
  rw [← cat_get h1, ← cat_get h2]
  exact k j h1
theorem topOk_ex : ∀ l : List Int, ∃ t, TopOk l t
  | [] => ⟨0, topOk_nil⟩
  | a :: l => by
    obtain ⟨t, h1, h2, h3⟩ := topOk_ex l
    by_cases e : a ≤ t
    · refine ⟨t, h1, fun x hx => ?_, h3.imp_right fun h => List.mem_cons_of_mem _ h⟩
      rcases List.mem_cons.1 hx with rfl | hx
      · exact e
      · exact h2 x hx
    · refine ⟨a, by omega, fun x hx => ?_, .inr (by simp)⟩
      rcases List.mem_cons.1 hx with rfl | hx
      · exact Int.le_refl _
      · have := h2 x hx; omega

section
variable {p : Nat} {L : List InsZ} {st : List (List Int)} {n : Nat}
/-- the step that a row shows -/
def stI (st : List (List Int)) (i : Nat) : List Int := rat st (min i (st.length - 1))
theorem stI_mem (h0 : 0 < st.length) (i : Nat) : stI st i ∈ st := rat_mem (by omega)
theorem pc_lt {nL : Nat} {s : List Int} (h : StB p nL s) : (zat s 0).toNat < nL := by have := h.2.2; have := (h.2.1 0 (by omega)).1; omega
theorem shn_at (hst : ∀ s, s ∈ st → StB p L.length s) (h0 : 0 < st.length) (i j : Nat) : zat (shn p L st i) j =
    if j = 20 + (zat (stI st i) 0).toNat then 1 else if j = 11 then hlp p (sin' L (stI st i)).op (zat (stI st i) 7) (zat (stI st i) 8) else if j = 9 then zat (stI st i) 9 else if j = 8 then zat (stI st i) 8 else if j = 7 then zat (stI st i) 7 else if j = 5 then zat (stI st i) 6 else if j = 4 then zat (stI st i) 5 else if j = 3 then zat (stI st i) 4 else if j = 2 then zat (stI st i) 3 else if j = 1 then zat (stI st i) 2 else if j = 0 then zat (stI st i) 1 else 0 :=
  srow_at p _ (pc_lt (hst _ (stI_mem h0 i))) j
/-- a row with its hole -/
theorem fil_at (hst : ∀ s, s ∈ st → StB p L.length s) (h0 : 0 < st.length) {i : Nat} (hi : i < n) (hs : List Int) (j : Nat) : zat (rat (fillH (shns p L st n) hs) i) j = if j = 6 then (if i < hs.length then zat hs i else 0) else zat (shn p L st i) j := by
  rw [fillH_rat (by rw [shns_len]; exact hi), shns_rat _ _ _ hi]
  by_cases e : i < hs.length
  · rw [if_pos e, zat_set (by rw [shn_len]; omega), if_pos e]
  · rw [if_neg e, if_neg e]
    split
    · rename_i h6
      subst h6
      rw [shn_at hst h0, if_neg (by omega), if_neg (by omega), if_neg (by omega), if_neg (by omega), if_neg (by omega), if_neg (by omega), if_neg (by omega), if_neg (by omega), if_neg (by omega), if_neg (by omega), if_neg (by omega)]
    · rfl
theorem tab_at {T : List (List Int)} {hs : List Int} {ps : List (Int × Int)} (hT : T = fS (fillH (shns p L st n) hs) ps (4 * n)) {i : Nat} (hi : i < n) (j : Nat) :
    zat (rat T i) j = if 12 ≤ j ∧ j < 16 then (cat ps (4 * i + (j - 12))).1 else if 16 ≤ j ∧ j < 20 then (cat ps (4 * i + (j - 16))).2 else zat (rat (fillH (shns p L st n) hs) i) j := by
  have hl : (fillH (shns p L st n) hs).length = n := by rw [fillH_len, shns_len]
  rw [hT, fS_at _ ps (by rw [hl]; exact hi) (fun k hk => by rw [hl] at hk; rw [fillH_row_len (by rw [shns_len]; exact hk), shns_rat _ _ _ hk, shn_len]; omega) j (4 * n) (by rw [hl]; omega)]
  by_cases c1 : 12 ≤ j ∧ j < 16
  · rw [if_pos c1, if_pos (by omega)]
  · rw [if_neg c1, if_neg (by omega)]
    by_cases c2 : 16 ≤ j ∧ j < 20
    · rw [if_pos c2, if_pos (by omega)]
    · rw [if_neg c2, if_neg (by omega)]
theorem tab_row {T : List (List Int)} {hs : List Int} {ps : List (Int × Int)} (hst : ∀ s, s ∈ st → StB p L.length s) (h0 : 0 < st.length) (hT : T = fS (fillH (shns p L st n) hs) ps (4 * n)) {i : Nat} (hi : i < n) : TRow p L (stI st i) (rat T i) := by
  have e : ∀ j, j ≠ 6 → ¬ (12 ≤ j ∧ j < 20) → zat (rat T i) j = zat (shn p L st i) j := fun j h6 hj => by
    rw [tab_at hT hi, if_neg (by omega), if_neg (by omega), fil_at hst h0 hi, if_neg h6]
  have f := shn_at hst h0 i
  refine ⟨?_, ?_, ?_, ?_, ?_, ?_, ?_, ?_, ?_, ?_, fun k hk => ?_⟩
  · rw [e 0 (by omega) (by omega), f, if_neg (by omega), if_neg (by omega), if_neg (by omega), if_neg (by omega), if_neg (by omega), if_neg (by omega), if_neg (by omega), if_neg (by omega), if_neg (by omega), if_neg (by omega), if_pos rfl]
  · rw [e 1 (by omega) (by omega), f, if_neg (by omega), if_neg (by omega), if_neg (by omega), if_neg (by omega), if_neg (by omega), if_neg (by omega), if_neg (by omega), if_neg (by omega), if_neg (by omega), if_pos rfl]
  · rw [e 2 (by omega) (by omega), f, if_neg (by omega), if_neg (by omega), if_neg (by omega), if_neg (by omega), if_neg (by omega), if_neg (by omega), if_neg (by omega), if_neg (by omega), if_pos rfl]
  · rw [e 3 (by omega) (by omega), f, if_neg (by omega), if_neg (by omega), if_neg (by omega), if_neg (by omega), if_neg (by omega), if_neg (by omega), if_neg (by omega), if_pos rfl]
  · rw [e 4 (by omega) (by omega), f, if_neg (by omega), if_neg (by omega), if_neg (by omega), if_neg (by omega), if_neg (by omega), if_neg (by omega), if_pos rfl]
  · rw [e 5 (by omega) (by omega), f, if_neg (by omega), if_neg (by omega), if_neg (by omega), if_neg (by omega), if_neg (by omega), if_pos rfl]
  · rw [e 7 (by omega) (by omega), f, if_neg (by omega), if_neg (by omega), if_neg (by omega), if_neg (by omega), if_pos rfl]
  · rw [e 8 (by omega) (by omega), f, if_neg (by omega), if_neg (by omega), if_neg (by omega), if_pos rfl]
  · rw [e 9 (by omega) (by omega), f, if_neg (by omega), if_neg (by omega), if_pos rfl]
  · rw [e 11 (by omega) (by omega), f, if_neg (by omega), if_pos rfl]
  · rw [e (20 + k) (by omega) (by omega), f]
    by_cases c : k = (zat (stI st i) 0).toNat
    · rw [if_pos (by omega), if_pos c]
    · rw [if_neg (by omega), if_neg c, if_neg (by omega), if_neg (by omega), if_neg (by omega), if_neg (by omega), if_neg (by omega), if_neg (by omega), if_neg (by omega), if_neg (by omega), if_neg (by omega), if_neg (by omega)]
/-- a pair that rows show: a step's, or a hole's -/
theorem fil_pair (hst : ∀ s, s ∈ st → StB p L.length s) (h0 : 0 < st.length) {i : Nat} (hi : i < n) (hs : List Int) {k : Nat} (hk : k < 4) :
    (k < 3 ∧ zat (rat (fillH (shns p L st n) hs) i) (3 + k) = zat (stI st i) (4 + k) ∧ zat (rat (fillH (shns p L st n) hs) i) (7 + k) = zat (stI st i) (7 + k)) ∨
    (k = 3 ∧ zat (rat (fillH (shns p L st n) hs) i) (3 + k) = (if i < hs.length then zat hs i else 0) ∧ zat (rat (fillH (shns p L st n) hs) i) (7 + k) = 0) := by
  have f := shn_at hst h0 i
  rcases four_cases hk with rfl | rfl | rfl | rfl
  · refine .inl ⟨by omega, ?_, ?_⟩
    · rw [fil_at hst h0 hi, if_neg (by omega), f, if_neg (by omega), if_neg (by omega), if_neg (by omega), if_neg (by omega), if_neg (by omega), if_neg (by omega), if_neg (by omega), if_pos rfl]
    · rw [fil_at hst h0 hi, if_neg (by omega), f, if_neg (by omega), if_neg (by omega), if_neg (by omega), if_neg (by omega), if_pos rfl]
  · refine .inl ⟨by omega, ?_, ?_⟩
    · rw [fil_at hst h0 hi, if_neg (by omega), f, if_neg (by omega), if_neg (by omega), if_neg (by omega), if_neg (by omega), if_neg (by omega), if_neg (by omega), if_pos rfl]
    · rw [fil_at hst h0 hi, if_neg (by omega), f, if_neg (by omega), if_neg (by omega), if_neg (by omega), if_pos rfl]
  · refine .inl ⟨by omega, ?_, ?_⟩
    · rw [fil_at hst h0 hi, if_neg (by omega), f, if_neg (by omega), if_neg (by omega), if_neg (by omega), if_neg (by omega), if_neg (by omega), if_pos rfl]
    · rw [fil_at hst h0 hi, if_neg (by omega), f, if_neg (by omega), if_neg (by omega), if_pos rfl]
  · refine .inr ⟨rfl, ?_, ?_⟩
    · rw [fil_at hst h0 hi, if_pos rfl]
    · rw [fil_at hst h0 hi, if_neg (by omega), f, if_neg (by omega), if_neg (by omega), if_neg (by omega), if_neg (by omega), if_neg (by omega), if_neg (by omega), if_neg (by omega), if_neg (by omega), if_neg (by omega), if_neg (by omega), if_neg (by omega)]
theorem allc_mem {x : Int} : x ∈ allc (shns p L st n) ↔ ∃ i, i < n ∧ ∃ k, k < 3 ∧ x = zat (shn p L st i) (3 + k) := by
  unfold allc
  rw [List.mem_flatMap]
  constructor
  · rintro ⟨r, hr, hx⟩
    obtain ⟨i, hi, rfl⟩ := List.mem_map.1 hr
    rw [List.mem_range] at hi
    unfold rc3 at hx
    simp only [List.mem_cons, List.not_mem_nil, or_false] at hx
    rcases hx with rfl | rfl | rfl
    · exact ⟨i, hi, 0, by omega, rfl⟩
    · exact ⟨i, hi, 1, by omega, rfl⟩
    · exact ⟨i, hi, 2, by omega, rfl⟩
  · rintro ⟨i, hi, k, hk, rfl⟩
    refine ⟨shn p L st i, List.mem_map.2 ⟨i, List.mem_range.2 hi, rfl⟩, ?_⟩
    unfold rc3
    have : k = 0 ∨ k = 1 ∨ k = 2 := by omega
    rcases this with rfl | rfl | rfl <;> simp
end

end Go.Proofs.YtfppkjpgihnibaaGreat

namespace Go.Proofs.YtfppkjpgihnibaaGreat
open Go.RowKit Go.Maps

/-- a run's outcome: what the first cell of its last step is -/
def outS (st : List (List Int)) : Int := zat (rat st (st.length - 1)) 7
/-- the steps of a row of steps, cell by cell -/
theorem StR.at {base : Nat} {w : World} {v : Value} {l : List (List Int)} (h : StR base w v l) (h0 : 0 < l.length) (h10 : ∀ s, s ∈ l → s.length = 10) : ∃ g cap, v = .slice (some ⟨g, 0, none⟩) l.length cap ∧ l.length ≤ maxLen ∧ g < w.heap.size ∧ ∀ i j, i < l.length → j < 10 → w.cell? ⟨g, i * 10 + j, none⟩ = some (.int .i64 (zat (rat l i) j)) := by
  have h' := h
  rcases h.2 with ⟨_, hn⟩ | ⟨g, cap, cur, rfl, hb, hg, hn, hm, hs, ht⟩
  · omega
  · refine ⟨g, cap, rfl, by omega, (Array.getElem?_eq_some_iff.1 hg).1, fun i j hi hj => ?_⟩
    have := World.ownsRow.cells h' (g := g) rfl (i * 10 + j) _ (stvs_at l h10 i j hi hj)
    have hadd : (⟨g, 0, none⟩ : Addr).add (i * 10 + j) = ⟨g, 0 + (i * 10 + j), none⟩ := by unfold Addr.add; split <;> simp_all
    rw [hadd, Nat.zero_add] at this
    exact this

/-- what rules.Table gives -/
def PtR (p : Nat) (size : Int) (L : List InsZ) (n : Int) (w : World) (e : Ending) (w' : World) : Prop := Below w.heap.size w w' ∧
  if n < 1 ∨ 512 < n ∨ 64 < L.length then e = .returned (.tuple #[.slice none 0 0, .int .i64 0, errV 2])
  else if fz6 (p : Int) size L.length (n - 1) ≠ 0 then e = .returned (.tuple #[.slice none 0 0, .int .i64 0, errV (fz6 (p : Int) size L.length (n - 1))])
  else match mwalk p size L (n - 1).toNat with
    | .bad z => e = .returned (.tuple #[.slice none 0 0, .int .i64 0, errV z])
    | .good st _ => if n.toNat < (tho p L st n.toNat).length then e = .returned (.tuple #[.slice none 0 0, .int .i64 0, errV 9])
      else ∃ T G K, TabG p L st n.toNat T ∧ e = .returned (.tuple #[.slice (some ⟨G, 0, none⟩) T.length T.length, .int .i64 (outS st), .nilIface]) ∧ Tbl w.heap.size G K w' T

set_option maxRecDepth 100000 in
set_option maxHeartbeats 4000000 in
/-- no such table: its size -/
theorem ptable_size (p b : Nat) (size n : Int) (aL : Option Addr) (cL : Nat) (L : List InsZ) (w : World) (hnL : L.length ≤ 281474976710656) (hno : n < 1 ∨ 512 < n ∨ 64 < L.length) :
    Calls Tryz.prog 6 #[.pointer (some ⟨b, 0, none⟩), .agg #[.int .i64 size, .slice aL L.length cL], .int .i64 n] w (PtR p size L n w) := by
  obtain ⟨W0, hW0⟩ : ∃ W0, W0 = w.alloc (.cells #[.int .i64 size, .slice aL L.length cL] 24) := ⟨_, rfl⟩
  have hb0 : Below w.heap.size w W0 := by rw [hW0]; exact (Below.refl _ _).alloc (Nat.le_refl _) _
  have hs0 : W0.heap[w.heap.size]? = some (.cells #[.int .i64 size, .slice aL L.length cL] 24 (0, 0)) := by rw [hW0]; exact heap_alloc_new w _
  have k1 : W0.cell? ⟨w.heap.size, 1, none⟩ = some (.slice aL L.length cL) := by simp [World.cell?, hs0]
  have HB0 := hid hb0
  have HNO := hid hno
  have HR : Hid (∀ e w', Below w.heap.size w w' → e = .returned (.tuple #[.slice none 0 0, .int .i64 0, .iface 49 (.int .i64 2)]) → PtR p size L n w e w') := fun e w' h1 h2 => ⟨h1, by rw [if_pos HNO.out]; exact h2⟩
  clear hb0 hs0
  generalize L.length = nL at *
  by_cases h1 : n < 1
  · clear HNO hno
    go_enter Tryz.func6, Tryz.ntmps6
    go_wp2_with fail
    rw [← hW0]
    clear hW0
    go_wp2_with fail
    go_ret3
    exact HR.out _ _ HB0.out rfl
  · by_cases h2 : 512 < n
    · clear HNO hno
      go_enter Tryz.func6, Tryz.ntmps6
      go_wp2_with fail
      rw [← hW0]
      clear hW0
      go_wp2_with fail
      go_ret3
      exact HR.out _ _ HB0.out rfl
    · have h3 : (64 : Int) < (nL : Int) := by omega
      clear HNO hno
      go_enter Tryz.func6, Tryz.ntmps6
      go_wp2_with fail
      rw [← hW0]
      clear hW0
      go_wp2_with fail
      go_ret3
      exact HR.out _ _ HB0.out rfl

end Go.Proofs.YtfppkjpgihnibaaGreat

namespace Go.Proofs.YtfppkjpgihnibaaGreat
open Go.RowKit Go.Maps

theorem neEr (T : TypeId) (v : Value) (w : World) : (binOp BinOp.neq 30 (.iface T v) .nilIface).run Tryz.prog w = .ok (.bool true) w := by kernel_rfl
theorem neNr (w : World) : (binOp BinOp.neq 30 .nilIface .nilIface).run Tryz.prog w = .ok (.bool false) w := by kernel_rfl

theorem Tbl.mono {base base' G : Nat} {K : Nat → Nat} {w : World} {R : List (List Int)} (h : Tbl base G K w R) (e : base' ≤ base) : Tbl base' G K w R :=
  ⟨h.lt, h.out, h.row, h.inj, ⟨Nat.le_trans e h.new.1, fun k hk => ⟨Nat.le_trans e (h.new.2 k hk).1, (h.new.2 k hk).2⟩⟩, h.soft⟩

set_option maxRecDepth 100000 in
set_option maxHeartbeats 4000000 in
theorem ptable_yes (p b : Nat) (size n : Int) (aL : Option Addr) (cL : Nat) (L : List InsZ) (w : World) (h3 : 3 ≤ p) (h4 : p ≤ 2147483647) (hpr : Num.Prime p) (hp : w.cell? ⟨b, 0, none⟩ = some (.int .i64 p)) (hL : LstI w.heap.size w aL cL L) (hIB : InsB L) (hyes : ¬ (n < 1 ∨ 512 < n ∨ 64 < L.length)) :
    Calls Tryz.prog 6 #[.pointer (some ⟨b, 0, none⟩), .agg #[.int .i64 size, .slice aL L.length cL], .int .i64 n] w (PtR p size L n w) := by
  have hmx : Tryz.prog.follows .mixedOrders = true := by kernel_rfl
  obtain ⟨m, rfl⟩ := Int.eq_ofNat_of_zero_le (show 0 ≤ n by omega)
  have hm1 : 1 ≤ m := by omega
  have hm2 : m ≤ 512 := by omega
  have hL64 : L.length ≤ 64 := by omega
  obtain ⟨W0, hW0⟩ : ∃ W0, W0 = w.alloc (.cells #[.int .i64 size, .slice aL L.length cL] 24) := ⟨_, rfl⟩
  have hb0 : Below w.heap.size w W0 := by rw [hW0]; exact (Below.refl _ _).alloc (Nat.le_refl _) _
  have hz : W0.heap.size = w.heap.size + 1 := by rw [hW0]; simp
  have hs0 : W0.heap[w.heap.size]? = some (.cells #[.int .i64 size, .slice aL L.length cL] 24 (0, 0)) := by rw [hW0]; exact heap_alloc_new w _
  have hcode : ∀ W, Below W0.heap.size W0 W → W.cell? ⟨w.heap.size, 0, none⟩ = some (.int .i64 size) ∧ W.cell? ⟨w.heap.size, 1, none⟩ = some (.slice aL L.length cL) := fun W h => by
    have := (h.block w.heap.size (by omega)).trans hs0
    exact ⟨by simp [World.cell?, this], by simp [World.cell?, this]⟩
  have hpW : ∀ W, Below W0.heap.size W0 W → W.cell? ⟨b, 0, none⟩ = some (.int .i64 p) := fun W h => ((hb0.trans (h.mono hb0.size)).cell (p := ⟨b, 0, none⟩) (World.block_lt_of_cell? _ _ hp)).trans hp
  have hLW : ∀ W, Below W0.heap.size W0 W → LstI W.heap.size W aL cL L := fun W h => (hL.below (hb0.trans (h.mono hb0.size))).mono (hb0.trans (h.mono hb0.size)).size
  have HB0 := hid hb0
  have HPW := hid hpW
  have HLW := hid hLW
  have HCO := hid hcode
  have HWK := hid (pwalk_any p b size ((m : Int) - 1) aL cL L W0 h3 h4 hpr (hpW W0 (Below.refl _ _)) (by omega) (hLW W0 (Below.refl _ _)) hIB)
  obtain ⟨k0, k1⟩ := hcode W0 (Below.refl _ _)
  obtain ⟨nL, hnl⟩ : ∃ nL, nL = L.length := ⟨_, rfl⟩
  have HNL := hid hnl
  have HY := hid hyes
  rw [← hnl] at hW0 k1 hL64 ⊢
  rw [← hnl] at HWK HCO
  have t1 : ¬ (m : Int) < 1 := by omega
  have t2 : ¬ (512 : Int) < (m : Int) := by omega
  have t3 : ¬ (64 : Int) < (nL : Int) := by omega
  have wm : IntKind.i64.wrap ((m : Int) - 1) = (m : Int) - 1 := by rw [IntKind.wrap_i64]; omega
  clear hb0 hs0 hcode hpW hLW hnl hyes hL hp hz
  go_enter Tryz.func6, Tryz.ntmps6
  go_wp2_with fail
  rw [← hW0]
  clear hW0
  go_wp2_with fail
  refine HWK.out.mono ?_
  rintro e w1 hwl
  obtain ⟨hb1, hwl⟩ := hwl
  have HB1 := hid hb1
  have hcase : (∃ z, z ≠ 0 ∧ e = .returned (.tuple #[.slice none 0 0, .iface 49 (.int .i64 z)]) ∧ ∀ e' w', Below w.heap.size w w' → e' = .returned (.tuple #[.slice none 0 0, .int .i64 0, .iface 49 (.int .i64 z)]) → PtR p size L (m : Int) w e' w') ∨
      (∃ st v, e = .returned (.tuple #[v, .nilIface]) ∧ StR W0.heap.size w1 v st ∧ (∀ s, s ∈ st → StB p L.length s) ∧ 0 < st.length ∧ ∀ e' w', Below w.heap.size w w' → (if m < (tho p L st m).length then e' = .returned (.tuple #[.slice none 0 0, .int .i64 0, errV 9]) else ∃ T G K, TabG p L st m T ∧ e' = .returned (.tuple #[.slice (some ⟨G, 0, none⟩) T.length T.length, .int .i64 (outS st), .nilIface]) ∧ Tbl w.heap.size G K w' T) → PtR p size L (m : Int) w e' w') := by
    by_cases hz : fz6 (p : Int) size L.length ((m : Int) - 1) ≠ 0
    · rw [if_pos hz, errV_nz hz] at hwl
      refine .inl ⟨_, hz, hwl, fun e' w' h1 h2 => ⟨h1, ?_⟩⟩
      rw [if_neg HY.out, if_pos hz, errV_nz hz]
      exact h2
    · rw [if_neg hz] at hwl
      cases hX : mwalk p size L ((m : Int) - 1).toNat with
      | bad z =>
        rw [hX] at hwl
        have hz0 := mgo_bad _ _ _ _ _ _ _ hX
        refine .inl ⟨z, hz0, by rw [← errV_nz hz0]; exact hwl, fun e' w' h1 h2 => ⟨h1, ?_⟩⟩
        rw [if_neg HY.out, if_neg hz, hX]
        show e' = _
        rw [errV_nz hz0]
        exact h2
      | good st cs =>
        rw [hX] at hwl
        obtain ⟨v, h5, h6⟩ := hwl
        obtain ⟨h7, h8⟩ := mwalk_steps h3 hX
        refine .inr ⟨st, v, h5, h6, h7, h8, fun e' w' h1 h2 => ⟨h1, ?_⟩⟩
        rw [if_neg HY.out, if_neg hz, hX]
        show if (m : Int).toNat < _ then _ else _
        rw [Int.toNat_natCast]
        exact h2
  clear hwl HWK
  rcases hcase with ⟨z, hz, rfl, hR⟩ | ⟨st, v, rfl, hst, hsb, hs0, hR⟩
  · have HR := hid hR
    have HBW := hid (HB0.out.trans (hb1.mono HB0.out.size))
    have hne := fun W => neEr 49 (.int .i64 z) W
    clear hR hb1 HB1
    go_wp2_with fail
    go_ret3
    exact HR.out _ _ HBW.out rfl
  · obtain ⟨g, cap, rfl, hsm, hgl, hcel⟩ := hst.at hs0 (fun s h => (hsb s h).1)
    have HSH := hid (pshown_any p b cL g cap m size aL L st w1 hpr h3 h4 (HPW.out w1 hb1) (by have := HNL.out; omega) (HLW.out w1 hb1) hsb hs0 hsm hcel hm1 hm2)
    rw [← HNL.out] at HSH
    obtain ⟨c0, c1⟩ := HCO.out w1 hb1
    have HR := hid hR
    have HSB := hid hsb
    have HCEL := hid hcel
    obtain ⟨ns, hns⟩ : ∃ ns, ns = st.length := ⟨_, rfl⟩
    have HNS := hid hns
    rw [← hns] at HSH hs0 hsm ⊢
    have hne := fun W => neNr W
    clear hst hR hb1 hsb hcel hns
    go_wp2_with fail
    refine HSH.out.mono ?_
    rintro e w2 ⟨G, K, rfl, hT2, hb2⟩
    have hwp : ∀ x, x ∈ allc (shns p L st m) → 0 ≤ x ∧ x ≤ 2147483647 := fun x hx => by have := allc_shns h3 HSB.out (by have := HNS.out; omega) hx; omega
    have hlens : ∀ k, k < (shns p L st m).length → 20 ≤ (rat (shns p L st m) k).length ∧ (rat (shns p L st m) k).length ≤ 100000 := fun k hk => by
      rw [shns_len] at hk
      rw [shns_rat _ _ _ hk, shn_len]
      have := HNL.out
      omega
    have HFH := hid (pholes_any w1.heap.size G K (shns p L st m) w2 (by rw [shns_len]; omega) hlens hb2.size hT2 hwp)
    rw [shns_len] at HFH
    have HB2 := hid (HB1.out.trans (hb2.mono HB1.out.size))
    have HLE := hid hlens
    have HB12 := hid hb2
    clear HSH c0 c1 hT2 hb2 hwp hlens
    go_wp2_with fail
    refine HFH.out.mono ?_
    rintro e w3 ⟨hb3, hcs⟩
    have HB13 := hid (HB12.out.trans (hb3.mono (Nat.le_refl _)))
    have HB3 := hid (HB0.out.trans ((HB1.out.trans (HB13.out.mono HB1.out.size)).mono HB0.out.size))
    rcases hcs with ⟨hful, rfl⟩ | ⟨hfit, rfl, hT3⟩
    · have HFUL : Hid (m < (tho p L st m).length) := hful
      clear hful hb3 HFH
      go_wp2_with fail
      go_ret3
      exact HR.out _ _ HB3.out (by rw [if_pos HFUL.out]; rfl)
    · have HFIT : Hid (¬ m < (tho p L st m).length) := Nat.not_lt.2 hfit
      have HFI2 : Hid ((tho p L st m).length ≤ m) := hfit
      have hT3' : Tbl w1.heap.size G K w3 (fillH (shns p L st m) (tho p L st m)) := hT3
      have HFS := hid (psorted_any p b w1.heap.size G K (fillH (shns p L st m) (tho p L st m)) w3 h3 h4 (HPW.out w3 (HB1.out.trans (HB13.out.mono HB1.out.size))) (by rw [fillH_len, shns_len]; omega) (fun k hk => by
        rw [fillH_len] at hk
        rw [fillH_row_len hk]
        exact HLE.out k hk) (fits_tab h3 h4 (by have := HNL.out; omega) HSB.out (by have := HNS.out; omega)) HB13.out.size hT3')
      rw [fillH_len, shns_len] at HFS
      clear hb3 HFH hT3 hT3' hfit
      go_wp2_with fail
      refine HFS.out.mono ?_
      rintro e w4 ⟨ps, rfl, hso, hT4, hb4⟩
      have hB14 := HB13.out.trans (hb4.mono (Nat.le_refl _))
      have HB4 := hid (HB0.out.trans ((HB1.out.trans (hB14.mono HB1.out.size)).mono HB0.out.size))
      have HTT : Hid (TabG p L st m (fS (fillH (shns p L st m) (tho p L st m)) ps (4 * m))) := ⟨HFI2.out, ps, hso, rfl⟩
      have HT4 := hid (hT4.mono (Nat.le_trans HB0.out.size HB1.out.size))
      obtain ⟨k, hk⟩ : ∃ k, k = ns - 1 := ⟨_, rfl⟩
      have e1 : (ns : Int) - 1 = (k : Int) := by omega
      have w1' : IntKind.i64.wrap (k : Int) = (k : Int) := by unfold maxLen at hsm; rw [IntKind.wrap_i64]; omega
      have lk : (k : Int) < (ns : Int) := by omega
      have cv : w4.cell? ⟨g, k * 10 + 7, none⟩ = some (.int .i64 (outS st)) := by
        have := HCEL.out k 7 (by have := HNS.out; omega) (by omega)
        rw [show outS st = zat (rat st k) 7 by unfold outS; rw [hk, HNS.out]]
        exact (hB14.cell (p := ⟨g, k * 10 + 7, none⟩) hgl).trans this
      have HEND : Hid (∀ w', w'.heap = w4.heap → Below w.heap.size w w' → PtR p size L (m : Int) w (.returned (.tuple #[.slice (some ⟨G, 0, none⟩) m m, .int .i64 (outS st), .nilIface])) w') := fun w' hh hb => by
        refine HR.out _ _ hb ?_
        rw [if_neg HFIT.out]
        refine ⟨_, G, K, HTT.out, by rw [HTT.out.len], HT4.out.keep (by rw [hh]) (fun _ _ => by rw [hh])⟩
      clear hk hso hT4 hb4 hB14 HFS HB12 HB13 HLE
      generalize outS st = ov at *
      go_wp2_with fail
      go_region
      go_wp2_with fail
      go_ret3
      exact HEND.out w4.drew rfl HB4.out.drew

theorem ptable_any (p b : Nat) (size n : Int) (aL : Option Addr) (cL : Nat) (L : List InsZ) (w : World) (h3 : 3 ≤ p) (h4 : p ≤ 2147483647) (hpr : Num.Prime p) (hp : w.cell? ⟨b, 0, none⟩ = some (.int .i64 p)) (hnL : L.length ≤ 281474976710656) (hL : LstI w.heap.size w aL cL L) (hIB : InsB L) :
    Calls Tryz.prog 6 #[.pointer (some ⟨b, 0, none⟩), .agg #[.int .i64 size, .slice aL L.length cL], .int .i64 n] w (PtR p size L n w) := by
  by_cases h : n < 1 ∨ 512 < n ∨ 64 < L.length
  · exact ptable_size p b size n aL cL L w hnL h
  · exact ptable_yes p b size n aL cL L w h3 h4 hpr hp hL hIB h

end Go.Proofs.YtfppkjpgihnibaaGreat

namespace Go.Proofs.YtfppkjpgihnibaaGreat
open Go.RowKit Go.Maps

/-- the slices of a table's rows -/
def slcs (K : Nat → Nat) (m i : Nat) : List Value := (List.range i).map fun k => .slice (some ⟨K k, 0, none⟩) m m
/-- one block more -/
def kup (K : Nat → Nat) (i Kn k : Nat) : Nat := if k = i then Kn else K k
theorem slcs_more (K : Nat → Nat) (m i Kn : Nat) : slcs (kup K i Kn) m (i + 1) = slcs K m i ++ [.slice (some ⟨Kn, 0, none⟩) m m] := by
  unfold slcs
  rw [List.range_succ, List.map_append]
  congr 1
  · apply List.map_congr_left
    intro k hk
    rw [List.mem_range] at hk
    rw [kup, if_neg (by omega)]
  · simp [kup]
/-- how far the reference's Table has come with its rows -/
structure RtI (base m i : Nat) (R : List (List Int)) (v : Value) (w1 wr : World) : Prop where
  rows : ∃ K : Nat → Nat, wr.ownsRow base 46 1 v i (slcs K m i) ∧ (∀ k, k < i → IRow (K k) wr (rat R k)) ∧ (∀ j k, j < i → k < i → K j = K k → j = k) ∧ ∀ k, k < i → base ≤ K k ∧ some (K k) ≠ v.ownBlock
  bel : Below base w1 wr
theorem RtI.first {base m : Nat} {R : List (List Int)} {w1 : World} : RtI base m 0 R (.slice none 0 0) w1 w1 :=
  ⟨⟨fun _ => 0, World.ownsRow_nil _ _ _ _, fun _ hk => absurd hk (Nat.not_lt_zero _), fun _ _ hj => absurd hj (Nat.not_lt_zero _), fun _ hk => absurd hk (Nat.not_lt_zero _)⟩, Below.refl _ _⟩
/-- a row more: X the world with the row, Y that with the slice to be appended, Z behind it -/
theorem RtI.more {base m i Kn : Nat} {R : List (List Int)} {v v' : Value} {w1 wr X Y Z : World} (h : RtI base m i R v w1 wr) (hbs : base ≤ wr.heap.size) (hX : Below wr.heap.size wr X) (hr : IRow Kn X (rat R i)) (hK : wr.heap.size ≤ Kn) (hY : Below X.heap.size X Y)
    (K : Nat → Nat) (hk1 : ∀ k, k < i → IRow (K k) wr (rat R k)) (hk2 : ∀ j k, j < i → k < i → K j = K k → j = k) (hk3 : ∀ k, k < i → base ≤ K k ∧ some (K k) ≠ v.ownBlock) (hlt : ∀ b, v.ownBlock = some b → base ≤ b ∧ b < wr.heap.size)
    (hZ : Z.ownsRow base 46 1 v' (i + 1) (slcs K m i ++ [.slice (some ⟨Kn, 0, none⟩) m m])) (hg : Y.grownBy Z v.ownBlock) (hw : v'.ownBlock = v.ownBlock ∨ v'.ownBlock = some Y.heap.size) : RtI base m (i + 1) R v' w1 Z := by
  have hXY : Below wr.heap.size wr Y := hX.trans (hY.mono hX.size)
  have hnb : some Kn ≠ v.ownBlock := fun e => by have := (hlt Kn e.symm).2; omega
  refine ⟨⟨kup K i Kn, by rw [slcs_more]; exact hZ, fun k hk => ?_, fun j k hj hk e => ?_, fun k hk => ?_⟩, ?_⟩
  · unfold kup
    by_cases e : k = i
    · subst e
      rw [if_pos rfl]
      exact (hr.block (hY.block Kn hr.lt)).block (hg.block Kn (Nat.lt_of_lt_of_le hr.lt hY.size) hnb)
    · rw [if_neg e]
      have h1 := hk1 k (by omega)
      exact (h1.block (hXY.block _ h1.lt)).block (hg.block _ (Nat.lt_of_lt_of_le h1.lt hXY.size) (hk3 k (by omega)).2)
  · unfold kup at e
    by_cases e1 : j = i
    · by_cases e2 : k = i
      · omega
      · rw [if_pos e1, if_neg e2] at e; have := (hk1 k (by omega)).lt; omega
    · by_cases e2 : k = i
      · rw [if_neg e1, if_pos e2] at e; have := (hk1 j (by omega)).lt; omega
      · rw [if_neg e1, if_neg e2] at e; exact hk2 j k (by omega) (by omega) e
  · unfold kup
    by_cases e : k = i
    · rw [if_pos e]
      refine ⟨by omega, fun e2 => ?_⟩
      rcases hw with h2 | h2
      · rw [h2] at e2; exact hnb e2
      · rw [h2] at e2; injection e2 with e2; have := hr.lt; have := hY.size; omega
    · rw [if_neg e]
      refine ⟨(hk3 k (by omega)).1, fun e2 => ?_⟩
      rcases hw with h2 | h2
      · rw [h2] at e2; exact (hk3 k (by omega)).2 e2
      · rw [h2] at e2; injection e2 with e2; have := (hk1 k (by omega)).lt; have := hXY.size; omega
  · exact (h.bel.trans (hXY.mono hbs)).grown hg (Nat.le_trans hbs hXY.size) (fun b hb => (hlt b hb).1)
/-- all rows are there: a table -/
theorem RtI.tbl {base m n : Nat} {R : List (List Int)} {v : Value} {w1 wr : World} (h : RtI base m n R v w1 wr) (hn : 0 < n) (hR : R.length = n) (hm : ∀ k, k < n → (rat R k).length = m) : ∃ G K cap, v = .slice (some ⟨G, 0, none⟩) n cap ∧ n ≤ cap ∧ Tbl base G K wr R := by
  obtain ⟨K, ho, h1, h2, h3⟩ := h.rows
  have ho' := ho
  rcases ho.2 with ⟨_, e⟩ | ⟨G, cap, cur, rfl, hb, hg, hc, _⟩
  · omega
  · refine ⟨G, K, cap, rfl, hc, (Array.getElem?_eq_some_iff.1 hg).1, fun k hk => ?_, fun k hk => h1 k (by omega), fun j k hj hk => h2 j k (by omega) (by omega), ⟨hb, fun k hk => ⟨(h3 k (by omega)).1, fun e => (h3 k (by omega)).2 (by rw [e]; rfl)⟩⟩, fun j => by simp [World.frozen?, hg]⟩
    have hx : (slcs K m n)[k]? = some (.slice (some ⟨K k, 0, none⟩) m m) := by unfold slcs; simp [show k < n by omega]
    have := World.ownsRow.cells ho' (g := G) rfl k _ hx
    have hadd : (⟨G, 0, none⟩ : Addr).add k = ⟨G, 0 + k, none⟩ := by unfold Addr.add; split <;> simp_all
    rw [hadd, Nat.zero_add] at this
    rw [hm k (by omega)]
    exact this

end Go.Proofs.YtfppkjpgihnibaaGreat
