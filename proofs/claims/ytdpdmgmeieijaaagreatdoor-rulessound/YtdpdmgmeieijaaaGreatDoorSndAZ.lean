/- A table's row, plainly; what the rules say of one step and the next. A table's pairs in order, plainly. What rows that break no rule say, plainly: which instruction each row chooses, what it works, what is next; the pairs are a function. Package rules: Table, walked. -/
import Derived.Test.YtdpdmgmeieijaaaGreatDoorSndAO
import Derived.Test.YtdpdmgmeieijaaaGreatDoorSndAY
import Derived.Test.YtdpdmgmeieijaaaGreatDoorSndAR
import Derived.Test.YtdpdmgmeieijaaaGreatDoorSndAN
import Derived.Test.YtdpdmgmeieijaaaGreatDoorSndAX
namespace Go.Proofs.YtdpdmgmeieijaaaGreatDoor
open Go.RowKit Go.Maps

/-- a row that shows a step -/
structure TRow (p : Nat) (L : List InsZ) (s : List Int) (r : List Int) : Prop where
  e0 : zat r 0 = zat s 1
  e1 : zat r 1 = zat s 2
  e2 : zat r 2 = zat s 3
  e3 : zat r 3 = zat s 4
  e4 : zat r 4 = zat s 5
  e5 : zat r 5 = zat s 6
  e7 : zat r 7 = zat s 7
  e8 : zat r 8 = zat s 8
  e9 : zat r 9 = zat s 9
  e11 : zat r 11 = hlp p (sin' L s).op (zat s 7) (zat s 8)
  es : ∀ k, k < L.length → zat r (20 + k) = if k = (zat s 0).toNat then 1 else 0

theorem invz_one {p : Nat} (hp : Num.Prime p) (h3 : 3 ≤ p) {z : Int} (h0 : 0 ≤ z) (h1 : z < p) (hz : z ≠ 0) : ∃ k : Int, (invn p z : Int) * z = 1 + (p : Int) * k := by
  have hd : ¬ (p : Int) ∣ z := fun ⟨c, hc⟩ => by
    rcases Int.lt_trichotomy c 0 with h | h | h
    · have : (p : Int) * c ≤ (p : Int) * (-1) := Int.mul_le_mul_of_nonneg_left (by omega) (by omega)
      omega
    · subst h; simp at hc; exact hz hc
    · have : (p : Int) * 1 ≤ (p : Int) * c := Int.mul_le_mul_of_nonneg_left (by omega) (by omega)
      omega
  obtain ⟨k, hk⟩ := invn_dvd hp h3 hd
  exact ⟨k, by omega⟩
theorem em_zero {p : Nat} {x k : Int} (h : x = (p : Int) * k) : x % (p : Int) = 0 := by rw [h, Int.mul_emod_right]
section
variable {p : Nat} {L : List InsZ} {s r : List Int}

end

end Go.Proofs.YtdpdmgmeieijaaaGreatDoor

namespace Go.Proofs.YtdpdmgmeieijaaaGreatDoor
open Go.RowKit Go.Maps

theorem cat_get {ps : List (Int × Int)} {m : Nat} (h : m < ps.length) : cat ps m = ps[m] := by simp [cat, h]
theorem cat_memZ {ps : List (Int × Int)} {m : Nat} (h : m < ps.length) : cat ps m ∈ ps := by rw [cat_get h]; exact List.getElem_mem h
theorem four_cases {k : Nat} (h : k < 4) : k = 0 ∨ k = 1 ∨ k = 2 ∨ k = 3 := by omega
theorem pr4_mem {p : Nat} {R : List (List Int)} {a v : Nat} {x : Int × Int} : x ∈ pr4 p R a v ↔ ∃ i, i < R.length ∧ ∃ k, k < 4 ∧ x = red p (zat (rat R i) (a + k), zat (rat R i) (v + k)) := by
  unfold pr4
  rw [List.mem_flatMap]
  constructor
  · rintro ⟨r, hr, hx⟩
    obtain ⟨i, hi, rfl⟩ := List.getElem_of_mem hr
    obtain ⟨y, hy, rfl⟩ := List.mem_map.1 hx
    have hri : rat R i = R[i] := by simp [rat, hi]
    obtain ⟨k, hk, rfl⟩ := List.getElem_of_mem hy
    rw [rw4_len] at hk
    refine ⟨i, hi, k, hk, ?_⟩
    rw [hri, ← rw4_at _ _ _ _ hk, cat_get (by rw [rw4_len]; exact hk)]
  · rintro ⟨i, hi, k, hk, rfl⟩
    refine ⟨rat R i, rat_mem hi, List.mem_map.2 ⟨cat (rw4 (rat R i) a v) k, cat_memZ (by rw [rw4_len]; exact hk), by rw [rw4_at _ _ _ _ hk]⟩⟩
theorem pr4_cat (p : Nat) (a v : Nat) {k : Nat} (hk : k < 4) : ∀ (R : List (List Int)) (i : Nat), i < R.length → cat (pr4 p R a v) (4 * i + k) = red p (zat (rat R i) (a + k), zat (rat R i) (v + k))
  | [], _, h => absurd h (Nat.not_lt_zero _)
  | r :: rs, 0, _ => by
    have : pr4 p (r :: rs) a v = (rw4 r a v).map (red p) ++ pr4 p rs a v := rfl
    rw [this]
    rcases four_cases hk with rfl | rfl | rfl | rfl <;> rfl
  | r :: rs, i + 1, h => by
    have : pr4 p (r :: rs) a v = (rw4 r a v).map (red p) ++ pr4 p rs a v := rfl
    have ih := pr4_cat p a v hk rs i (by simpa using h)
    have e : rat (r :: rs) (i + 1) = rat rs i := by simp [rat]
    rw [e, ← ih, this]
    unfold cat
    rw [List.getD_eq_getElem?_getD, List.getD_eq_getElem?_getD, List.getElem?_append_right (by rw [List.length_map, rw4_len]; omega), List.length_map, rw4_len]
    congr 2
    omega
section
variable {p : Nat} {L : List InsZ} {st : List (List Int)} {n : Nat}
end

end Go.Proofs.YtdpdmgmeieijaaaGreatDoor

namespace Go.Proofs.YtdpdmgmeieijaaaGreatDoor
open Go.RowKit Go.Maps

theorem em_one {p : Nat} (h3 : 3 ≤ p) : (1 : Int) % (p : Int) = 1 := Int.emod_eq_of_lt (by decide) (by omega)
theorem em_eq {p : Nat} {x y : Int} (h : (x - y) % (p : Int) = 0) : x % (p : Int) = y % (p : Int) := Int.emod_eq_emod_iff_emod_sub_eq_zero.2 h
theorem cho_two {p : Nat} (hp : Num.Prime p) (h3 : 3 ≤ p) {z : Int} (h : (z * (z - 1)) % (p : Int) = 0) : z % (p : Int) = 0 ∨ z % (p : Int) = 1 := by
  rcases Pol.prime_mul hp (Int.dvd_of_emod_eq_zero h) with d | d
  · exact .inl (Int.emod_eq_zero_of_dvd d)
  · exact .inr ((em_eq (Int.emod_eq_zero_of_dvd d)).trans (em_one h3))
theorem smz_cnt {p : Nat} (h3 : 3 ≤ p) (s : Nat → Int) : ∀ m, (∀ k, k < m → s k % (p : Int) = 0 ∨ s k % (p : Int) = 1) → ∃ c : Nat, c ≤ m ∧ smz p s (fun _ => 1) m = (c : Int) % (p : Int) ∧ (c = 0 → ∀ k, k < m → s k % (p : Int) = 0) ∧ (c = 1 → ∃ k, k < m ∧ ∀ j, j < m → s j % (p : Int) = if j = k then 1 else 0)
  | 0, _ => ⟨0, Nat.le_refl _, by simp [smz], fun _ k hk => absurd hk (Nat.not_lt_zero _), fun h => by omega⟩
  | m + 1, h => by
    obtain ⟨c, h1, h2, h4, h5⟩ := smz_cnt h3 s m (fun k hk => h k (by omega))
    have e : smz p s (fun _ => 1) (m + 1) = ((c : Int) + s m % (p : Int)) % (p : Int) := by
      rw [smz, h2, em_add1, Int.mul_one, em_add2]
    rcases h m (by omega) with hm | hm
    · refine ⟨c, by omega, by rw [e, hm, Int.add_zero], fun hc k hk => ?_, fun hc => ?_⟩
      · by_cases hkm : k = m
        · rw [hkm]; exact hm
        · exact h4 hc k (by omega)
      · obtain ⟨k, hk, hk2⟩ := h5 hc
        refine ⟨k, by omega, fun j hj => ?_⟩
        by_cases hjm : j = m
        · rw [hjm, if_neg (by omega)]; exact hm
        · exact hk2 j (by omega)
    · refine ⟨c + 1, by omega, by rw [e, hm]; rfl, fun hc => by omega, fun hc => ⟨m, by omega, fun j hj => ?_⟩⟩
      by_cases hjm : j = m
      · rw [if_pos hjm, hjm]; exact hm
      · rw [if_neg hjm]; exact h4 (by omega) j (by omega)
/-- each row chooses one instruction -/
theorem one_hot {p : Nat} {L : List InsZ} {r : List Int} (hp : Num.Prime p) (h3 : 3 ≤ p) (hL : L.length ≤ p) (hc : ∀ k, k < L.length → chz p r k = 0) (hs : (smt p L r (fun _ _ => 1) - 1) % (p : Int) = 0) : ∃ c, c < L.length ∧ ∀ j, j < L.length → sel r j % (p : Int) = if j = c then 1 else 0 := by
  obtain ⟨c, h1, h2, _, h5⟩ := smz_cnt h3 (sel r) L.length (fun k hk => cho_two hp h3 (hc k hk))
  have e : smt p L r (fun _ _ => 1) = (c : Int) % (p : Int) := h2
  rw [e, em_sub1] at hs
  obtain ⟨k, hk⟩ := Int.dvd_of_emod_eq_zero hs
  have hc1 : c = 1 := by
    rcases Int.lt_trichotomy k 0 with g | g | g
    · have : (p : Int) * k ≤ (p : Int) * (-1) := Int.mul_le_mul_of_nonneg_left (by omega) (by omega)
      omega
    · subst g; simp at hk; omega
    · have : (p : Int) * 1 ≤ (p : Int) * k := Int.mul_le_mul_of_nonneg_left (by omega) (by omega)
      omega
  exact h5 hc1
theorem smz_oneM {p : Nat} (c : Nat) (s f : Nat → Int) : ∀ k, (∀ j, j < k → s j % (p : Int) = if j = c then 1 else 0) → smz p s f k = if c < k then f c % (p : Int) else 0
  | 0, _ => by rw [if_neg (by omega)]; rfl
  | k + 1, h => by
    rw [smz, smz_oneM c s f k (fun j hj => h j (by omega)), ← em_add2, ← em_mul1, h k (by omega), em_add2]
    by_cases h1 : c < k
    · rw [if_pos h1, if_neg (by omega), if_pos (by omega), Int.zero_mul, Int.add_zero, Int.emod_emod_of_dvd _ (Int.dvd_refl _)]
    · rw [if_neg h1]
      by_cases h2 : k = c
      · subst h2; rw [if_pos rfl, if_pos (by omega), Int.one_mul, Int.zero_add]
      · rw [if_neg h2, if_neg (by omega), Int.zero_mul, Int.add_zero, Int.zero_emod]
theorem smt_oneM {p : Nat} {L : List InsZ} {r : List Int} {c : Nat} (hc : c < L.length) (h : ∀ j, j < L.length → sel r j % (p : Int) = if j = c then 1 else 0) (f : Nat → InsZ → Int) : smt p L r f = f c (insat L c) % (p : Int) := by
  unfold smt
  rw [smz_oneM c _ _ _ h, if_pos hc]

/-- what a row says -/
structure RwZ (p : Nat) (L : List InsZ) (r : List Int) (c : Nat) : Prop where
  lt : c < L.length
  hot : ∀ j, j < L.length → sel r j % (p : Int) = if j = c then 1 else 0
  a0 : zat r 3 % (p : Int) = tvC p r 0 (insat L c) % (p : Int)
  a1 : zat r 4 % (p : Int) = tvC p r 1 (insat L c) % (p : Int)
  a2 : zat r 5 % (p : Int) = tvC p r 2 (insat L c) % (p : Int)
  wk : tvW p r (insat L c) % (p : Int) = 0
  mo : tvM p r c (insat L c) % (p : Int) = 0
/-- what a row says of the next -/
structure RwY (p : Nat) (L : List InsZ) (r n : List Int) (c c' : Nat) : Prop where
  pc : ((c' : Int) - tvN p r c (insat L c)) % (p : Int) = 0
  fp : zat n 0 % (p : Int) = tvF p r (insat L c) % (p : Int)
  ap : zat n 1 % (p : Int) = tvA p r (insat L c) % (p : Int)
  rv : zat n 2 % (p : Int) = tvR r (insat L c) % (p : Int)

/-- rows that break no rule -/
def NoB (p : Nat) (L : List InsZ) (size out : Int) (rows : List (List Int)) : Prop := ∀ i, i < rows.length → ∀ k, k < L.length + 26 → brkn p L size out rows i k = false
section
variable {p : Nat} {L : List InsZ} {size out : Int} {rows : List (List Int)}
theorem NoB.at (h : NoB p L size out rows) {i k : Nat} (hi : i < rows.length) (hk : k < L.length + 26) (hs : spk L.length rows.length i k = true) : zat (rls p L size out (rat rows i) (rat rows (min (i + 1) (rows.length - 1)))) k = 0 := by
  have := h i hi k hk
  unfold brkn rvl at this
  rw [hs, Bool.and_true] at this
  exact Decidable.byContradiction fun e => by rw [decide_eq_true e] at this; cases this
theorem NoB.low (h : NoB p L size out rows) {i k : Nat} (hi : i < rows.length) (hk : k < L.length) : chz p (rat rows i) k = 0 := by
  rw [← rls_low p L size out (rat rows i) (rat rows (min (i + 1) (rows.length - 1))) hk]
  exact h.at hi (by omega) (by unfold spk; rw [if_pos (by omega)])
theorem NoB.high (h : NoB p L size out rows) {i : Nat} (hi : i < rows.length) (j : Nat) (hj : j < 12) : zat (rl26 p L size out (rat rows i) (rat rows (min (i + 1) (rows.length - 1)))) j = 0 := by
  rw [← rls_high]
  exact h.at hi (by omega) (by unfold spk; rw [if_pos (by omega)])
theorem NoB.next (h : NoB p L size out rows) {i : Nat} (hi : i + 1 < rows.length) (j : Nat) (h1 : 12 ≤ j) (h2 : j < 18) : zat (rl26 p L size out (rat rows i) (rat rows (i + 1))) j = 0 := by
  have := h.at (i := i) (k := L.length + j) (by omega) (by omega) (by unfold spk; rw [if_neg (by omega), if_pos (by omega)]; exact decide_eq_true (by omega))
  rw [rls_high, Nat.min_eq_left (by omega)] at this
  exact this
theorem NoB.first (h : NoB p L size out rows) (h0 : 0 < rows.length) (j : Nat) (h1 : 18 ≤ j) (h2 : j < 24) : zat (rl26 p L size out (rat rows 0) (rat rows (min (0 + 1) (rows.length - 1)))) j = 0 := by
  have := h.at (i := 0) (k := L.length + j) h0 (by omega) (by unfold spk; rw [if_neg (by omega), if_neg (by omega), if_pos (by omega)]; exact decide_eq_true rfl)
  rw [rls_high] at this
  exact this
theorem NoB.last (h : NoB p L size out rows) (h0 : 0 < rows.length) (j : Nat) (h1 : 24 ≤ j) (h2 : j < 26) : zat (rl26 p L size out (rat rows (rows.length - 1)) (rat rows (min (rows.length - 1 + 1) (rows.length - 1)))) j = 0 := by
  have := h.at (i := rows.length - 1) (k := L.length + j) (by omega) (by omega) (by unfold spk; rw [if_neg (by omega), if_neg (by omega), if_neg (by omega)]; exact decide_eq_true rfl)
  rw [rls_high] at this
  exact this
theorem NoB.row (h : NoB p L size out rows) (hp : Num.Prime p) (h3 : 3 ≤ p) (hL : L.length ≤ p) {i : Nat} (hi : i < rows.length) : ∃ c, RwZ p L (rat rows i) c := by
  obtain ⟨c, hc, hot⟩ := one_hot hp h3 hL (fun k hk => h.low hi hk) (h.high hi 0 (by omega))
  have hs := fun f => smt_oneM (p := p) hc hot f
  have e1 : (zat (rat rows i) 3 - smt p L (rat rows i) (fun _ => tvC p (rat rows i) 0)) % (p : Int) = 0 := h.high hi 1 (by omega)
  have e2 : (zat (rat rows i) 4 - smt p L (rat rows i) (fun _ => tvC p (rat rows i) 1)) % (p : Int) = 0 := h.high hi 2 (by omega)
  have e3 : (zat (rat rows i) 5 - smt p L (rat rows i) (fun _ => tvC p (rat rows i) 2)) % (p : Int) = 0 := h.high hi 3 (by omega)
  have e4 : smt p L (rat rows i) (fun _ => tvW p (rat rows i)) = 0 := h.high hi 4 (by omega)
  have e5 : smt p L (rat rows i) (tvM p (rat rows i)) = 0 := h.high hi 5 (by omega)
  rw [hs, em_sub2] at e1 e2 e3
  rw [hs] at e4 e5
  exact ⟨c, hc, hot, em_eq e1, em_eq e2, em_eq e3, e4, e5⟩
theorem NoB.nxt (h : NoB p L size out rows) {i c c' : Nat} (hi : i + 1 < rows.length) (hc : RwZ p L (rat rows i) c) (hc' : RwZ p L (rat rows (i + 1)) c') : RwY p L (rat rows i) (rat rows (i + 1)) c c' := by
  have hs := fun f => smt_oneM (p := p) hc.lt hc.hot f
  have hs' := fun f => smt_oneM (p := p) hc'.lt hc'.hot f
  have e0 : (smt p L (rat rows (i + 1)) (fun k _ => (k : Int)) - smt p L (rat rows i) (tvN p (rat rows i))) % (p : Int) = 0 := h.next hi 12 (by omega) (by omega)
  have e1 : (zat (rat rows (i + 1)) 0 - smt p L (rat rows i) (fun _ => tvF p (rat rows i))) % (p : Int) = 0 := h.next hi 13 (by omega) (by omega)
  have e2 : (zat (rat rows (i + 1)) 1 - smt p L (rat rows i) (fun _ => tvA p (rat rows i))) % (p : Int) = 0 := h.next hi 14 (by omega) (by omega)
  have e3 : (zat (rat rows (i + 1)) 2 - smt p L (rat rows i) (fun _ => tvR (rat rows i))) % (p : Int) = 0 := h.next hi 15 (by omega) (by omega)
  rw [hs, hs', em_sub1, em_sub2] at e0
  rw [hs, em_sub2] at e1 e2 e3
  exact ⟨e0, em_eq e1, em_eq e2, em_eq e3⟩

/-- the sorted pairs ascend by steps of one, and are a function -/
theorem ord_step {p : Nat} (hp : Num.Prime p) (h3 : 3 ≤ p) {a v b u : Int} {m : Nat} (hm : m + 1 < p) (ha0 : 0 ≤ a % (p : Int)) (ha : a % (p : Int) ≤ m) (h1 : ord1 p a b = 0) (h2 : ord2 p a v b u = 0) :
    (b % (p : Int) = a % (p : Int) ∧ u % (p : Int) = v % (p : Int)) ∨ b % (p : Int) = a % (p : Int) + 1 := by
  unfold ord1 at h1
  unfold ord2 at h2
  rcases cho_two hp h3 (z := b - a) h1 with e | e
  · have e' := em_eq e
    refine .inl ⟨e', ?_⟩
    rw [← em_mul1, ← em_sub1, e] at h2
    rcases Pol.prime_mul hp (Int.dvd_of_emod_eq_zero (show ((0 - 1) * (u - v)) % (p : Int) = 0 by rw [em_mul1] at h2; exact h2)) with d | d
    · obtain ⟨k, hk⟩ := d
      exfalso
      rcases Int.lt_trichotomy k 0 with g | g | g
      · have : (p : Int) * k ≤ (p : Int) * (-1) := Int.mul_le_mul_of_nonneg_left (by omega) (by omega)
        omega
      · subst g; simp at hk
      · have : (p : Int) * 1 ≤ (p : Int) * k := Int.mul_le_mul_of_nonneg_left (by omega) (by omega)
        omega
    · exact em_eq (Int.emod_eq_zero_of_dvd d)
  · refine .inr ?_
    have : (b - (a + 1)) % (p : Int) = 0 := by
      rw [show b - (a + 1) = b - a - 1 by omega, ← em_sub1, e]; rfl
    rw [em_eq this, ← em_add1]
    exact Int.emod_eq_of_lt (by omega) (by omega)
theorem NoB.ord (h : NoB p L size out rows) (hp : Num.Prime p) (h3 : 3 ≤ p) (h4n : 4 * rows.length ≤ p) (h0 : 0 < rows.length) : ∀ m, m < 4 * rows.length →
    (0 ≤ (cat (pr4 p rows 12 16) m).1 ∧ (cat (pr4 p rows 12 16) m).1 ≤ m) ∧ (m = 0 → cat (pr4 p rows 12 16) m = (0, 0)) ∧ (∀ t, m = t + 1 → ((cat (pr4 p rows 12 16) m).1 = (cat (pr4 p rows 12 16) t).1 ∧ (cat (pr4 p rows 12 16) m).2 = (cat (pr4 p rows 12 16) t).2) ∨ (cat (pr4 p rows 12 16) m).1 = (cat (pr4 p rows 12 16) t).1 + 1)
  | 0, hm => by
    have e := pr4_cat p 12 16 (show 0 < 4 by omega) rows 0 h0
    have f1 : zat (rat rows 0) 12 % (p : Int) = 0 := h.first h0 22 (by omega) (by omega)
    have f2 : zat (rat rows 0) 16 % (p : Int) = 0 := h.first h0 23 (by omega) (by omega)
    have e' : cat (pr4 p rows 12 16) 0 = (0, 0) := by
      rw [show (0 : Nat) = 4 * 0 + 0 from rfl, e]
      unfold red
      exact Prod.ext f1 f2
    rw [e']
    exact ⟨⟨Int.le_refl _, Int.le_refl _⟩, fun _ => rfl, fun t ht => by omega⟩
  | m + 1, hm => by
    obtain ⟨⟨i1, i2⟩, _, _⟩ := NoB.ord h hp h3 h4n h0 m (by omega)
    have key : ((cat (pr4 p rows 12 16) (m + 1)).1 = (cat (pr4 p rows 12 16) m).1 ∧ (cat (pr4 p rows 12 16) (m + 1)).2 = (cat (pr4 p rows 12 16) m).2) ∨ (cat (pr4 p rows 12 16) (m + 1)).1 = (cat (pr4 p rows 12 16) m).1 + 1 := by
      obtain ⟨i, k, hi, hk, rfl⟩ : ∃ i k, i < rows.length ∧ k < 4 ∧ m = 4 * i + k := ⟨m / 4, m % 4, by omega, Nat.mod_lt _ (by decide), by omega⟩
      have e0 := pr4_cat p 12 16 hk rows i hi
      rw [e0] at i1 i2 ⊢
      have hm1 : 4 * i + k + 1 < p := by omega
      by_cases hk3 : k = 3
      · subst hk3
        have hi1 : i + 1 < rows.length := by omega
        have e1 := pr4_cat p 12 16 (show 0 < 4 by omega) rows (i + 1) hi1
        rw [show 4 * i + 3 + 1 = 4 * (i + 1) + 0 by omega, e1]
        exact ord_step hp h3 hm1 i1 i2 (h.next hi1 16 (by omega) (by omega)) (h.next hi1 17 (by omega) (by omega))
      · have e1 := pr4_cat p 12 16 (show k + 1 < 4 by omega) rows i hi
        rw [show 4 * i + k + 1 = 4 * i + (k + 1) by omega, e1]
        refine ord_step hp h3 hm1 i1 i2 ?_ ?_
        · have : k = 0 ∨ k = 1 ∨ k = 2 := by omega
          rcases this with rfl | rfl | rfl
          · exact h.high hi 6 (by omega)
          · exact h.high hi 8 (by omega)
          · exact h.high hi 10 (by omega)
        · have : k = 0 ∨ k = 1 ∨ k = 2 := by omega
          rcases this with rfl | rfl | rfl
          · exact h.high hi 7 (by omega)
          · exact h.high hi 9 (by omega)
          · exact h.high hi 11 (by omega)
    refine ⟨?_, fun e => by omega, fun t ht => ?_⟩
    · rcases key with ⟨e, _⟩ | e <;> rw [e] <;> constructor <;> omega
    · obtain rfl : t = m := by omega
      exact key
theorem NoB.mono (h : NoB p L size out rows) (hp : Num.Prime p) (h3 : 3 ≤ p) (h4n : 4 * rows.length ≤ p) (h0 : 0 < rows.length) (a : Nat) : ∀ d, a + d < 4 * rows.length → (cat (pr4 p rows 12 16) a).1 ≤ (cat (pr4 p rows 12 16) (a + d)).1 ∧ ((cat (pr4 p rows 12 16) a).1 = (cat (pr4 p rows 12 16) (a + d)).1 → (cat (pr4 p rows 12 16) a).2 = (cat (pr4 p rows 12 16) (a + d)).2)
  | 0, _ => ⟨Int.le_refl _, fun _ => rfl⟩
  | d + 1, hd => by
    obtain ⟨i1, i2⟩ := NoB.mono h hp h3 h4n h0 a d (by omega)
    have := (h.ord hp h3 h4n h0 (a + d + 1) (by omega)).2.2 (a + d) rfl
    rw [show a + (d + 1) = a + d + 1 by omega]
    rcases this with ⟨e1, e2⟩ | e1
    · rw [e1, e2]; exact ⟨i1, i2⟩
    · rw [e1]; exact ⟨by omega, fun e => by omega⟩
/-- the pairs that rows show are a function; 0 is 0 -/
theorem NoB.fn (h : NoB p L size out rows) (hp : Num.Prime p) (h3 : 3 ≤ p) (h4n : 4 * rows.length ≤ p) (h0 : 0 < rows.length) (hal : (pr4 p rows 3 7).Perm (pr4 p rows 12 16)) :
    (∀ x y, x ∈ pr4 p rows 3 7 → y ∈ pr4 p rows 3 7 → x.1 = y.1 → x.2 = y.2) ∧ ((0 : Int), (0 : Int)) ∈ pr4 p rows 3 7 := by
  have hl := pr4_len p rows 12 16
  refine ⟨fun x y hx hy e => ?_, ?_⟩
  · obtain ⟨s, hs, rfl⟩ := List.getElem_of_mem (hal.mem_iff.1 hx)
    obtain ⟨t, ht, rfl⟩ := List.getElem_of_mem (hal.mem_iff.1 hy)
    rw [← cat_get hs, ← cat_get ht] at e ⊢
    rcases Nat.le_total s t with g | g
    · obtain ⟨d, rfl⟩ : ∃ d, t = s + d := ⟨t - s, by omega⟩
      exact (h.mono hp h3 h4n h0 s d (by omega)).2 e
    · obtain ⟨d, rfl⟩ : ∃ d, s = t + d := ⟨s - t, by omega⟩
      exact ((h.mono hp h3 h4n h0 t d (by omega)).2 e.symm).symm
  · have := (h.ord hp h3 h4n h0 0 (by omega)).2.1 rfl
    rw [hal.mem_iff, ← this]
    exact cat_memZ (by omega)
end

end Go.Proofs.YtdpdmgmeieijaaaGreatDoor

namespace Go.Proofs.YtdpdmgmeieijaaaGreatDoor
open Go.RowKit Go.Maps

/-- a run's outcome: what the first cell of its last step is -/
def outS (st : List (List Int)) : Int := zat (rat st (st.length - 1)) 7
/-- the steps of a row of steps, cell by cell -/
theorem StR.at {base : Nat} {w : World} {v : Value} {l : List (List Int)} (h : StR base w v l) (h0 : 0 < l.length) (h10 : ∀ s, s ∈ l → s.length = 10) : ∃ g cap, v = .slice (some ⟨g, 0, none⟩) l.length cap ∧ l.length ≤ maxLen ∧ g < w.heap.size ∧ ∀ i j, i < l.length → j < 10 → w.cell? ⟨g, i * 10 + j, none⟩ = some (.int .i64 (zat (rat l i) j)) := by
  have h' := h
  rcases h.2 with ⟨_, hn⟩ | ⟨g, cap, cur, rfl, hb, hg, hn, hm, hs, ht⟩
  · omega
  · refine ⟨g, cap, rfl, by omega, (Array.getElem?_eq_some_iff.1 hg).1, fun i j hi hj => ?_⟩
    have := World.ownsRow.cells h' (g := g) rfl (i * 10 + j) _ (stvs_at l h10 i j hi hj)
    have hadd : (⟨g, 0, none⟩ : Addr).add (i * 10 + j) = ⟨g, 0 + (i * 10 + j), none⟩ := by unfold Addr.add; split <;> simp_all
    rw [hadd, Nat.zero_add] at this
    exact this

/-- what rules.Table gives -/
def PtR (p : Nat) (size : Int) (L : List InsZ) (n : Int) (w : World) (e : Ending) (w' : World) : Prop := Below w.heap.size w w' ∧
  if n < 1 ∨ 512 < n ∨ 64 < L.length then e = .returned (.tuple #[.slice none 0 0, .int .i64 0, errV 2])
  else if fz6 (p : Int) size L.length (n - 1) ≠ 0 then e = .returned (.tuple #[.slice none 0 0, .int .i64 0, errV (fz6 (p : Int) size L.length (n - 1))])
  else match mwalk p size L (n - 1).toNat with
    | .bad z => e = .returned (.tuple #[.slice none 0 0, .int .i64 0, errV z])
    | .good st _ => if n.toNat < (tho p L st n.toNat).length then e = .returned (.tuple #[.slice none 0 0, .int .i64 0, errV 9])
      else ∃ T G K, TabG p L st n.toNat T ∧ e = .returned (.tuple #[.slice (some ⟨G, 0, none⟩) T.length T.length, .int .i64 (outS st), .nilIface]) ∧ Tbl w.heap.size G K w' T

set_option maxRecDepth 100000 in
set_option maxHeartbeats 4000000 in
/-- no such table: its size -/
theorem ptable_size (p b : Nat) (size n : Int) (aL : Option Addr) (cL : Nat) (L : List InsZ) (w : World) (hnL : L.length ≤ 281474976710656) (hno : n < 1 ∨ 512 < n ∨ 64 < L.length) :
    Calls Tryz.prog 12 #[.pointer (some ⟨b, 0, none⟩), .agg #[.int .i64 size, .slice aL L.length cL], .int .i64 n] w (PtR p size L n w) := by
  obtain ⟨W0, hW0⟩ : ∃ W0, W0 = w.alloc (.cells #[.int .i64 size, .slice aL L.length cL] 24) := ⟨_, rfl⟩
  have hb0 : Below w.heap.size w W0 := by rw [hW0]; exact (Below.refl _ _).alloc (Nat.le_refl _) _
  have hs0 : W0.heap[w.heap.size]? = some (.cells #[.int .i64 size, .slice aL L.length cL] 24 (0, 0)) := by rw [hW0]; exact heap_alloc_new w _
  have k1 : W0.cell? ⟨w.heap.size, 1, none⟩ = some (.slice aL L.length cL) := by simp [World.cell?, hs0]
  have HB0 := hid hb0
  have HNO := hid hno
  have HR : Hid (∀ e w', Below w.heap.size w w' → e = .returned (.tuple #[.slice none 0 0, .int .i64 0, .iface 68 (.int .i64 2)]) → PtR p size L n w e w') := fun e w' h1 h2 => ⟨h1, by rw [if_pos HNO.out]; exact h2⟩
  clear hb0 hs0
  generalize L.length = nL at *
  by_cases h1 : n < 1
  · clear HNO hno
    go_enter Tryz.func12, Tryz.ntmps12
    go_wp2_with fail
    rw [← hW0]
    clear hW0
    go_wp2_with fail
    go_ret3
    exact HR.out _ _ HB0.out rfl
  · by_cases h2 : 512 < n
    · clear HNO hno
      go_enter Tryz.func12, Tryz.ntmps12
      go_wp2_with fail
      rw [← hW0]
      clear hW0
      go_wp2_with fail
      go_ret3
      exact HR.out _ _ HB0.out rfl
    · have h3 : (64 : Int) < (nL : Int) := by omega
      clear HNO hno
      go_enter Tryz.func12, Tryz.ntmps12
      go_wp2_with fail
      rw [← hW0]
      clear hW0
      go_wp2_with fail
      go_ret3
      exact HR.out _ _ HB0.out rfl

end Go.Proofs.YtdpdmgmeieijaaaGreatDoor
