/- Trees: which groups are hidden, and what their root is worked out of. Plain. -/
import Derived.Test.YtionbilheeheaaeGreatDoorTreP
import Derived.Test.YtionbilheeheaaeGreatDoorTrgM
namespace Go.Proofs.YtionbilheeheaaeGreatDoor
open Go.RowKit

/-- the places of a list in a group -/
def seg (ps : List Int) (a b : Int) : List Int := ps.filter (fun x => decide (a ≤ x ∧ x < b))
theorem seg_asc {ps : List Int} (h : Asc ps) (a b : Int) : Asc (seg ps a b) := h.filter _
theorem seg_mem {ps : List Int} {a b x : Int} : x ∈ seg ps a b ↔ x ∈ ps ∧ a ≤ x ∧ x < b := by simp [seg]
theorem seg_nil {ps : List Int} {a b : Int} : (seg ps a b).length = 0 ↔ smb ps a b = false := by
  unfold seg smb
  rw [List.length_eq_zero_iff, List.filter_eq_nil_iff, List.any_eq_false]
theorem asc_count : ∀ (l : List Int) (a : Int) (c : Nat), Asc l → (∀ x ∈ l, a ≤ x ∧ x < a + (c : Int)) → l.length ≤ c
  | [], _, _, _, _ => Nat.zero_le _
  | x :: l, a, c, h, hb => by
    obtain ⟨h1, h2⟩ := List.pairwise_cons.1 h
    have hx := hb x (by simp)
    have := asc_count l (x + 1) (a + (c : Int) - (x + 1)).toNat h2 (fun y hy => ⟨h1 y hy, by have := (hb y (by simp [hy])).2; omega⟩)
    simp only [List.length_cons]
    omega
theorem seg_le {ps : List Int} (h : Asc ps) (a : Int) (c : Nat) : (seg ps a (a + (c : Int))).length ≤ c := asc_count _ a c (seg_asc h _ _) (fun _ hx => (seg_mem.1 hx).2)
/-- an ascending list is those below a number, then the others -/
theorem asc_cut : ∀ (l : List Int) (m : Int), Asc l → l = l.filter (fun x => decide (x < m)) ++ l.filter (fun x => decide (m ≤ x))
  | [], _, _ => rfl
  | x :: l, m, h => by
    obtain ⟨h1, h2⟩ := List.pairwise_cons.1 h
    by_cases hx : x < m
    · rw [List.filter_cons_of_pos (by simpa using hx), List.filter_cons_of_neg (by simpa using hx), List.cons_append, ← asc_cut l m h2]
    · have e1 : l.filter (fun x => decide (x < m)) = [] := List.filter_eq_nil_iff.2 (fun y hy => by have := h1 y hy; simp; omega)
      have e2 : l.filter (fun x => decide (m ≤ x)) = l := List.filter_eq_self.2 (fun y hy => by have := h1 y hy; simp; omega)
      rw [List.filter_cons_of_neg (by simpa using hx), List.filter_cons_of_pos (by simpa using hx), e1, e2]
      rfl
theorem seg_left (ps : List Int) {a m b : Int} (h : m ≤ b) : (seg ps a b).filter (fun x => decide (x < m)) = seg ps a m := by
  unfold seg
  rw [List.filter_filter]
  congr 1
  funext x
  rw [Bool.eq_iff_iff]
  simp
  omega
theorem seg_right (ps : List Int) {a m b : Int} (h : a ≤ m) : (seg ps a b).filter (fun x => decide (m ≤ x)) = seg ps m b := by
  unfold seg
  rw [List.filter_filter]
  congr 1
  funext x
  rw [Bool.eq_iff_iff]
  simp
  omega
theorem seg_split {ps : List Int} (h : Asc ps) {a m b : Int} (h1 : a ≤ m) (h2 : m ≤ b) : seg ps a b = seg ps a m ++ seg ps m b := by
  have := asc_cut (seg ps a b) m (seg_asc h a b)
  rwa [seg_left ps h2, seg_right ps h1] at this

/-- the groups that nodes stand for -/
def hd2 (ps : List Int) : Nat → Nat → Nat → List (Nat × Nat)
  | 0, _, _ => []
  | k + 1, a, c => if smb ps (a : Int) ((a : Int) + (c : Int)) = false then [(a, a + c)] else if c = 1 then [] else hd2 ps k a (lft c) ++ hd2 ps k (a + lft c) (c - lft c)
theorem hd2_none {ps : List Int} {k a c : Nat} (h : smb ps (a : Int) ((a : Int) + (c : Int)) = false) : hd2 ps (k + 1) a c = [(a, a + c)] := by rw [hd2, if_pos h]
theorem hd2_full {ps : List Int} (h : Asc ps) : ∀ (k a c : Nat), 1 ≤ c → c ≤ k → (seg ps (a : Int) ((a : Int) + (c : Int))).length = c → hd2 ps k a c = []
  | 0, _, _, h1, h2, _ => by omega
  | k + 1, a, c, h1, h2, hs => by
    rw [hd2, if_neg (fun e => by have := seg_nil.2 e; omega)]
    by_cases hc : c = 1
    · rw [if_pos hc]
    · rw [if_neg hc]
      obtain ⟨_, l2, l3⟩ := lft_spec c
      have l3' := l3 (by omega)
      have e := congrArg List.length (seg_split h (a := (a : Int)) (m := (a : Int) + (lft c : Int)) (b := (a : Int) + (c : Int)) (by omega) (by omega))
      rw [hs, List.length_append] at e
      have e1 := seg_le h (a : Int) (lft c)
      have e2 := seg_le h ((a : Int) + (lft c : Int)) (c - lft c)
      rw [show (a : Int) + (lft c : Int) + ((c - lft c : Nat) : Int) = (a : Int) + (c : Int) by omega] at e2
      rw [hd2_full h k a (lft c) (by omega) (by omega) (by omega)]
      rw [hd2_full h k (a + lft c) (c - lft c) (by omega) (by omega) (by rw [show ((a + lft c : Nat) : Int) = (a : Int) + (lft c : Int) by omega, show (a : Int) + (lft c : Int) + ((c - lft c : Nat) : Int) = (a : Int) + (c : Int) by omega]; omega)]
      rfl
theorem hd2_part {ps : List Int} {k a c : Nat} (h : smb ps (a : Int) ((a : Int) + (c : Int)) ≠ false) (hc : c ≠ 1) : hd2 ps (k + 1) a c = hd2 ps k a (lft c) ++ hd2 ps k (a + lft c) (c - lft c) := by rw [hd2, if_neg h, if_neg hc]
theorem hd2_len (ps : List Int) : ∀ (k a c : Nat), 1 ≤ c → c ≤ k → (hd2 ps k a c).length ≤ c
  | 0, _, _, h1, h2 => by omega
  | k + 1, a, c, h1, h2 => by
    rw [hd2]
    split
    · simpa using h1
    · split
      · simp
      · obtain ⟨_, l2, l3⟩ := lft_spec c
        have l3' := l3 (by omega)
        have e1 := hd2_len ps k a (lft c) (by omega) (by omega)
        have e2 := hd2_len ps k (a + lft c) (c - lft c) (by omega) (by omega)
        rw [List.length_append]
        omega
/-- they lie in order beside one another, and have no place -/
theorem hd2_mem (ps : List Int) : ∀ (k a c : Nat), 1 ≤ c → c ≤ k → ∀ g ∈ hd2 ps k a c, a ≤ g.1 ∧ g.1 < g.2 ∧ g.2 ≤ a + c ∧ smb ps (g.1 : Int) (g.2 : Int) = false
  | 0, _, _, h1, h2 => by omega
  | k + 1, a, c, h1, h2 => by
    intro g hg
    rw [hd2] at hg
    split at hg
    · rename_i h
      rw [List.mem_singleton.1 hg]
      refine ⟨Nat.le_refl _, by show a < a + c; omega, Nat.le_refl _, ?_⟩
      rw [← h]
      congr 1
    · split at hg
      · cases hg
      · obtain ⟨_, l2, l3⟩ := lft_spec c
        have l3' := l3 (by omega)
        rcases List.mem_append.1 hg with hg | hg
        · have := hd2_mem ps k a (lft c) (by omega) (by omega) g hg
          exact ⟨this.1, this.2.1, by omega, this.2.2.2⟩
        · have := hd2_mem ps k (a + lft c) (c - lft c) (by omega) (by omega) g hg
          exact ⟨by omega, this.2.1, by omega, this.2.2.2⟩
theorem hd2_apart (ps : List Int) : ∀ (k a c : Nat), 1 ≤ c → c ≤ k → (hd2 ps k a c).Pairwise (fun x y => x.2 ≤ y.1)
  | 0, _, _, h1, h2 => by omega
  | k + 1, a, c, h1, h2 => by
    rw [hd2]
    split
    · simp
    · split
      · simp
      · obtain ⟨_, l2, l3⟩ := lft_spec c
        have l3' := l3 (by omega)
        rw [List.pairwise_append]
        refine ⟨hd2_apart ps k a (lft c) (by omega) (by omega), hd2_apart ps k (a + lft c) (c - lft c) (by omega) (by omega), fun x hx y hy => ?_⟩
        have e1 := hd2_mem ps k a (lft c) (by omega) (by omega) x hx
        have e2 := hd2_mem ps k (a + lft c) (c - lft c) (by omega) (by omega) y hy
        omega

/-- how many nodes are taken, if none lacks -/
def NodesOk (nodes : List (List Int)) (t n : Nat) : Prop := ∀ i, i < n → t + i < nodes.length ∧ (rat nodes (t + i)).length = 4
theorem up_bad (q n : Nat) (ps : List Int) (rows nodes : List (List Int)) : ∀ (k : Nat) (first : Int) (cnt t : Nat), (upf q n ps rows nodes k first cnt t true).2.2 = true
  | 0, _, _, _ => rfl
  | k + 1, first, cnt, t => by
    simp only [upf]
    split
    · split <;> rfl
    · split
      · rfl
      · rw [up_bad q n ps rows nodes k]
        exact up_bad q n ps rows nodes k _ _ _
theorem up_count (q n : Nat) (ps : List Int) (rows nodes : List (List Int)) : ∀ (k a c t : Nat) (bad : Bool), 1 ≤ c → c ≤ k →
    (NodesOk nodes t (hd2 ps k a c).length → (upf q n ps rows nodes k (a : Int) c t bad).2 = (t + (hd2 ps k a c).length, bad)) ∧ (¬ NodesOk nodes t (hd2 ps k a c).length → (upf q n ps rows nodes k (a : Int) c t bad).2.2 = true)
  | 0, _, _, _, _, h1, h2 => by omega
  | k + 1, a, c, t, bad, h1, h2 => by
    simp only [upf]
    by_cases hs : smb ps (a : Int) ((a : Int) + (c : Int)) = false
    · rw [if_pos hs, hd2_none hs]
      by_cases hb : nodes.length ≤ t ∨ (rat nodes t).length ≠ 4
      · rw [if_pos hb]
        refine ⟨fun h => ?_, fun _ => rfl⟩
        have := h 0 (by simp)
        rw [Nat.add_zero] at this
        omega
      · rw [if_neg hb]
        refine ⟨fun _ => rfl, fun h => absurd (fun i hi => ?_) h⟩
        rw [show i = 0 from by simp at hi; omega, Nat.add_zero]
        omega
    · rw [if_neg hs]
      by_cases hc : c = 1
      · rw [if_pos hc, hd2, if_neg hs, if_pos hc]
        exact ⟨fun _ => rfl, fun h => absurd (fun i hi => by simp at hi) h⟩
      · rw [if_neg hc, hd2_part hs hc, List.length_append]
        obtain ⟨_, l2, l3⟩ := lft_spec c
        have l3' := l3 (by omega)
        obtain ⟨a1, a2⟩ := up_count q n ps rows nodes k a (lft c) t bad (by omega) (by omega)
        rw [show (a : Int) + ((lft c : Nat) : Int) = ((a + lft c : Nat) : Int) by omega]
        by_cases hA : NodesOk nodes t (hd2 ps k a (lft c)).length
        · rw [a1 hA]
          obtain ⟨b1, b2⟩ := up_count q n ps rows nodes k (a + lft c) (c - lft c) (t + (hd2 ps k a (lft c)).length) bad (by omega) (by omega)
          refine ⟨fun h => ?_, fun h => ?_⟩
          · show (upf q n ps rows nodes k ((a + lft c : Nat) : Int) (c - lft c) (t + (hd2 ps k a (lft c)).length) bad).2 = _
            rw [b1 (fun i hi => by have := h ((hd2 ps k a (lft c)).length + i) (by omega); rwa [← Nat.add_assoc] at this), Nat.add_assoc]
          · refine b2 (fun hB => h (fun i hi => ?_))
            by_cases hi' : i < (hd2 ps k a (lft c)).length
            · exact hA i hi'
            · have := hB (i - (hd2 ps k a (lft c)).length) (by omega)
              rwa [show t + (hd2 ps k a (lft c)).length + (i - (hd2 ps k a (lft c)).length) = t + i by omega] at this
        · refine ⟨fun h => absurd (fun i hi => h i (by omega)) hA, fun _ => ?_⟩
          rw [a2 hA]
          exact up_bad q n ps rows nodes k _ _ _

/-- what a root is worked out of -/
inductive Rd (q n : Nat) (M : Nat → Nat → Option (List Int)) : Nat → Nat → List Int → Prop
  | found {a b : Nat} {d : List Int} : M a b = some d → Rd q n M a b d
  | node {a b : Nat} {da db : List Int} : M a b = none → 2 ≤ b - a → Rd q n M a (a + lft (b - a)) da → Rd q n M (a + lft (b - a)) b db → Rd q n M a b (digl q n (1 :: (da ++ db)))
theorem Rd.det {q n : Nat} {M : Nat → Nat → Option (List Int)} {a b : Nat} {d d' : List Int} (h : Rd q n M a b d) : Rd q n M a b d' → d = d' := by
  induction h generalizing d' with
  | found e =>
    intro h'
    cases h' with
    | found e' => rw [e] at e'; cases e'; rfl
    | node e' => rw [e] at e'; cases e'
  | node e _ _ _ ih1 ih2 =>
    intro h'
    cases h' with
    | found e' => rw [e] at e'; cases e'
    | node _ _ r1 r2 => rw [ih1 r1, ih2 r2]

open Classical in
noncomputable def DV (q n : Nat) (M : Nat → Nat → Option (List Int)) (a b : Nat) : List Int := if h : ∃ d, Rd q n M a b d then h.choose else [0, 0, 0, 0]
theorem DV_eq {q n : Nat} {M : Nat → Nat → Option (List Int)} {a b : Nat} {d : List Int} (h : Rd q n M a b d) : DV q n M a b = d := by
  unfold DV
  rw [dif_pos ⟨d, h⟩]
  exact (Exists.choose_spec (⟨d, h⟩ : ∃ d, Rd q n M a b d)).det h

/-- what a walk can work out: each group is found, or both its parts are -/
inductive Rdy (q n : Nat) (D : Nat → Nat → List Int) (M : Nat → Nat → Option (List Int)) : Nat → Nat → Prop
  | found {a b : Nat} : M a b ≠ none → Rdy q n D M a b
  | node {a b : Nat} : 2 ≤ b - a → D a b = digl q n (1 :: (D a (a + lft (b - a)) ++ D (a + lft (b - a)) b)) → Rdy q n D M a (a + lft (b - a)) → Rdy q n D M (a + lft (b - a)) b → Rdy q n D M a b
theorem Rd.rdy {q n : Nat} {M : Nat → Nat → Option (List Int)} {a b : Nat} {d : List Int} (h : Rd q n M a b d) : Rdy q n (DV q n M) M a b := by
  induction h with
  | found e => exact .found (by rw [e]; simp)
  | node e h2 r1 r2 ih1 ih2 => exact .node h2 (by rw [DV_eq r1, DV_eq r2, DV_eq (.node e h2 r1 r2)]) ih1 ih2

/-- a digest: four elements -/
def Dgst (q : Nat) (d : List Int) : Prop := d.length = 4 ∧ ∀ j, j < 4 → 0 ≤ zat d j ∧ zat d j < (q : Int)
theorem Dgst.fits {q : Nat} {d : List Int} (h : Dgst q d) (h4 : q ≤ 2147483647) : Fits d := fun j hj => by
  have := h.2 j (by rw [← h.1]; exact hj)
  omega
theorem Dgst.elr {q : Nat} {d : List Int} (h : d.length = 4) (hq : 0 < q) : Dgst q (elr q d) := by
  refine ⟨by unfold Go.Proofs.YtionbilheeheaaeGreatDoor.elr; rw [ls_len]; exact h, fun j hj => ?_⟩
  unfold Go.Proofs.YtionbilheeheaaeGreatDoor.elr
  rw [ls_at _ _ _ (by omega)]
  exact ⟨Int.emod_nonneg _ (by omega), Int.emod_lt_of_pos _ (by omega)⟩
theorem Dgst.digl {q : Nat} (h3 : 3 ≤ q) (n : Nat) (l : List Int) : Dgst q (digl q n l) := by
  rw [← elr_digl h3 n l]
  exact Dgst.elr (digl_len _ _ _) (by omega)
theorem Dgst.zero {q : Nat} (hq : 0 < q) : Dgst q [0, 0, 0, 0] := ⟨rfl, fun j hj => by
  have : zat [0, 0, 0, 0] j = 0 := by
    rcases j with _ | _ | _ | _ | j <;> first | rfl | omega
  omega⟩
theorem Rd.dgst {q n : Nat} (h3 : 3 ≤ q) {M : Nat → Nat → Option (List Int)} (hM : ∀ a b d, M a b = some d → Dgst q d) {a b : Nat} {d : List Int} (h : Rd q n M a b d) : Dgst q d := by
  cases h with
  | found e => exact hM _ _ _ e
  | node => exact Dgst.digl h3 n _
theorem DV_dgst {q n : Nat} (h3 : 3 ≤ q) {M : Nat → Nat → Option (List Int)} (hM : ∀ a b d, M a b = some d → Dgst q d) (a b : Nat) : Dgst q (DV q n M a b) := by
  by_cases h : ∃ d, Rd q n M a b d
  · obtain ⟨d, hd⟩ := h
    rw [DV_eq hd]
    exact hd.dgst h3 hM
  · unfold DV
    rw [dif_neg h]
    exact Dgst.zero (by omega)

/-- what is put into a map, one after the other -/
def mput (l : List ((Nat × Nat) × List Int)) : Nat → Nat → Option (List Int) := l.foldl (fun M p => upd M p.1.1 p.1.2 p.2) (fun _ _ => none)
theorem mput_snoc (l : List ((Nat × Nat) × List Int)) (p : (Nat × Nat) × List Int) : mput (l ++ [p]) = upd (mput l) p.1.1 p.1.2 p.2 := by simp [mput]
theorem fput_mem : ∀ (l : List ((Nat × Nat) × List Int)) (M : Nat → Nat → Option (List Int)) (a b : Nat) (d : List Int), l.foldl (fun M p => upd M p.1.1 p.1.2 p.2) M a b = some d → ((a, b), d) ∈ l ∨ M a b = some d
  | [], _, _, _, _, h => .inr h
  | p :: l, M, a, b, d, h => by
    rcases fput_mem l _ a b d h with h | h
    · exact .inl (List.mem_cons_of_mem _ h)
    · replace h : upd M p.1.1 p.1.2 p.2 a b = some d := h
      by_cases hc : a = p.1.1 ∧ b = p.1.2
      · rw [hc.1, hc.2, upd_same] at h
        cases h
        rw [hc.1, hc.2]
        exact .inl (by simp)
      · rw [upd_other hc] at h
        exact .inr h
theorem mput_mem (l : List ((Nat × Nat) × List Int)) (a b : Nat) (d : List Int) (h : mput l a b = some d) : ((a, b), d) ∈ l := (fput_mem l _ a b d h).resolve_right (by simp)
theorem fput_dom : ∀ (l : List ((Nat × Nat) × List Int)) (M : Nat → Nat → Option (List Int)) (p : (Nat × Nat) × List Int), p ∈ l ∨ M p.1.1 p.1.2 ≠ none → l.foldl (fun M p => upd M p.1.1 p.1.2 p.2) M p.1.1 p.1.2 ≠ none
  | [], _, _, h => h.resolve_left (by simp)
  | p' :: l, M, p, h => by
    refine fput_dom l _ p ?_
    show p ∈ l ∨ upd M p'.1.1 p'.1.2 p'.2 p.1.1 p.1.2 ≠ none
    by_cases hc : p.1.1 = p'.1.1 ∧ p.1.2 = p'.1.2
    · exact .inr (by rw [hc.1, hc.2, upd_same]; simp)
    · rw [upd_other hc]
      rcases h with h | h
      · rcases List.mem_cons.1 h with h | h
        · rw [h] at hc
          exact absurd ⟨rfl, rfl⟩ hc
        · exact .inl h
      · exact .inr h
theorem mput_dom (l : List ((Nat × Nat) × List Int)) (p : (Nat × Nat) × List Int) (h : p ∈ l) : mput l p.1.1 p.1.2 ≠ none := fput_dom l _ p (.inl h)
/-- where each key has one digest: that one is found -/
theorem mput_one {l : List ((Nat × Nat) × List Int)} {a b : Nat} {d : List Int} (h : ((a, b), d) ∈ l) (hu : ∀ d', ((a, b), d') ∈ l → d' = d) : mput l a b = some d := by
  cases e : mput l a b with
  | none => exact absurd e (mput_dom l _ h)
  | some d' => rw [hu d' (mput_mem l a b d' e)]

end Go.Proofs.YtionbilheeheaaeGreatDoor
