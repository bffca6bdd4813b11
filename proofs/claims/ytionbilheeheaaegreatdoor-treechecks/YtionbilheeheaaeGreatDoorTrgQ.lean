/- Trees: what Check is to answer, of the groups that are found. Plain. -/
import Derived.Test.YtionbilheeheaaeGreatDoorTrgP
namespace Go.Proofs.YtionbilheeheaaeGreatDoor
open Go.RowKit

theorem getDl {α : Type} (a b : List α) (d : α) {i : Nat} (h : i < a.length) : (a ++ b).getD i d = a.getD i d := by simp [List.getD_eq_getElem?_getD, List.getElem?_append_left h]
theorem getDr {α : Type} (a b : List α) (d : α) {i : Nat} (h : a.length ≤ i) : (a ++ b).getD i d = b.getD (i - a.length) d := by simp [List.getD_eq_getElem?_getD, List.getElem?_append_right h]
theorem getDe {α : Type} (a : List α) (d : α) {i : Nat} (h : i < a.length) : a.getD i d = a[i] := by simp [List.getD_eq_getElem?_getD, h]
theorem up_rd (q n : Nat) (ps : List Int) (rows nodes : List (List Int)) (M : Nat → Nat → Option (List Int)) : ∀ (k a c t : Nat) (bad : Bool), 1 ≤ c → c ≤ k → NodesOk nodes t (hd2 ps k a c).length →
    (∀ i, i < (hd2 ps k a c).length → M ((hd2 ps k a c).getD i (0, 0)).1 ((hd2 ps k a c).getD i (0, 0)).2 = some (elr q (rat nodes (t + i)))) →
    (∀ j, j < ps.length → (a : Int) ≤ zat ps j → zat ps j < (a : Int) + (c : Int) → M (zat ps j).toNat ((zat ps j).toNat + 1) = some (digl q n (0 :: rat rows j))) →
    (∀ x y : Nat, a ≤ x → y ≤ a + c → 2 ≤ y - x → smb ps (x : Int) (y : Int) = true → M x y = none) → Rd q n M a (a + c) (upf q n ps rows nodes k (a : Int) c t bad).1
  | 0, _, _, _, _, h1, h2, _, _, _, _ => by omega
  | k + 1, a, c, t, bad, h1, h2, hN, H1, H2, H3 => by
    simp only [upf]
    by_cases hs : smb ps (a : Int) ((a : Int) + (c : Int)) = false
    · rw [hd2_none hs] at hN H1
      have e0 := hN 0 (by simp)
      have e1 := H1 0 (by simp)
      rw [Nat.add_zero] at e0 e1
      rw [if_pos hs, if_neg (by omega)]
      exact .found e1
    · rw [if_neg hs]
      by_cases hc : c = 1
      · rw [if_pos hc]
        subst hc
        obtain ⟨j, j1, j2, j3⟩ := smb_iff.1 ((Bool.eq_false_or_eq_true _).resolve_right hs)
        obtain ⟨f1, f2⟩ := fx_spec (x := (a : Int)) ⟨j, j1, by omega⟩
        have := H2 _ f1 (by omega) (by omega)
        rw [f2, Int.toNat_natCast] at this
        exact .found this
      · rw [if_neg hc]
        rw [hd2_part hs hc] at hN H1
        rw [List.length_append] at hN H1
        obtain ⟨_, l2, l3⟩ := lft_spec c
        have l3' := l3 (by omega)
        have hA : NodesOk nodes t (hd2 ps k a (lft c)).length := fun i hi => hN i (by omega)
        have hB : NodesOk nodes (t + (hd2 ps k a (lft c)).length) (hd2 ps k (a + lft c) (c - lft c)).length := fun i hi => by have := hN ((hd2 ps k a (lft c)).length + i) (by omega); rwa [← Nat.add_assoc] at this
        have rA := up_rd q n ps rows nodes M k a (lft c) t bad (by omega) (by omega) hA
          (fun i hi => by have := H1 i (by omega); rwa [getDl _ _ _ hi] at this)
          (fun j hj x1 x2 => H2 j hj x1 (by omega)) (fun x y hx hy hxy => H3 x y hx (by omega) hxy)
        have eA := (up_count q n ps rows nodes k a (lft c) t bad (by omega) (by omega)).1 hA
        rw [show (a : Int) + ((lft c : Nat) : Int) = ((a + lft c : Nat) : Int) by omega, eA]
        have rB := up_rd q n ps rows nodes M k (a + lft c) (c - lft c) (t + (hd2 ps k a (lft c)).length) bad (by omega) (by omega) hB
          (fun i hi => by have := H1 ((hd2 ps k a (lft c)).length + i) (by omega); rwa [getDr _ _ _ (by omega), Nat.add_sub_cancel_left, ← Nat.add_assoc] at this)
          (fun j hj x1 x2 => H2 j hj (by omega) (by omega)) (fun x y hx hy hxy => H3 x y (by omega) (by omega) hxy)
        have e : a + c - a = c := by omega
        have e2 : a + lft c + (c - lft c) = a + c := by omega
        rw [e2] at rB
        refine .node (H3 a (a + c) (Nat.le_refl _) (Nat.le_refl _) (by omega) ?_) (by omega) (by rw [e]; exact rA) (by rw [e]; exact rB)
        rw [show ((a + c : Nat) : Int) = (a : Int) + (c : Int) by omega]
        exact (Bool.eq_false_or_eq_true _).resolve_right hs

/-- the nodes, each at its group; the rows, each at its place -/
def L1 (q : Nat) (hd : List (Nat × Nat)) (nodes : List (List Int)) (k : Nat) : List ((Nat × Nat) × List Int) := (List.range k).map (fun i => (hd.getD i (0, 0), elr q (rat nodes i)))
def L2 (q n : Nat) (ps : List Int) (rows : List (List Int)) (k : Nat) : List ((Nat × Nat) × List Int) := (List.range k).map (fun i => (((zat ps i).toNat, (zat ps i).toNat + 1), digl q n (0 :: rat rows i)))
theorem L1_succ (q : Nat) (hd : List (Nat × Nat)) (nodes : List (List Int)) (k : Nat) : L1 q hd nodes (k + 1) = L1 q hd nodes k ++ [(hd.getD k (0, 0), elr q (rat nodes k))] := by simp [L1, List.range_succ]
theorem L2_succ (q n : Nat) (ps : List Int) (rows : List (List Int)) (k : Nat) : L2 q n ps rows (k + 1) = L2 q n ps rows k ++ [(((zat ps k).toNat, (zat ps k).toNat + 1), digl q n (0 :: rat rows k))] := by simp [L2, List.range_succ]
def M0 (q n : Nat) (N : Nat) (ps : List Int) (rows nodes : List (List Int)) : Nat → Nat → Option (List Int) := mput (L1 q (hd2 ps N 0 N) nodes (hd2 ps N 0 N).length ++ L2 q n ps rows ps.length)
theorem asc_of {N : Int} {ps : List Int} (h : AscN N ps) : Asc ps := by
  unfold Asc
  rw [List.pairwise_iff_getElem]
  have key : ∀ (m i : Nat), i + m + 1 < ps.length → zat ps i < zat ps (i + m + 1) := by
    intro m
    induction m with
    | zero => intro i hi; have := (h (i + 1) (by omega)).2.2 (by omega); simpa using this
    | succ m ih =>
      intro i hi
      have e1 := ih i (by omega)
      have e2 := (h (i + (m + 1) + 1) hi).2.2 (by omega)
      rw [show i + (m + 1) + 1 - 1 = i + m + 1 by omega] at e2
      omega
  intro i j hi hj hij
  have := key (j - i - 1) i (by omega)
  rw [show i + (j - i - 1) + 1 = j by omega] at this
  simpa [zat, hi, hj] using this
theorem asc_inj {ps : List Int} (h : Asc ps) {i j : Nat} (hi : i < ps.length) (hj : j < ps.length) (e : zat ps i = zat ps j) : i = j := by
  have := List.pairwise_iff_getElem.1 h
  simp only [zat, List.getElem?_eq_getElem hi, List.getElem?_eq_getElem hj, Option.getD_some] at e
  rcases Nat.lt_trichotomy i j with hl | hl | hl
  · have := this i j hi hj hl; omega
  · exact hl
  · have := this j i hj hi hl; omega
theorem hd_inj {ps : List Int} {N i j : Nat} (h1 : 1 ≤ N) (hi : i < (hd2 ps N 0 N).length) (hj : j < (hd2 ps N 0 N).length) (e : (hd2 ps N 0 N).getD i (0, 0) = (hd2 ps N 0 N).getD j (0, 0)) : i = j := by
  have ap := List.pairwise_iff_getElem.1 (hd2_apart ps N 0 N h1 (Nat.le_refl _))
  have me := hd2_mem ps N 0 N h1 (Nat.le_refl _)
  rw [getDe _ _ hi, getDe _ _ hj] at e
  have mi := me _ (List.getElem_mem hi)
  have mj := me _ (List.getElem_mem hj)
  rcases Nat.lt_trichotomy i j with hl | hl | hl
  · have := ap i j hi hj hl; rw [e] at this mi; omega
  · exact hl
  · have := ap j i hj hi hl; rw [e] at this mi; omega
theorem hd_at {ps : List Int} {N i : Nat} (h1 : 1 ≤ N) (hi : i < (hd2 ps N 0 N).length) : ((hd2 ps N 0 N).getD i (0, 0)).1 < ((hd2 ps N 0 N).getD i (0, 0)).2 ∧ ((hd2 ps N 0 N).getD i (0, 0)).2 ≤ N ∧ smb ps (((hd2 ps N 0 N).getD i (0, 0)).1 : Int) (((hd2 ps N 0 N).getD i (0, 0)).2 : Int) = false := by
  have me := hd2_mem ps N 0 N h1 (Nat.le_refl _) _ (List.getElem_mem hi)
  rw [getDe _ _ hi]
  exact ⟨me.2.1, by omega, me.2.2.2⟩
theorem row_smb {N : Int} {ps : List Int} (h : AscN N ps) {j : Nat} (hj : j < ps.length) : smb ps ((zat ps j).toNat : Int) (((zat ps j).toNat + 1 : Nat) : Int) = true := smb_iff.2 ⟨j, hj, by have := (h j hj).1; omega, by have := (h j hj).1; omega⟩
theorem M0_hd {q n N : Nat} {ps : List Int} {rows nodes : List (List Int)} (h1 : 1 ≤ N) (hps : AscN (N : Int) ps) {i : Nat} (hi : i < (hd2 ps N 0 N).length) : M0 q n N ps rows nodes ((hd2 ps N 0 N).getD i (0, 0)).1 ((hd2 ps N 0 N).getD i (0, 0)).2 = some (elr q (rat nodes i)) := by
  refine mput_one (List.mem_append.2 (.inl (List.mem_map.2 ⟨i, List.mem_range.2 hi, rfl⟩))) (fun d' hd' => ?_)
  rcases List.mem_append.1 hd' with hd' | hd'
  · obtain ⟨j, hj, e⟩ := List.mem_map.1 hd'
    rw [Prod.mk.injEq] at e
    rw [hd_inj h1 (List.mem_range.1 hj) hi e.1] at e
    exact e.2.symm
  · obtain ⟨j, hj, e⟩ := List.mem_map.1 hd'
    have hr := row_smb hps (List.mem_range.1 hj)
    have hh := (hd_at h1 hi).2.2
    simp only [Prod.mk.injEq] at e
    rw [← e.1.1, ← e.1.2, hr] at hh
    cases hh
theorem M0_row {q n N : Nat} {ps : List Int} {rows nodes : List (List Int)} (h1 : 1 ≤ N) (hps : AscN (N : Int) ps) {j : Nat} (hj : j < ps.length) : M0 q n N ps rows nodes (zat ps j).toNat ((zat ps j).toNat + 1) = some (digl q n (0 :: rat rows j)) := by
  refine mput_one (List.mem_append.2 (.inr (List.mem_map.2 ⟨j, List.mem_range.2 hj, rfl⟩))) (fun d' hd' => ?_)
  rcases List.mem_append.1 hd' with hd' | hd'
  · obtain ⟨i, hi, e⟩ := List.mem_map.1 hd'
    have hr := row_smb hps hj
    have hh := (hd_at h1 (List.mem_range.1 hi)).2.2
    simp only [Prod.mk.injEq] at e
    rw [e.1, hr] at hh
    cases hh
  · obtain ⟨i, hi, e⟩ := List.mem_map.1 hd'
    simp only [Prod.mk.injEq] at e
    have a1 := (hps i (List.mem_range.1 hi)).1
    have a2 := (hps j hj).1
    rw [asc_inj (asc_of hps) (List.mem_range.1 hi) hj (by omega)] at e
    exact e.2.symm
theorem M0_none {q n N : Nat} {ps : List Int} {rows nodes : List (List Int)} (h1 : 1 ≤ N) {x y : Nat} (hxy : 2 ≤ y - x) (hs : smb ps (x : Int) (y : Int) = true) : M0 q n N ps rows nodes x y = none := by
  cases e : M0 q n N ps rows nodes x y with
  | none => rfl
  | some d =>
    rcases List.mem_append.1 (mput_mem _ _ _ _ e) with hd' | hd'
    · obtain ⟨i, hi, e⟩ := List.mem_map.1 hd'
      have hh := (hd_at (ps := ps) h1 (List.mem_range.1 hi)).2.2
      simp only [Prod.mk.injEq] at e
      rw [e.1, hs] at hh
      cases hh
    · obtain ⟨i, hi, e⟩ := List.mem_map.1 hd'
      simp only [Prod.mk.injEq] at e
      omega
theorem M0_dgst {q n N : Nat} (h3 : 3 ≤ q) {ps : List Int} {rows nodes : List (List Int)} (hN : NodesOk nodes 0 (hd2 ps N 0 N).length) (a b : Nat) (d : List Int) (h : M0 q n N ps rows nodes a b = some d) : Dgst q d := by
  rcases List.mem_append.1 (mput_mem _ _ _ _ h) with hd' | hd'
  · obtain ⟨i, hi, e⟩ := List.mem_map.1 hd'
    simp only [Prod.mk.injEq] at e
    rw [← e.2]
    have := (hN i (List.mem_range.1 hi)).2
    rw [Nat.zero_add] at this
    exact Dgst.elr this (by omega)
  · obtain ⟨i, hi, e⟩ := List.mem_map.1 hd'
    simp only [Prod.mk.injEq] at e
    rw [← e.2]
    exact Dgst.digl h3 n _

/-- what isShown tells -/
def shwn (N : Nat) (ps : List Int) (rows nodes : List (List Int)) : Prop := rows.length = ps.length ∧ AscN (N : Int) ps ∧ (∀ i, i < nodes.length → (rat nodes i).length = 4) ∧ nodes.length = (hd2 ps N 0 N).length
theorem shwn_ok {N : Nat} {ps : List Int} {rows nodes : List (List Int)} (h : shwn N ps rows nodes) : NodesOk nodes 0 (hd2 ps N 0 N).length := fun i hi => by
  rw [Nat.zero_add]
  exact ⟨by rw [h.2.2.2]; exact hi, h.2.2.1 i (by rw [h.2.2.2]; exact hi)⟩
theorem shwn_rd {q n N : Nat} {ps : List Int} {rows nodes : List (List Int)} (h1 : 1 ≤ N) (h : shwn N ps rows nodes) : Rd q n (M0 q n N ps rows nodes) 0 N (upf q n ps rows nodes N 0 N 0 false).1 := by
  have := up_rd q n ps rows nodes (M0 q n N ps rows nodes) N 0 N 0 false h1 (Nat.le_refl _) (shwn_ok h) (fun i hi => by rw [Nat.zero_add]; exact M0_hd h1 h.2.1 hi) (fun j hj _ _ => M0_row h1 h.2.1 hj) (fun x y _ _ hxy hs => M0_none h1 hxy hs)
  rw [Nat.zero_add] at this
  exact this
theorem chk_says {q n N : Nat} (h3 : 3 ≤ q) {root ps : List Int} {rows nodes : List (List Int)} (h1 : 1 ≤ N) (h2 : N ≤ 65536) (h4 : root.length = 4) (h : shwn N ps rows nodes) :
    chkf q n root (N : Int) ps rows nodes = decide (DV q n (M0 q n N ps rows nodes) 0 N = elr q root) := by
  rw [chkf_yes ⟨by omega, by omega, h.1, h4, h.2.1⟩, Int.toNat_natCast]
  have e := (up_count q n ps rows nodes N 0 N 0 false h1 (Nat.le_refl _)).1 (shwn_ok h)
  rw [show ((0 : Nat) : Int) = 0 from rfl] at e
  rw [e, DV_eq (shwn_rd h1 h), Bool.eq_iff_iff, decide_eq_true_iff]
  simp only [Bool.not_false, Bool.and_true, Nat.zero_add, h.2.2.2, beq_self_eq_true]
  rw [samb_iff, ← elr_map, ← elr_map, upf_red h3]
theorem chk_not {q n N : Nat} {root ps : List Int} {rows nodes : List (List Int)} (h1 : 1 ≤ N) (h : ¬ shwn N ps rows nodes) : chkf q n root (N : Int) ps rows nodes = false := by
  by_cases hc : 1 ≤ (N : Int) ∧ (N : Int) ≤ 65536 ∧ rows.length = ps.length ∧ root.length = 4 ∧ AscN (N : Int) ps
  · rw [chkf_yes hc, Int.toNat_natCast]
    obtain ⟨e1, e2⟩ := up_count q n ps rows nodes N 0 N 0 false h1 (Nat.le_refl _)
    rw [show ((0 : Nat) : Int) = 0 from rfl] at e1 e2
    by_cases hN : NodesOk nodes 0 (hd2 ps N 0 N).length
    · rw [e1 hN]
      have : ¬ (hd2 ps N 0 N).length = nodes.length := fun e => h ⟨hc.2.2.1, hc.2.2.2.2, fun i hi => by have := (hN i (by omega)).2; rwa [Nat.zero_add] at this, e.symm⟩
      simp [this]
    · rw [e2 hN]
      simp
  · exact chkf_no hc

end Go.Proofs.YtionbilheeheaaeGreatDoor
