/- Programs as text: how a program is written, how long that is; parts. -/
import Derived.Test.YthpkcageimhgaaaDoorSqAM
import Derived.Test.YthpkcageimhgaaaDoorRhE
import Derived.Test.YthpkcageimhgaaaDoorSsC
namespace Go.Proofs.YthpkcageimhgaaaDoor
open Go.RowKit

theorem shp_lt {k : Nat} {nm : List UInt8} {n m : Nat} (h : shp k nm n m) : k < 12 := by
  rcases h with h | h | h | h | h | h | h <;> omega
theorem tsz_pos : ∀ t : Tr, 1 ≤ tsz t
  | .node _ _ _ _ kids => by rw [tsz]; omega
theorem pwgt_take {fs : List FnT} {j : Nat} {g : FnT} (h : fs[j]? = some g) : pwgt (fs.take (j + 1)) = pwgt (fs.take j) + fsz g ∧ pwgt (fs.take (j + 1)) ≤ pwgt fs := by
  have h1 : fs.take (j + 1) = fs.take j ++ [g] := by rw [List.take_add_one, h]; rfl
  refine ⟨by unfold pwgt; rw [h1]; simp, ?_⟩
  have h2 : pwgt fs = pwgt (fs.take (j + 1)) + pwgt (fs.drop (j + 1)) := by
    unfold pwgt
    rw [← List.sum_append, ← List.map_append, List.take_append_drop]
  omega
def smL : List (Nat × List UInt8) → Nat
  | [] => 0
  | x :: r => x.2.length + 4 + smL r
theorem smL_app : ∀ (xs ys : List (Nat × List UInt8)), smL (xs ++ ys) = smL xs + smL ys
  | [], ys => by simp [smL]
  | x :: xs, ys => by rw [List.cons_append, smL, smL, smL_app xs ys]; omega
theorem par_len (h least : Nat) (s : List UInt8) : (par h least s).length ≤ s.length + 2 := by
  unfold par
  split
  · simp
  · omega
theorem jnC_len (ks : List (Nat × List UInt8)) : ∀ j, j ≤ ks.length → (jnC ks j).length ≤ smL (ks.take j)
  | 0, _ => by simp [jnC]
  | j + 1, h => by
    have ih := jnC_len ks j (by omega)
    have hj : ks[j]? = some (ks[j]'(by omega)) := List.getElem?_eq_getElem (by omega)
    have h1 : ks.take (j + 1) = ks.take j ++ [ks[j]'(by omega)] := by rw [List.take_add_one, hj]; rfl
    have h2 : kt ks j 0 = par (ks[j]'(by omega)).1 0 (ks[j]'(by omega)).2 := by unfold kt; rw [hj]
    have h3 := par_len (ks[j]'(by omega)).1 0 (ks[j]'(by omega)).2
    have h4 : (if 0 < j then [44, 32] else ([] : List UInt8)).length ≤ 2 := by split <;> simp
    rw [jnC, List.length_append, List.length_append, h1, smL_app, h2]
    simp only [smL]
    omega
theorem inK_len (it : Nat → List UInt8) (hit : ∀ n, n ≤ 9223372036854775807 → (it n).length ≤ 20) (k : Nat) (nm : List UInt8) (n : Nat) (ks : List (Nat × List UInt8)) (h : shp k nm n ks.length) : (inK it k nm n ks).length ≤ 40 + smL ks := by
  have hp := fun (h least : Nat) (s : List UInt8) => par_len h least s
  unfold inK
  rcases h with ⟨rfl, _, hn, _⟩ | ⟨rfl, hm, _, _⟩ | ⟨rfl, hm, _, _⟩ | ⟨rfl, _, _, hl⟩ | ⟨h4, h8, _, _, hl⟩ | ⟨rfl, hm, _, hl⟩ | ⟨h10, h11, _, _, hl⟩
  · rw [if_pos rfl]; have := hit n hn; omega
  · rw [if_neg (by decide), if_pos rfl]; have := hm.2.1; omega
  · rw [if_neg (by decide), if_neg (by decide), if_pos rfl]
    have h1 := jnC_len ks ks.length (Nat.le_refl _)
    rw [List.take_length] at h1
    have := hm.2.1
    simp
    omega
  · match ks, hl with
    | [a], _ =>
      simp only [if_neg (show ¬ 3 = 0 by decide), if_neg (show ¬ 3 = 1 by decide), if_neg (show ¬ 3 = 2 by decide), if_pos, kt, smL]
      have := hp a.1 4 a.2
      simp
      omega
  · match ks, hl with
    | [a, b], _ =>
      have ho : (opS k).length ≤ 6 := by
        have : ∀ k, k < 9 → (opS k).length ≤ 6 := by decide
        exact this k (by omega)
      rw [if_neg (by omega), if_neg (by omega), if_neg (by omega), if_neg (by omega), if_neg (by omega), if_neg (by omega), if_neg (by omega)]
      split
      · have h1 := hp a.1 2 a.2
        have h2 := hp b.1 2 b.2
        simp [kt, smL]
        omega
      · have h1 := hp a.1 (hld k) a.2
        have h2 := hp b.1 (hld k + 1) b.2
        simp [kt, smL]
        omega
  · match ks, hl with
    | [a, b], _ =>
      simp only [if_neg (show ¬ 9 = 0 by decide), if_neg (show ¬ 9 = 1 by decide), if_neg (show ¬ 9 = 2 by decide), if_neg (show ¬ 9 = 3 by decide), if_pos]
      have h1 := hp a.1 0 a.2
      have h2 := hp b.1 0 b.2
      have := hm.2.1
      simp [kt, smL]
      omega
  · match ks, hl with
    | [a, b, c], _ =>
      rw [if_neg (by omega), if_neg (by omega), if_neg (by omega), if_neg (by omega), if_neg (by omega)]
      split
      · have h1 := hp a.1 2 a.2
        have h2 := hp b.1 2 b.2
        have h3 := hp c.1 0 c.2
        simp [kt, smL]
        omega
      · rw [if_pos (by omega)]
        have h1 := hp a.1 0 a.2
        have h2 := hp b.1 0 b.2
        have h3 := hp c.1 0 c.2
        simp [kt, smL]
        omega
mutual
theorem inT_len (it : Nat → List UInt8) (hit : ∀ n, n ≤ 9223372036854775807 → (it n).length ≤ 20) : ∀ (t : Tr), TW t → (inT it t).length + 4 ≤ 44 * tsz t
  | .node k nm at' n kids, h => by
    obtain ⟨h1, h2⟩ := h
    have h3 := inTs_smL it hit kids h2
    have h4 := inK_len it hit k nm n (inTs it kids) (by rw [inTs_len]; exact h1)
    rw [inT, tsz]
    omega
theorem inTs_smL (it : Nat → List UInt8) (hit : ∀ n, n ≤ 9223372036854775807 → (it n).length ≤ 20) : ∀ (ts : List Tr), TWs ts → smL (inTs it ts) ≤ 44 * tszs ts
  | [], _ => by simp [inTs, smL]
  | t :: r, h => by
    have h1 := inT_len it hit t h.1
    have h2 := inTs_smL it hit r h.2
    rw [inTs, smL, tszs]
    dsimp only
    omega
end

/-- names with commas -/
def nmC (ms : List (List UInt8 × Nat)) : Nat → List UInt8
  | 0 => []
  | j + 1 => nmC ms j ++ (if 0 < j then [44, 32] else []) ++ (match ms[j]? with | some x => x.1 | none => [])
/-- a function's line -/
def lnF (it : Nat → List UInt8) (g : FnT) : List UInt8 := [102, 110, 32] ++ g.name ++ [40] ++ nmC g.more g.more.length ++ [41, 32, 61, 32] ++ inT it g.body ++ [10]
/-- a program as text -/
def prP (it : Nat → List UInt8) (fs : List FnT) : Nat → List UInt8
  | 0 => []
  | j + 1 => prP it fs j ++ (match fs[j]? with | some g => lnF it g | none => [])
theorem nmC_len (ms : List (List UInt8 × Nat)) (h : ∀ x, x ∈ ms → x.1.length ≤ 16) : ∀ j, (nmC ms j).length ≤ 18 * j
  | 0 => by simp [nmC]
  | j + 1 => by
    have ih := nmC_len ms h j
    have h4 : (if 0 < j then [44, 32] else ([] : List UInt8)).length ≤ 2 := by split <;> simp
    have h5 : (match ms[j]? with | some x => x.1 | none => []).length ≤ 16 := by
      cases hx : ms[j]? with
      | none => simp
      | some x => exact h x (List.mem_of_getElem? hx)
    rw [nmC, List.length_append, List.length_append]
    omega
theorem lnF_len (it : Nat → List UInt8) (hit : ∀ n, n ≤ 9223372036854775807 → (it n).length ≤ 20) (g : FnT) (h : FW g) : (lnF it g).length ≤ 69 * fsz g := by
  obtain ⟨h1, h2, _, h3⟩ := h
  have e1 := h1.2.1
  have e2 := nmC_len g.more (fun x hx => (h2 x hx).2.1) g.more.length
  have e3 := inT_len it hit g.body h3
  have e4 := tsz_pos g.body
  unfold lnF fsz
  simp
  omega
theorem prP_len (it : Nat → List UInt8) (hit : ∀ n, n ≤ 9223372036854775807 → (it n).length ≤ 20) (fs : List FnT) (h : ∀ g, g ∈ fs → FW g) : ∀ j, (prP it fs j).length ≤ 69 * pwgt (fs.take j)
  | 0 => by simp [prP]
  | j + 1 => by
    have ih := prP_len it hit fs h j
    cases hx : fs[j]? with
    | none =>
      rw [prP, hx]
      have : fs.take (j + 1) = fs.take j := by rw [List.take_add_one, hx]; simp
      rw [this]
      simp
      omega
    | some g =>
      rw [prP, hx, (pwgt_take hx).1, List.length_append]
      have := lnF_len it hit g (h g (List.mem_of_getElem? hx))
      dsimp only
      omega


end Go.Proofs.YthpkcageimhgaaaDoor
