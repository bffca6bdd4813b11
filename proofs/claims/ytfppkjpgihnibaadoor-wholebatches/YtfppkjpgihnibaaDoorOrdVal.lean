/- A great region that draws its order, by what every place of its frame comes to hold: one small proof an operation. Own laws. -/
import Derived.Test.YtfppkjpgihnibaaDoorWbtAM
namespace Go.Proofs.YtfppkjpgihnibaaDoor
open Go

theorem findIdx_ds {ds : List Nat} {t k : Nat} (hn : ds.Nodup) (h : ds[k]? = some t) : ds.findIdx? (· == t) = some k := by
  obtain ⟨hk, he⟩ := List.getElem?_eq_some_iff.1 h
  rw [List.findIdx?_eq_some_iff_getElem]
  refine ⟨hk, by simp [he], fun j hj => ?_⟩
  have : ds[j] ≠ ds[k] := List.pairwise_iff_getElem.1 hn j k (by omega) hk hj
  simp only [Bool.not_eq_true, beq_eq_false_iff_ne, ne_eq]
  rw [← he]
  exact this
section
variable {P : Program} {ops : Array Oper} {Q : Exit → Act → World → Prop} {md : Region.Mode}

/-- what is kept: each place that is written holds what the table says -/
def InvT (ds : List Nat) (vs : Nat → List Value) (S : World → Prop) (Sg : Nat → World → Prop) (m : Nat) (a0 : Act) (L : Array Bool) (a : Act) (w : World) : Prop :=
  L.size = m + 2 ∧ ∃ g, S w ∧ (L.getD m false = true → Sg g w) ∧ a.defers = a0.defers ∧ a.tmps.size = a0.tmps.size ∧ (∀ t, t ∉ ds → a.tmps.getD t undef = a0.tmps.getD t undef) ∧ ∀ k t, L.getD k false = true → ds[k]? = some t → a.tmps.getD t undef = (vs g).getD k undef

theorem InvT.next {ds : List Nat} {vs : Nat → List Value} {S : World → Prop} {Sg : Nat → World → Prop} {m i d : Nat} {a0 a : Act} {L : Array Bool} {w' : World} {g g' : Nat} (hz : L.size = m + 2) (hnd : ds.Nodup) (hd : ds[i]? = some d) (hlt : d < a0.tmps.size)
    (h3 : a.defers = a0.defers) (h4 : a.tmps.size = a0.tmps.size) (h5 : ∀ t, t ∉ ds → a.tmps.getD t undef = a0.tmps.getD t undef) (h6 : ∀ k t, L.getD k false = true → ds[k]? = some t → a.tmps.getD t undef = (vs g).getD k undef)
    (hS : S w') (hG : (L.setIfInBounds i true).getD m false = true → Sg g' w') (hsame : ∀ k, k ≠ i → L.getD k false = true → (vs g).getD k undef = (vs g').getD k undef) : InvT ds vs S Sg m a0 (L.setIfInBounds i true) (a.put (some d) ((vs g').getD i undef)) w' := by
  have hmem : d ∈ ds := List.mem_of_getElem? hd
  refine ⟨by simpa using hz, g', hS, hG, h3, by simp [Act.put, h4], fun t ht => ?_, fun k t hk ht => ?_⟩
  · have hne : d ≠ t := fun e => ht (e ▸ hmem)
    rw [← h5 t ht]
    simp only [Act.put, Array.getD_eq_getD_getElem?]
    rw [Array.getElem?_setIfInBounds_ne hne]
  · by_cases e : k = i
    · subst e
      rw [hd] at ht
      injection ht with ht
      subst ht
      have hd2 : d < a.tmps.size := by omega
      simp [Act.put, hd2]
    · have hne : d ≠ t := fun e2 => by
        subst e2
        have h1 := findIdx_ds hnd hd
        rw [findIdx_ds hnd ht] at h1
        injection h1 with h1
        exact e h1
      have hk' : L.getD k false = true := by
        rw [getD_set_other (fun h => e h.symm)] at hk; exact hk
      rw [← hsame k e hk', ← h6 k t hk' ht]
      simp only [Act.put, Array.getD_eq_getD_getElem?]
      rw [Array.getElem?_setIfInBounds_ne hne]

/-- each operation of a list -/
def AllI (p : Nat → Oper → Prop) : Nat → List Oper → Prop
  | _, [] => True
  | i, o :: r => p i o ∧ AllI p (i + 1) r
theorem AllI.cons {p : Nat → Oper → Prop} {i : Nat} {o : Oper} {r : List Oper} (h : p i o) (hr : AllI p (i + 1) r) : AllI p i (o :: r) := ⟨h, hr⟩
theorem AllI.nil {p : Nat → Oper → Prop} {i : Nat} : AllI p i [] := trivial
theorem AllI.at {p : Nat → Oper → Prop} : ∀ {l : List Oper} {i : Nat}, AllI p i l → ∀ k o, l[k]? = some o → p (i + k) o
  | [], _, _, k, o, h => by simp at h
  | x :: r, i, ha, 0, o, h => by
    simp at h; subst h; exact ha.1
  | x :: r, i, ha, k + 1, o, h => by
    have := AllI.at ha.2 k o (by simpa using h)
    rw [show i + (k + 1) = i + 1 + k by omega]
    exact this

end
end Go.Proofs.YtfppkjpgihnibaaDoor
