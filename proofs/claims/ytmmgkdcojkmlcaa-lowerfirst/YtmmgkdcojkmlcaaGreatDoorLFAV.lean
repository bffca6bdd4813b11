/- Package source: what a program comes to, plainly; a part that is looked at. Package source: values, two after one another. Package source: signs between two parts. Programs as text, plainly: what is read and whose names stand has a value, or an end. Package source: a call. -/
import Derived.Test.YtmmgkdcojkmlcaaGreatDoorLFAN
import Derived.Test.YtmmgkdcojkmlcaaGreatDoorSpgs
namespace Go.Proofs.YtmmgkdcojkmlcaaGreatDoor
open Go.RowKit

/-- a value and how many parts were looked at; or an end -/
inductive ER (α : Type) where
  | val (x : α) (k : Nat)
  | stop (er : Nat)
  | out
def ER.bind {α β : Type} (r : ER α) (f : α → Nat → ER β) : ER β := match r with
  | .val x k => f x k
  | .stop er => .stop er
  | .out => .out
/-- the function of a name -/
def fnOf (fs : List FnT) (nm : List UInt8) : Option FnT := match nmM fs fs.length nm with
  | some i => fs[i.toNat]?
  | none => none
end Go.Proofs.YtmmgkdcojkmlcaaGreatDoor

namespace Go.Proofs.YtmmgkdcojkmlcaaGreatDoor
open Go.RowKit

theorem ER.bind_val {α β : Type} {r : ER α} {f : α → Nat → ER β} {y : β} {j : Nat} (h : r.bind f = .val y j) : ∃ x k, r = .val x k ∧ f x k = .val y j := by
  cases r with
  | val x k => exact ⟨x, k, rfl, h⟩
  | stop e => cases h
  | out => cases h
end Go.Proofs.YtmmgkdcojkmlcaaGreatDoor

namespace Go.Proofs.YtmmgkdcojkmlcaaGreatDoor
open Go.RowKit

end Go.Proofs.YtmmgkdcojkmlcaaGreatDoor

namespace Go.Proofs.YtmmgkdcojkmlcaaGreatDoor

theorem nmM_some (fs : List FnT) : ∀ (k : Nat) (nm : List UInt8) (z : Int), nmM fs k nm = some z → ∃ j g, z = (j : Nat) ∧ j < k ∧ fs[j]? = some g ∧ g.name = nm
  | 0, nm, z, h => by rw [nmM] at h; cases h
  | k + 1, nm, z, h => by
    rw [nmM] at h
    cases hg : fs[k]? with
    | some g =>
      rw [hg] at h
      dsimp only at h
      unfold updI at h
      by_cases e : nm = g.name
      · rw [if_pos e] at h
        injection h with h
        exact ⟨k, g, h.symm, by omega, hg, e.symm⟩
      · rw [if_neg e] at h
        obtain ⟨j, g', h1, h2, h3⟩ := nmM_some fs k nm z h
        exact ⟨j, g', h1, by omega, h3⟩
    | none =>
      rw [hg] at h
      obtain ⟨j, g', h1, h2, h3⟩ := nmM_some fs k nm z h
      exact ⟨j, g', h1, by omega, h3⟩
theorem nmM_has (fs : List FnT) : ∀ (k j : Nat) (g : FnT), j < k → fs[j]? = some g → (nmM fs k g.name).isSome = true
  | 0, j, g, h, _ => by omega
  | k + 1, j, g, h, hg => by
    rw [nmM]
    cases hg' : fs[k]? with
    | some g' =>
      dsimp only
      unfold updI
      by_cases e : g.name = g'.name
      · rw [if_pos e]; rfl
      · rw [if_neg e]
        refine nmM_has fs k j g ?_ hg
        rcases Nat.lt_or_ge j k with h1 | h1
        · exact h1
        · have : j = k := by omega
          rw [this, hg'] at hg
          injection hg with hg
          exact absurd (by rw [hg]) e
    | none =>
      refine nmM_has fs k j g ?_ hg
      rcases Nat.lt_or_ge j k with h1 | h1
      · exact h1
      · have : j = k := by omega
        rw [this, hg'] at hg
        cases hg
/-- no function's name is another's, and the names within each stand -/
def FsOk (fs : List FnT) : Prop := ∀ i g, fs[i]? = some g → (fs.take i).any (fun h => h.name == g.name) = false ∧ ckw (sgF fs) g = none
theorem ckl_none (fs : List FnT) : ∀ (r : List FnT) (i : Nat), ckl fs r i = none → ∀ j g, r[j]? = some g → (fs.take (i + j)).any (fun h => h.name == g.name) = false ∧ ckw (sgF fs) g = none
  | [], _, _, j, g, hg => by simp at hg
  | x :: r, i, h, j, g, hg => by
    rw [ckl] at h
    split at h
    · cases h
    · rename_i ha
      split at h
      · cases h
      · rename_i hc
        cases j with
        | zero =>
          simp at hg
          subst hg
          exact ⟨by simpa using ha, hc⟩
        | succ j =>
          have := ckl_none fs r (i + 1) h j g (by simpa using hg)
          rwa [show i + 1 + j = i + (j + 1) by omega] at this
theorem ckn_none {fs : List FnT} {len : Nat} (h : ckn fs len = none) : FsOk fs ∧ fs.any (fun h => h.name == mainW) = true := by
  unfold ckn at h
  split at h
  · cases h
  · rename_i hc
    split at h
    · rename_i hm
      exact ⟨fun i g hg => by have := ckl_none fs fs 0 hc i g hg; rwa [Nat.zero_add] at this, hm⟩
    · cases h
theorem FsOk.one {fs : List FnT} (h : FsOk fs) {i j : Nat} {g g' : FnT} (hi : fs[i]? = some g) (hj : fs[j]? = some g') (e : g.name = g'.name) : i = j := by
  have key : ∀ (i j : Nat) (g g' : FnT), fs[i]? = some g → fs[j]? = some g' → g.name = g'.name → ¬ i < j := by
    intro i j g g' hi hj e hlt
    have h1 := (h j g' hj).1
    rw [List.any_eq_false] at h1
    exact h1 g (List.mem_of_getElem? (i := i) (by rw [List.getElem?_take_of_lt hlt]; exact hi)) (by simp [e])
  have h1 := key i j g g' hi hj e
  have h2 := key j i g' g hj hi e.symm
  omega
theorem FsOk.num {fs : List FnT} (h : FsOk fs) {i : Nat} {g : FnT} (hi : fs[i]? = some g) : nmM fs fs.length g.name = some (i : Int) := by
  have h1 := nmM_has fs fs.length i g (List.getElem?_eq_some_iff.1 hi).1 hi
  cases hz : nmM fs fs.length g.name with
  | none => rw [hz] at h1; cases h1
  | some z =>
    obtain ⟨j, g', e1, _, e2, e3⟩ := nmM_some fs _ _ _ hz
    rw [h.one hi e2 e3.symm, e1]
theorem FsOk.fn {fs : List FnT} (h : FsOk fs) {i : Nat} {g : FnT} (hi : fs[i]? = some g) : fnOf fs g.name = some g := by
  unfold fnOf
  rw [h.num hi]
  simpa using hi
end Go.Proofs.YtmmgkdcojkmlcaaGreatDoor

namespace Go.Proofs.YtmmgkdcojkmlcaaGreatDoor
open Go.RowKit

end Go.Proofs.YtmmgkdcojkmlcaaGreatDoor
