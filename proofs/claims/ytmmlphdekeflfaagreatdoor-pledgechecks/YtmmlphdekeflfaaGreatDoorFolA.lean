/- attestref5: Fault, pairs, modulo, places. -/
import Derived.Test.YtmmlphdekeflfaaGreatDoorPcAT
import Derived.Test.YtmmlphdekeflfaaGreatDoorTres
namespace Go.Proofs.YtmmlphdekeflfaaGreatDoor
open Go.RowKit

/-! ## each once, ascending -/
def insz (x : Int) : List Int → List Int
  | [] => [x]
  | y :: r => if x < y then x :: y :: r else if x = y then y :: r else y :: insz x r
theorem mem_insz (x z : Int) : ∀ os : List Int, z ∈ insz x os ↔ z = x ∨ z ∈ os
  | [] => by simp [insz]
  | y :: r => by
    unfold insz
    split
    · simp
    · split
      · rename_i h; subst h; simp
      · simp only [List.mem_cons, mem_insz x z r]
        constructor
        · rintro (h | h | h)
          · exact .inr (.inl h)
          · exact .inl h
          · exact .inr (.inr h)
        · rintro (h | h | h)
          · exact .inr (.inl h)
          · exact .inl h
          · exact .inr (.inr h)
theorem asc_insz (x : Int) : ∀ os : List Int, Asc os → Asc (insz x os)
  | [], _ => by simp [insz, Asc]
  | y :: r, h => by
    have h1 := List.pairwise_cons.1 h
    unfold insz
    split
    · rename_i hx
      refine List.pairwise_cons.2 ⟨fun z hz => ?_, h⟩
      rcases List.mem_cons.1 hz with rfl | hz
      · exact hx
      · have := h1.1 z hz; omega
    · split
      · exact h
      · refine List.pairwise_cons.2 ⟨fun z hz => ?_, asc_insz x r h1.2⟩
        rcases (mem_insz x z r).1 hz with rfl | hz
        · omega
        · exact h1.1 z hz
def onc (ps : List Int) : List Int := ps.foldr insz []
theorem onc_is (ps : List Int) : OnceIs ps (onc ps) := by
  induction ps with
  | nil => exact ⟨by simp [onc, Asc], fun x => by simp [onc]⟩
  | cons a r ih =>
    refine ⟨asc_insz a _ ih.1, fun x => ?_⟩
    show x ∈ insz a (onc r) ↔ _
    rw [mem_insz, List.mem_cons, ih.2]
theorem onc_eq {ps os : List Int} (h : OnceIs ps os) : os = onc ps := h.unique (onc_is ps)

/-! ## Fault -/
/-! ## pairs -/
/-! ## modulo -/
end Go.Proofs.YtmmlphdekeflfaaGreatDoor
