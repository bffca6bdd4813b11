/- Package rules: said, all that is said of a row. The first rule that does not hold, and the first row in which it does not: plainly. slices.SortFunc at cells: laid for this program. -/
import Derived.Test.YtfppkjpgihnibaaDoorRxJ
import Derived.Test.YtfppkjpgihnibaaDoorRxK
import Derived.Test.YtfppkjpgihnibaaDoorRxL
import Derived.Test.YtfppkjpgihnibaaDoorWbtAN
import Derived.Test.YtfppkjpgihnibaaDoorTres
import Derived.Maps.AppendAt
import Derived.Test.YtfppkjpgihnibaaDoorWbtAI
import Derived.Shelf.SlLaysF0
import Derived.Test.YtfppkjpgihnibaaDoorProg
namespace Go.Proofs.YtfppkjpgihnibaaDoor
open Go.RowKit Go.Maps

/-- what has been said so far -/
structure SdI (p b V : Nat) (L : List InsZ) (size out : Int) (r n : List Int) (aL : Option Addr) (cL : Nat) (ar : Option Addr) (cr : Nat) (an : Option Addr) (cn : Nat) (w : World) (l : List Int) (v : Value) (W : World) : Prop where
  own : W.ownsRow w.heap.size 3 1 v l.length (l.map (Value.int .i64))
  bel : Below w.heap.size w W
theorem SdI.step {p b V : Nat} {L : List InsZ} {size out : Int} {r n : List Int} {aL : Option Addr} {cL : Nat} {ar : Option Addr} {cr : Nat} {an : Option Addr} {cn : Nat} {w W W' : World} {l : List Int} {v : Value} (h : SdI p b V L size out r n aL cL ar cr an cn w l v W) (e : Below W.heap.size W W') : SdI p b V L size out r n aL cL ar cr an cn w l v W' :=
  ⟨World.ownsRow.kept (row := none) h.own (gb_of_below e) (by cases v.ownBlock <;> simp), h.bel.trans (e.mono h.bel.size)⟩

end Go.Proofs.YtfppkjpgihnibaaDoor

namespace Go.Proofs.YtfppkjpgihnibaaDoor
open Go.RowKit Go.Maps

/-- the first of so many -/
def FstB (P : Nat → Bool) (m : Nat) (z : Int) : Prop := (z = -1 ∧ ∀ k, k < m → P k = false) ∨ ∃ k, k < m ∧ z = (k : Int) ∧ P k = true ∧ ∀ j, j < k → P j = false
/-- the first rule of all rows that does not hold, and the first row of it -/
def MinB (P : Nat → Nat → Bool) (m n : Nat) (z x : Int) : Prop := (z = -1 ∧ x = 0 ∧ ∀ i, i < n → ∀ k, k < m → P i k = false) ∨
  ∃ k i, k < m ∧ i < n ∧ z = (k : Int) ∧ x = (i : Int) ∧ P i k = true ∧ (∀ i', i' < n → ∀ j, j < k → P i' j = false) ∧ ∀ i', i' < i → P i' k = false
theorem MinB.one {P : Nat → Nat → Bool} {m n : Nat} {z x z' x' : Int} (h : MinB P m n z x) (h' : MinB P m n z' x') : z = z' ∧ x = x' := by
  rcases h with ⟨rfl, rfl, h1⟩ | ⟨k, i, hk, hi, rfl, rfl, h2, h3, h4⟩
  · rcases h' with ⟨rfl, rfl, _⟩ | ⟨k, i, hk, hi, rfl, rfl, h2, _⟩
    · exact ⟨rfl, rfl⟩
    · rw [h1 i hi k hk] at h2; cases h2
  · rcases h' with ⟨rfl, rfl, h1⟩ | ⟨k', i', hk', hi', rfl, rfl, h2', h3', h4'⟩
    · rw [h1 i hi k hk] at h2; cases h2
    · have hkk : k = k' := by
        rcases Nat.lt_trichotomy k k' with g | g | g
        · rw [h3' i hi k g] at h2; cases h2
        · exact g
        · rw [h3 i' hi' k' g] at h2'; cases h2'
      subst hkk
      have hii : i = i' := by
        rcases Nat.lt_trichotomy i i' with g | g | g
        · rw [h4' i g] at h2; cases h2
        · exact g
        · rw [h4 i' g] at h2'; cases h2'
      subst hii
      exact ⟨rfl, rfl⟩
theorem MinB.start (P : Nat → Nat → Bool) (m : Nat) : MinB P m 0 (-1) 0 := .inl ⟨rfl, rfl, fun _ h => absurd h (Nat.not_lt_zero _)⟩
/-- one row more: none of it, or none that is earlier -/
theorem MinB.keep {P : Nat → Nat → Bool} {m n : Nat} {z x f : Int} (h : MinB P m n z x) (hf : FstB (P n) m f) (hno : ¬ (0 ≤ f ∧ (z < 0 ∨ f < z))) : MinB P m (n + 1) z x := by
  rcases h with ⟨rfl, rfl, h1⟩ | ⟨k, i, hk, hi, rfl, rfl, h2, h3, h4⟩
  · rcases hf with ⟨rfl, hf⟩ | ⟨k, hk, rfl, _⟩
    · refine .inl ⟨rfl, rfl, fun i hi => ?_⟩
      by_cases e : i = n
      · subst e; exact hf
      · exact h1 i (by omega)
    · exact absurd ⟨by omega, .inl (by omega)⟩ hno
  · refine .inr ⟨k, i, hk, by omega, rfl, rfl, h2, fun i' hi' j hj => ?_, h4⟩
    by_cases e : i' = n
    · subst e
      rcases hf with ⟨_, hf⟩ | ⟨k', hk', rfl, _, hf⟩
      · exact hf j (by omega)
      · have : ¬ ((k' : Int) < (k : Int)) := fun h => hno ⟨by omega, .inr h⟩
        exact hf j (by omega)
    · exact h3 i' (by omega) j hj
/-- .. or one that is earlier -/
theorem MinB.take {P : Nat → Nat → Bool} {m n : Nat} {z x f : Int} (h : MinB P m n z x) (hf : FstB (P n) m f) (hyes : 0 ≤ f ∧ (z < 0 ∨ f < z)) : MinB P m (n + 1) f (n : Int) := by
  rcases hf with ⟨rfl, hf⟩ | ⟨k', hk', rfl, hp, hf⟩
  · omega
  · refine .inr ⟨k', n, hk', by omega, rfl, rfl, hp, fun i' hi' j hj => ?_, fun i' hi' => ?_⟩
    · by_cases e : i' = n
      · subst e; exact hf j hj
      · rcases h with ⟨rfl, rfl, h1⟩ | ⟨k, i, hk, hi, rfl, rfl, h2, h3, h4⟩
        · exact h1 i' (by omega) j (by omega)
        · exact h3 i' (by omega) j (by omega)
    · rcases h with ⟨rfl, rfl, h1⟩ | ⟨k, i, hk, hi, rfl, rfl, h2, h3, h4⟩
      · exact h1 i' hi' k' hk'
      · exact h3 i' hi' k' (by omega)
end Go.Proofs.YtfppkjpgihnibaaDoor

namespace Go.Proofs
open Go.Shelf

end Go.Proofs
