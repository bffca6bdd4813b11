/- Package tree: joined, hash, seeRow. Package tree: a walk's root. Package tree: a walk's root, where it is not found. -/
import Derived.Test.YtfppkjpgihnibaaDoorTrgs
import Derived.Test.YtfppkjpgihnibaaDoorWbtAN
import Derived.Test.YtfppkjpgihnibaaDoorWbtAM
namespace Go.Proofs.YtfppkjpgihnibaaDoor
open Go.RowKit

end Go.Proofs.YtfppkjpgihnibaaDoor

namespace Go.Proofs.YtfppkjpgihnibaaDoor
open Go.RowKit

/-- what is found is right -/
def Snd (M : Nat → Nat → Option (List Int)) (D : Nat → Nat → List Int) : Prop := ∀ a b d, M a b = some d → d = D a b
/-- what was found stays -/
def Sub (M M' : Nat → Nat → Option (List Int)) : Prop := ∀ a b, M a b ≠ none → M' a b ≠ none
/-- of what is new both parts are found -/
def ClM (M M' : Nat → Nat → Option (List Int)) : Prop := ∀ a b, M' a b ≠ none → M a b ≠ none ∨ (2 ≤ b - a ∧ M' a (a + lft (b - a)) ≠ none ∧ M' (a + lft (b - a)) b ≠ none)

end Go.Proofs.YtfppkjpgihnibaaDoor

namespace Go.Proofs.YtfppkjpgihnibaaDoor
open Go.RowKit

/-- the map, while its two parts are worked out -/
def PMx (D : Nat → Nat → List Int) (M : Nat → Nat → Option (List Int)) (B x m y : Nat) (u v : Bool) (W : World) : Prop :=
  ∃ M', MapIs W B M' ∧ Snd M' D ∧ Sub M M' ∧ ClM M M' ∧ (u = true → M' x m ≠ none) ∧ (v = true → M' m y ≠ none)
theorem PMx.block {D : Nat → Nat → List Int} {M : Nat → Nat → Option (List Int)} {B x m y : Nat} {u v : Bool} {W W' : World} (h : PMx D M B x m y u v W) (e : W'.heap[B]? = W.heap[B]?) : PMx D M B x m y u v W' := by
  obtain ⟨M', h1, r⟩ := h
  exact ⟨M', h1.block e, r⟩
def d4 (d : List Int) : Value := .agg #[.int .i64 (zat d 0), .int .i64 (zat d 1), .int .i64 (zat d 2), .int .i64 (zat d 3)]
theorem ArrI.lst {W : World} {A : Nat} {t : TypeId} {d : List Int} (h : ArrI W A t 4 (zat d)) (hd : d.length = 4) : Lst W.heap.size W (some ⟨A, 0, none⟩) 4 d :=
  ⟨fun k hk => ⟨A, 0, rfl, h.lt, by rw [Nat.zero_add]; exact h.cell (by omega)⟩, by omega, fun e => by cases e⟩
def sq : Code → Code
  | .seq _ b => b
  | c => c
end Go.Proofs.YtfppkjpgihnibaaDoor
