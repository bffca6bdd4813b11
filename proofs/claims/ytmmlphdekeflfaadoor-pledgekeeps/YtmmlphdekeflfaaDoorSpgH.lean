/- Package sponge: Hash. -/
import Derived.Test.YtmmlphdekeflfaaDoorSpgT
import Derived.Test.YtmmlphdekeflfaaDoorChk
import Derived.Test.YtmmlphdekeflfaaDoorHeldR
namespace Go.Proofs.YtmmlphdekeflfaaDoor
open Go.RowKit Go.Shelf

attribute [local go_sem] Oper.semAt_some

/-! ## one block alone has turned of what was there -/
/-- the state of a digest on its way -/
def HshI (q n : Nat) (P : Nat → Int) (g : Nat) (W0 : World) {m : Nat} (pre : List (Fin m)) (W : World) : Prop :=
  (∃ G : Nat → Int, ArrI W g 49 8 G ∧ (∀ j, j < 8 → 0 ≤ G j ∧ G j < q) ∧ ∀ k, CameC pre k → ∀ j, j < 8 → G j = hst q n P k j) ∧ W0.grownBy W (some g)
theorem HshI.own {q n g m : Nat} {P : Nat → Int} {W0 : World} (hg : g < W0.heap.size) : OwnFrom W0.heap.size (fun (pre : List (Fin m)) W => HshI q n P g W0 pre W) := by
  rintro s A B row ⟨⟨G, h1, h2, h3⟩, h4⟩ hgr hrow
  have hne : ∀ k, k < W0.heap.size → some k ≠ row := fun k hk e => by have := (hrow k e.symm).1; omega
  refine ⟨⟨G, h1.block (hgr.block g h1.lt (hne g hg)), h2, h3⟩, hgr.os.trans h4.os, hgr.tape.trans h4.tape, hgr.output.trans h4.output, Nat.le_trans h4.size hgr.size, fun k hk hkg => ?_⟩
  exact (hgr.block k (Nat.lt_of_lt_of_le hk h4.size) (hne k hk)).trans (h4.block k hk hkg)

end Go.Proofs.YtmmlphdekeflfaaDoor
