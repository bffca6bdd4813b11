/- attestref6.Run. Steps of a walk: their bounds. -/
import Derived.Test.YtaibngnabhmabajGreatDoorBtBC
import Derived.Test.YtaibngnabhmabajGreatDoorHeldS
import Derived.Test.YtaibngnabhmabajGreatDoorBtAL
import Derived.Test.YtaibngnabhmabajGreatDoorBtAO
namespace Go.Proofs.YtaibngnabhmabajGreatDoor
open Go.RowKit Go.Maps

/-- what stands in Run's loop -/
structure RnI (p RB : Nat) (cs : List (Int × Int)) (o : Int) (k : Nat) (low : Int) (pre : List (Int × Int)) (v : Value) (w1 wr : World) : Prop where
  pr : Pre6 cs low pre
  lt : low < (p : Int)
  r : wr.heap[RB]? = some (.cells #[.int .i64 o, .int .i64 (k : Int), v] 66 (0, 0))
  own : CelR (RB + 1) wr v pre
  bel : Below RB w1 wr
  sz : RB + 1 ≤ wr.heap.size
  len : pre.length ≤ cs.countP (fun c => decide (c.1 ≤ low))

end Go.Proofs.YtaibngnabhmabajGreatDoor

namespace Go.Proofs.YtaibngnabhmabajGreatDoor
open Go.RowKit Go.Maps

/-- a step: ten elements, its instruction is one of nL -/
def StB (p nL : Nat) (s : List Int) : Prop := s.length = 10 ∧ (∀ j, j < 10 → 0 ≤ zat s j ∧ zat s j < (p : Int)) ∧ zat s 0 < (nL : Int)
theorem cel3_bd {p : Nat} (h3 : 3 ≤ p) (op a b c fp ap : Int) (i : Nat) : 0 ≤ cel3 p op a b c fp ap i ∧ cel3 p op a b c fp ap i < (p : Int) := by
  have e : ∀ x : Int, 0 ≤ x % (p : Int) ∧ x % (p : Int) < (p : Int) := fun x => emod_bounds x p h3
  have z : 0 ≤ (0 : Int) ∧ (0 : Int) < (p : Int) := ⟨by decide, by omega⟩
  unfold cel3
  repeat' split
  all_goals first | exact e _ | exact z
theorem mgo_steps (p : Nat) (L : List InsZ) (limit : Nat) (h3 : 3 ≤ p) : ∀ (f : Nat) (k : Nat) (n : Rg) (cs1 : List (Int × Int)) (done l : List (List Int)) (cs : List (Int × Int)), mgo p L limit f (freshM cs1 n) done = .good l cs → SOk p k 0 (freshM cs1 n) → RgB p n → Zer cs1 → (∀ s, s ∈ done → StB p L.length s) → (∀ s, s ∈ l → StB p L.length s) ∧ 0 < l.length
  | 0, _, _, _, _, _, _, h, _, _, _, _ => by simp [mgo] at h
  | f + 1, k, n, cs1, done, l, cs, h, hs, hr, hz, hd => by
    rw [mgo] at h
    split at h
    · cases h
    · rename_i hpc
      split at h
      · cases h
      · split at h
        · cases h
        · rename_i herr
          have hso := step_ok h3 hs hr (insat L (freshM cs1 n).pc.toNat).op (insat L (freshM cs1 n).pc.toNat).a (insat L (freshM cs1 n).pc.toNat).b (insat L (freshM cs1 n).pc.toNat).c
          have hcb : CsB p cs1 := fun j hj => hs.1 j hj
          have hst := step_is (a := (insat L (freshM cs1 n).pc.toNat).a) (b := (insat L (freshM cs1 n).pc.toNat).b) (c := (insat L (freshM cs1 n).pc.toNat).c) (n := n) (insat L (freshM cs1 n).pc.toNat).op h3 hz hr (csB_cvl h3 hcb)
          generalize (insat L (freshM cs1 n).pc.toNat).op = op at *
          generalize (insat L (freshM cs1 n).pc.toNat).a = ia at *
          generalize (insat L (freshM cs1 n).pc.toNat).b = ib at *
          generalize (insat L (freshM cs1 n).pc.toNat).c = ic at *
          obtain ⟨he, hnow⟩ := hst
          have he0 : ((freshM cs1 n).step p op ia ib ic).1.err = 0 := Decidable.byContradiction herr
          obtain ⟨hcs, hnw, _⟩ := hnow (he.symm.trans he0)
          have hzz : Zer ((freshM cs1 n).step p op ia ib ic).1.cs := by
            rw [hcs]
            exact wrk_zer hz (he.symm.trans he0)
          have hcb2 : CsB p ((freshM cs1 n).step p op ia ib ic).1.cs := fun j hj => hso.1.1 j hj
          have hv := csB_cvl h3 hcb2
          have hone : StB p L.length ((freshM cs1 n).step p op ia ib ic).1.now := by
            rw [hnw, ← hcs]
            have hx := cel3_bd h3 op ia ib ic n.fp n.ap
            have hpc' : n.pc < (L.length : Int) := by
              have : ¬ (L.length : Int) ≤ n.pc := hpc
              omega
            refine ⟨rfl, fun j hj => ?_, hpc'⟩
            obtain ⟨r1, r2, r3, r4⟩ := hr
            have : j = 0 ∨ j = 1 ∨ j = 2 ∨ j = 3 ∨ j = 4 ∨ j = 5 ∨ j = 6 ∨ j = 7 ∨ j = 8 ∨ j = 9 := by omega
            rcases this with rfl | rfl | rfl | rfl | rfl | rfl | rfl | rfl | rfl | rfl
            · exact r1
            · exact r2
            · exact r3
            · exact r4
            · exact hx 0
            · exact hx 1
            · exact hx 2
            · exact hv _
            · exact hv _
            · exact hv _
          have hd2 : ∀ s, s ∈ done ++ [((freshM cs1 n).step p op ia ib ic).1.now] → StB p L.length s := fun s hs => by
            rcases List.mem_append.1 hs with h1 | h1
            · exact hd s h1
            · rw [List.mem_singleton] at h1; rw [h1]; exact hone
          split at h
          · injection h with h1 h2
            rw [← h1]
            exact ⟨hd2, by simp⟩
          · exact mgo_steps p L limit h3 f (k + 2) _ _ _ l cs h ⟨hso.1.1, hso.1.2.1, fun _ => Nat.le_refl _⟩ hso.2 hzz hd2
theorem mwalk_steps {p : Nat} {size : Int} {L : List InsZ} {limit : Nat} {l : List (List Int)} {cs : List (Int × Int)} (h3 : 3 ≤ p) (h : mwalk p size L limit = .good l cs) : (∀ s, s ∈ l → StB p L.length s) ∧ 0 < l.length := by
  refine mgo_steps p L limit h3 _ 1 _ _ _ l cs h ⟨fun j hj => ?_, Nat.le_refl _, fun _ => Nat.le_refl _⟩ ⟨⟨Int.le_refl _, by show (0 : Int) < p; omega⟩, ⟨by show (0 : Int) ≤ 1; omega, by show (1 : Int) < p; omega⟩, emod_bounds _ p h3, ⟨Int.le_refl _, by show (0 : Int) < p; omega⟩⟩ ⟨by decide, by decide⟩ (fun s hs => by cases hs)
  have : j = 0 := by simpa [freshM] using hj
  subst this
  show 0 ≤ (0 : Int) ∧ (0 : Int) < p
  omega

end Go.Proofs.YtaibngnabhmabajGreatDoor
