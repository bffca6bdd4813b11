/- Package machine: steps. -/
import Derived.Test.YtaibngnabhmabakDoorMahI
import Derived.Test.YtaibngnabhmabakDoorMahJ
namespace Go.Proofs.YtaibngnabhmabakDoor
open Go.RowKit Go.Maps

/-- cells whose contents are elements -/
def CsB (p : Nat) (cs : List (Int × Int)) : Prop := ∀ j, j < cs.length → 0 ≤ (cat cs j).2 ∧ (cat cs j).2 < p
theorem csB_cvl {p : Nat} {cs : List (Int × Int)} (h3 : 3 ≤ p) (h : CsB p cs) (x : Int) : 0 ≤ cvl cs x ∧ cvl cs x < p := by
  unfold cvl
  split
  · rename_i hh
    exact h _ (finz_bound hh).1
  · omega
/-- what is known at the head of steps' loop -/
structure PkI (p limit : Nat) (L : List InsZ) (X : WR) (cs : List (Int × Int)) (n : Rg) (l : List (List Int)) (f : Nat) : Prop where
  is : X = mgo p L limit f (freshM cs n) l
  fuel : l.length + f = limit + 1
  pos : 1 ≤ f
  cb : CsB p cs
  zer : Zer cs
  rg : RgB p n
theorem zer_ite {P : Prop} [Decidable P] {a b : Int × List (Int × Int)} (ha : a.1 = 0 → Zer a.2) (hb : b.1 = 0 → Zer b.2) : (if P then a else b).1 = 0 → Zer (if P then a else b).2 := by
  split
  · exact ha
  · exact hb
theorem wrk_zer {p : Nat} {op ib x0 x1 x2 : Int} {n : Rg} {cs : List (Int × Int)} (hz : Zer cs) : (wrk p op ib x0 x1 x2 n cs).1 = 0 → Zer (wrk p op ib x0 x1 x2 n cs).2 := by
  have hc : ∀ e : Int, (e, cs).1 = 0 → Zer (e, cs).2 := fun _ _ => hz
  have ht : ∀ x y : Int, (tel cs x y).1 = 0 → Zer (tel cs x y).2 := fun _ _ h => hz.tel h
  unfold wrk
  refine zer_ite (zer_ite (hc _) (zer_ite (hc _) (ht _ _))) (zer_ite (zer_ite (hc _) (zer_ite (hc _) (zer_ite (hc _) (ht _ _)))) (zer_ite (ht _ _) (zer_ite (zer_ite (hc _) (zer_ite (hc _) (zer_ite (hc _) (hc _)))) (zer_ite ?_ (zer_ite (zer_ite (hc _) (zer_ite (hc _) (zer_ite (hc _) (hc _)))) (zer_ite (ht _ _) (zer_ite (zer_ite (hc _) (ht _ _)) (zer_ite (zer_ite (hc _) (hc _)) (zer_ite (hc _) (hc _))))))))))
  by_cases h : (tel cs x0 n.fp).1 = 0
  · rw [if_neg (fun hh => hh h)]
    exact fun h2 => (hz.tel h).tel h2
  · rw [if_pos h]
    exact ht _ _

end Go.Proofs.YtaibngnabhmabakDoor
