/- Arguments that are texts, opened. -/
import Derived.Test.YthemehdcakimgaiGreatDoorEnds
import Derived.ChangeMaps5
namespace Go.Proofs.YthemehdcakimgaiGreatDoor
open Go.ChangeShapes Go.WideShapes Go.RowKit

theorem reach_text {H : Type} {ts : List TypeId} {ds : List (DataW H)} {j : Nat} {s : ByteArray} (hsz : (DataW.weightsEach Tryz.prog ts ds).all (· ≤ reachBytes) = true) (ht : ts[j]? = some 9) (hd : ds[j]? = some (.lit (.string s.data.toList))) : s.size ≤ 281474976710656 := by
  have h := List.all_eq_true.1 hsz s.data.toList.length (DataW.weights_mem_each ht hd _ (by simp [DataW.weights]))
  have h2 : s.data.toList.length ≤ reachBytes := by simpa using h
  have h3 : s.data.toList.length = s.size := by rw [Array.length_toList]; rfl
  unfold reachBytes at h2
  omega

end Go.Proofs.YthemehdcakimgaiGreatDoor
