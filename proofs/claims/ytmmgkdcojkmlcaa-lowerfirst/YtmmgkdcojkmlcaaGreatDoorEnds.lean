/- What every law's end leans on. An argument of type []int, opened. Arguments, each by itself. -/
import Derived.Test.YtmmgkdcojkmlcaaGreatDoorRows
import Derived.ChangeSame
import Derived.ChangeVars
import Derived.JoinedOf
import Derived.RowKit
import Derived.RowKitTokens
import Derived.LaidLaws
import Derived.LaidHandle
import Derived.Stop.Joined
import Derived.ProofKit
import Derived.OpenShut
import Derived.Test.YtmmgkdcojkmlcaaGreatDoorFld
import Derived.SizedLaws
import Derived.ChangeOld
namespace Go.Proofs.YtmmgkdcojkmlcaaGreatDoor
open Go.ChangeShapes Go.WideShapes Go.RowKit

theorem own : ownKnob Tryz.prog.godebug = none := by kernel_rfl

theorem laidOut : laidOutB Tryz.prog = true := by kernel_rfl

theorem wf_bounds {a : Int} (h : (Lit.int .i64 a).wf = true) : -9223372036854775808 ≤ a ∧ a ≤ 9223372036854775807 := bounds_i64 h

end Go.Proofs.YtmmgkdcojkmlcaaGreatDoor

namespace Go.Proofs.YtmmgkdcojkmlcaaGreatDoor
open Go.ChangeShapes Go.WideShapes Go.RowKit

theorem open_list {H : Type} {enc : TypeId × Value → H} {W : World} {a : Option Addr} {len cap fuel : Nat} {d : DataW H} {pl : List MemPlace}
    (hf : DataW.trod enc Tryz.prog W 0 (fun _ => true) true fuel 25 (Value.slice a len cap).cells.toList = some (d, pl)) :
    ∃ zs : List Int, len = zs.length ∧ Lst W.heap.size W a cap zs ∧ Fits zs ∧ ((d = .nil ∧ zs = []) ∨ ∃ elems spare, d = .slice elems spare ∧ elems.length = zs.length) := by
  rcases open_ints Tryz.underlying25 Tryz.underlying3 (by kernel_rfl) hf with ⟨hcs, hx⟩ | ⟨x, l, c, zs, hcs, _, hl, hm, hz, hx, hcell, hwz⟩
  · simp [Value.cells] at hcs
    obtain ⟨rfl, rfl, rfl⟩ := hcs
    simp only [Prod.mk.injEq] at hx
    exact ⟨[], rfl, Lst.none _ _, fun j hj => by simp at hj, Or.inl ⟨hx.1, rfl⟩⟩
  · simp [Value.cells] at hcs
    obtain ⟨rfl, rfl, rfl⟩ := hcs
    have hzc : zs.length = cap := by simpa using hz
    have htk : (zs.take len).length = len := by simp; omega
    simp only [Prod.mk.injEq] at hx
    refine ⟨zs.take len, htk.symm, ⟨?_, by omega, fun e => by cases e⟩, ?_, Or.inr ⟨_, _, hx.1, by simp [lits]⟩⟩
    · intro k hk
      rw [htk] at hk
      obtain ⟨b, off, rfl, hc⟩ := ints_at hcell (by omega)
      refine ⟨b, off, rfl, ?_, ?_⟩
      · have := hc k (by omega)
        rcases Nat.lt_or_ge b W.heap.size with g | g
        · exact g
        · simp [World.cell?, Array.getElem?_eq_none g] at this
      · rw [hc k (by omega)]
        simp [zat, hk, show k < zs.length from by omega]
    · intro j hj
      rw [htk] at hj
      have hmem : zat (zs.take len) j ∈ zs := by
        have : zat (zs.take len) j = zs[j]'(by omega) := by simp [zat, hj, show j < zs.length from by omega]
        rw [this]; exact List.getElem_mem _
      exact wf_bounds (hwz _ hmem)

/-- a list's length, out of the reach -/
theorem reach_list {H : Type} {ts : List TypeId} {ds : List (DataW H)} {j : Nat} {d : DataW H} {zs : List Int} (hsz : (DataW.weightsEach Tryz.prog ts ds).all (· ≤ reachBytes) = true) (ht : ts[j]? = some 25) (hd : ds[j]? = some d)
    (h : (d = .nil ∧ zs = []) ∨ ∃ elems spare, d = .slice elems spare ∧ elems.length = zs.length) : zs.length ≤ 17592186043904 := by
  rcases h with ⟨_, rfl⟩ | ⟨elems, spare, rfl, he⟩
  · simp
  · have hs := sized_slice hsz ht hd Tryz.underlying25
    rw [show Tryz.prog.bytesOf 3 = 8 from by kernel_rfl] at hs
    simp [reachBytes] at hs
    omega
end Go.Proofs.YtmmgkdcojkmlcaaGreatDoor

namespace Go.Proofs.YtmmgkdcojkmlcaaGreatDoor

theorem arr_of_list {args : Array Value} {l : List Value} (h : args.toList = l) : args = l.toArray := by rw [← h]

end Go.Proofs.YtmmgkdcojkmlcaaGreatDoor
