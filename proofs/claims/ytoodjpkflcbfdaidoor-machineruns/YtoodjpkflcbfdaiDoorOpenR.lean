/- Arguments of type [][]int and api.Opening, opened. -/
import Derived.Test.YtoodjpkflcbfdaiDoorTres
import Derived.Test.YtoodjpkflcbfdaiDoorEnds
import Derived.Deep.Matrix
import Derived.Deep.Strs
import Derived.Lib.SmallJoins
namespace Go.Proofs.YtoodjpkflcbfdaiDoor
open Go.ChangeShapes Go.WideShapes Go.RowKit Go.Deep

/-- a list's datum -/
def ListDat {H : Type} (d : DataW H) (zs : List Int) : Prop := (d = .nil ∧ zs = []) ∨ ∃ elems spare, d = .slice elems spare ∧ elems.length = zs.length
/-- a datum of rows of rows -/
def RowsDat {H : Type} (d : DataW H) (rows : List (List Int)) : Prop := (d = .nil ∧ rows = []) ∨ ∃ elems spare, d = .slice elems spare ∧ elems.length = rows.length ∧ ∀ k, k < rows.length → ∃ dk, elems[k]? = some dk ∧ ListDat dk (rat rows k)

theorem weightsAll_mem {H : Type} {P : Program} {e : TypeId} : ∀ {ds : List (DataW H)} {j : Nat} {d : DataW H}, ds[j]? = some d → ∀ n ∈ d.weights P e, n ∈ DataW.weightsAll P e ds
  | [], _, _, h, _, _ => by simp at h
  | d0 :: ds, 0, d, h, n, hn => by
    simp only [List.getElem?_cons_zero, Option.some.injEq] at h
    subst h
    simp only [DataW.weightsAll, List.mem_append]
    exact Or.inl hn
  | d0 :: ds, j + 1, d, h, n, hn => by
    simp only [List.getElem?_cons_succ] at h
    simp only [DataW.weightsAll, List.mem_append]
    exact Or.inr (weightsAll_mem h n hn)

theorem reach_each {H : Type} {ts : List TypeId} {ds : List (DataW H)} {j : Nat} {t : TypeId} {d : DataW H} (hsz : (DataW.weightsEach Tryd.prog ts ds).all (· ≤ reachBytes) = true) (ht : ts[j]? = some t) (hd : ds[j]? = some d) : ∀ n ∈ d.weights Tryd.prog t, n ≤ reachBytes :=
  fun n hn => by simpa using List.all_eq_true.1 hsz n (DataW.weights_mem_each ht hd n hn)
theorem addr_of_cell {W : World} {a : Addr} {v : Value} (h : W.cell? (a.add 0) = some v) : ∃ b o, a = ⟨b, o, none⟩ := by
  obtain ⟨b, off, spot⟩ := a
  have hspot : spot = none := by simpa [Addr.add] using World.cell?_spot h
  subst hspot
  exact ⟨b, off, rfl⟩
theorem blk_of_cell {W : World} {b o : Nat} {v : Value} (h : W.cell? ⟨b, o, none⟩ = some v) : b < W.heap.size := by
  rcases Nat.lt_or_ge b W.heap.size with g | g
  · exact g
  · simp [World.cell?, Array.getElem?_eq_none g] at h

/-- rows that fit, out of the reach -/
theorem fitsR_of {rows : List (List Int)} (h1 : ∀ k, k < rows.length → Fits (rat rows k)) (h2 : ∀ k, k < rows.length → (rat rows k).length ≤ 17592186043904) : FitsR rows := fun k hk => ⟨h1 k hk, by have := h2 k hk; omega⟩

/-- an Opening's datum -/
def OpenDat {H : Type} (d : DataW H) (ps : List Int) (rows nodes : List (List Int)) : Prop := ∃ d0 d1 d2, d = .agg [d0, d1, d2] ∧ ListDat d0 ps ∧ RowsDat d1 rows ∧ RowsDat d2 nodes
end Go.Proofs.YtoodjpkflcbfdaiDoor
