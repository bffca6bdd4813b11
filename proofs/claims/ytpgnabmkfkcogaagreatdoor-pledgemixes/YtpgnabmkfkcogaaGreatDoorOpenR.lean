/- Arguments of type [][]int and api.Opening, opened. -/
import Derived.Test.YtpgnabmkfkcogaaGreatDoorTres
import Derived.Test.YtpgnabmkfkcogaaGreatDoorEnds
import Derived.Deep.Matrix
import Derived.Deep.Strs
import Derived.Lib.SmallJoins
namespace Go.Proofs.YtpgnabmkfkcogaaGreatDoor
open Go.ChangeShapes Go.WideShapes Go.RowKit Go.Deep

/-- a list's datum -/
def ListDat {H : Type} (d : DataW H) (zs : List Int) : Prop := (d = .nil ∧ zs = []) ∨ ∃ elems spare, d = .slice elems spare ∧ elems.length = zs.length
/-- a datum of rows of rows -/
def RowsDat {H : Type} (d : DataW H) (rows : List (List Int)) : Prop := (d = .nil ∧ rows = []) ∨ ∃ elems spare, d = .slice elems spare ∧ elems.length = rows.length ∧ ∀ k, k < rows.length → ∃ dk, elems[k]? = some dk ∧ ListDat dk (rat rows k)

theorem weightsAll_mem {H : Type} {P : Program} {e : TypeId} : ∀ {ds : List (DataW H)} {j : Nat} {d : DataW H}, ds[j]? = some d → ∀ n ∈ d.weights P e, n ∈ DataW.weightsAll P e ds
  | [], _, _, h, _, _ => by simp at h
  | d0 :: ds, 0, d, h, n, hn => by
    simp only [List.getElem?_cons_zero, Option.some.injEq] at h
    subst h
    simp only [DataW.weightsAll, List.mem_append]
    exact Or.inl hn
  | d0 :: ds, j + 1, d, h, n, hn => by
    simp only [List.getElem?_cons_succ] at h
    simp only [DataW.weightsAll, List.mem_append]
    exact Or.inr (weightsAll_mem h n hn)

theorem reach_each {H : Type} {ts : List TypeId} {ds : List (DataW H)} {j : Nat} {t : TypeId} {d : DataW H} (hsz : (DataW.weightsEach Tryz.prog ts ds).all (· ≤ reachBytes) = true) (ht : ts[j]? = some t) (hd : ds[j]? = some d) : ∀ n ∈ d.weights Tryz.prog t, n ≤ reachBytes :=
  fun n hn => by simpa using List.all_eq_true.1 hsz n (DataW.weights_mem_each ht hd n hn)
theorem reach_listD {H : Type} {d : DataW H} {zs : List Int} (hw : ∀ n ∈ d.weights Tryz.prog 23, n ≤ reachBytes) (h : ListDat d zs) : zs.length ≤ 17592186043904 := by
  rcases h with ⟨_, rfl⟩ | ⟨elems, spare, rfl, he⟩
  · simp
  · have hs := hw ((elems.length + spare.length) * Tryz.prog.bytesOf 3) (by simp [DataW.weights, Tryz.underlying23])
    rw [show Tryz.prog.bytesOf 3 = 8 from by kernel_rfl] at hs
    simp [reachBytes] at hs
    omega
theorem reach_rowsD {H : Type} {d : DataW H} {rows : List (List Int)} (hw : ∀ n ∈ d.weights Tryz.prog 22, n ≤ reachBytes) (h : RowsDat d rows) : rows.length ≤ 5864062014634 ∧ ∀ k, k < rows.length → (rat rows k).length ≤ 17592186043904 := by
  rcases h with ⟨_, rfl⟩ | ⟨elems, spare, rfl, he, hk⟩
  · exact ⟨by simp, fun k hk => by simp at hk⟩
  · refine ⟨?_, fun k h2 => ?_⟩
    · have hs := hw ((elems.length + spare.length) * Tryz.prog.bytesOf 23) (by simp [DataW.weights, Tryz.underlying22])
      rw [show Tryz.prog.bytesOf 23 = 24 from by kernel_rfl] at hs
      simp [reachBytes] at hs
      omega
    · obtain ⟨dk, h3, h4⟩ := hk k h2
      refine reach_listD (d := dk) (fun n hn => hw n ?_) h4
      have := weightsAll_mem (P := Tryz.prog) (e := 23) h3 n hn
      simp [DataW.weights, Tryz.underlying22, this]

theorem addr_of_cell {W : World} {a : Addr} {v : Value} (h : W.cell? (a.add 0) = some v) : ∃ b o, a = ⟨b, o, none⟩ := by
  obtain ⟨b, off, spot⟩ := a
  have hspot : spot = none := by simpa [Addr.add] using World.cell?_spot h
  subst hspot
  exact ⟨b, off, rfl⟩
theorem blk_of_cell {W : World} {b o : Nat} {v : Value} (h : W.cell? ⟨b, o, none⟩ = some v) : b < W.heap.size := by
  rcases Nat.lt_or_ge b W.heap.size with g | g
  · exact g
  · simp [World.cell?, Array.getElem?_eq_none g] at h

theorem open_rows {H : Type} {enc : TypeId × Value → H} {W : World} {a : Option Addr} {len cap fuel : Nat} {d : DataW H} {pl : List MemPlace}
    (hf : DataW.trod enc Tryz.prog W 0 (fun _ => true) true fuel 22 (Value.slice a len cap).cells.toList = some (d, pl)) :
    ∃ rows : List (List Int), len = rows.length ∧ LstR W.heap.size W a cap rows ∧ (∀ k, k < rows.length → Fits (rat rows k)) ∧ RowsDat d rows := by
  rcases open_int_rows Tryz.underlying22 Tryz.underlying23 Tryz.underlying3 (by kernel_rfl) (by kernel_rfl) hf with ⟨hcs, hx⟩ | ⟨x, l, c, A, L, C, Z, hcs, _, hl, hm, hx, hr⟩
  · simp [Value.cells] at hcs
    obtain ⟨rfl, rfl, rfl⟩ := hcs
    simp only [Prod.mk.injEq] at hx
    exact ⟨[], rfl, ⟨fun k hk => by simp at hk, by simp, fun _ => rfl⟩, fun k hk => by simp at hk, Or.inl ⟨hx.1, rfl⟩⟩
  · simp [Value.cells] at hcs
    obtain ⟨rfl, rfl, rfl⟩ := hcs
    simp only [Prod.mk.injEq] at hx
    obtain ⟨rows, hrows⟩ : ∃ rows : List (List Int), rows = (List.range len).map fun r => (Z r).take (L r) := ⟨_, rfl⟩
    have hlen : rows.length = len := by rw [hrows]; simp
    have hrat : ∀ k, k < len → rat rows k = (Z k).take (L k) := fun k hk => by
      rw [hrows]
      unfold rat
      simp [hk]
    have hll : ∀ k, k < len → (rat rows k).length = L k := fun k hk => by
      obtain ⟨_, h2, _, h4, _⟩ := hr k (by omega)
      rw [hrat k hk, List.length_take]
      omega
    refine ⟨rows, hlen.symm, ⟨fun k hk => ?_, by omega, fun e => by cases e⟩, fun k hk j hj => ?_, Or.inr ⟨_, _, hx.1, by rw [hlen]; simp, fun k hk => ?_⟩⟩
    · rw [hlen] at hk
      obtain ⟨h1, h2, h3, h4, h5, h6, h7⟩ := hr k (by omega)
      obtain ⟨b, o, rfl⟩ := addr_of_cell (hr 0 (by omega)).1
      rw [add_plain] at h1
      refine ⟨b, o, A k, C k, rfl, blk_of_cell h1, by rw [hll k hk]; exact h1, ⟨fun j hj => ?_, by rw [hll k hk]; exact h2, h6⟩⟩
      rw [hll k hk] at hj
      cases hA : A k with
      | none =>
        have := h6 hA
        omega
      | some a' =>
        obtain ⟨_, g2⟩ := h7 a' hA
        obtain ⟨b', o', rfl⟩ := addr_of_cell (g2 0 (by omega))
        have g3 := g2 j (by omega)
        rw [add_plain] at g3
        refine ⟨b', o', rfl, blk_of_cell g3, ?_⟩
        rw [hrat k hk, g3]
        simp [zat, hj]
    · rw [hlen] at hk
      obtain ⟨_, h2, _, h4, h5, _⟩ := hr k (by omega)
      rw [hll k hk] at hj
      have hmem : zat (rat rows k) j ∈ Z k := by
        rw [hrat k hk]
        have : zat ((Z k).take (L k)) j = (Z k)[j]'(by omega) := by simp [zat, hj, show j < (Z k).length from by omega]
        rw [this]; exact List.getElem_mem _
      exact wf_bounds (h5 _ hmem)
    · rw [hlen] at hk
      obtain ⟨_, h2, _, h4, _, h6, _⟩ := hr k (by omega)
      refine ⟨_, by simp [hk]; rfl, ?_⟩
      unfold intRow
      cases hA : A k with
      | none =>
        left
        refine ⟨rfl, ?_⟩
        have := h6 hA
        apply List.length_eq_zero_iff.1
        rw [hll k hk]
        omega
      | some a' =>
        right
        exact ⟨_, _, rfl, by rw [hll k hk]; simp [lits]; omega⟩

/-- rows that fit, out of the reach -/
theorem fitsR_of {rows : List (List Int)} (h1 : ∀ k, k < rows.length → Fits (rat rows k)) (h2 : ∀ k, k < rows.length → (rat rows k).length ≤ 17592186043904) : FitsR rows := fun k hk => ⟨h1 k hk, by have := h2 k hk; omega⟩

end Go.Proofs.YtpgnabmkfkcogaaGreatDoor
