/- What the second form's bound gives: the length of bytes. An argument of type []byte, opened. -/
import Derived.Test.YtcajofdmadpmoaaRows
import Derived.Test.YtcajofdmadpmoaaWgAE
import Derived.SizedLaws
import Derived.ChangeOld
import Derived.ChangeSlices
import Derived.OpenShut
namespace Go.Proofs.Ytcajofdmadpmoaa

/-- the bound gives the length -/
theorem small_one {H : Type} {d : DataW H} {bs : List Nat} (hk : Rows.uptoSmall H [d] = true) (hd : (d = .nil ∧ bs = []) ∨ ∃ elems spare, d = .slice elems spare ∧ elems.length = bs.length) : bs.length ≤ 1048576 := by
  have h : Rows.uptoBulkAll [d] ≤ 1048576 := of_decide_eq_true hk
  simp only [Rows.uptoBulkAll] at h
  have one : ∀ d : DataW H, 1 ≤ Rows.uptoBulk d := fun d => by
    cases d with
    | lit l => cases l <;> simp [Rows.uptoBulk]
    | nil => simp [Rows.uptoBulk]
    | ptr d => simp [Rows.uptoBulk]
    | slice elems spare => simp [Rows.uptoBulk]
    | agg parts => simp [Rows.uptoBulk]
    | iface t d => simp [Rows.uptoBulk]
    | map entries => simp [Rows.uptoBulk]
    | held h => simp [Rows.uptoBulk]
  have len : ∀ l : List (DataW H), l.length ≤ Rows.uptoBulkAll l := fun l => by
    induction l with
    | nil => simp [Rows.uptoBulkAll]
    | cons x r ih => have := one x; simp only [Rows.uptoBulkAll, List.length_cons]; omega
  rcases hd with ⟨_, rfl⟩ | ⟨elems, spare, rfl, he⟩
  · simp
  · have := len elems
    simp only [Rows.uptoBulk] at h
    omega

end Go.Proofs.Ytcajofdmadpmoaa

namespace Go.Proofs.Ytcajofdmadpmoaa
open Go.ChangeShapes Go.WideShapes Go.RowKit

theorem open_bytes {H : Type} {enc : TypeId × Value → H} {W : World} {a : Option Addr} {len cap fuel : Nat} {d : DataW H} {pl : List MemPlace}
    (hf : DataW.trod enc Try.prog W 0 (fun _ => true) true fuel 22 (Value.slice a len cap).cells.toList = some (d, pl)) :
    ∃ bs : List Nat, len = bs.length ∧ ByR W.heap.size W a cap bs ∧ (∀ b, b ∈ bs → b < 256) ∧ ((d = .nil ∧ bs = []) ∨ ∃ elems spare, d = .slice elems spare ∧ elems.length = bs.length) := by
  rcases open_ints Try.underlying22 Try.underlying5 (by kernel_rfl) hf with ⟨hcs, hx⟩ | ⟨x, l, c, zs, hcs, _, hl, hm, hz, hx, hcell, hwz⟩
  · simp [Value.cells] at hcs
    obtain ⟨rfl, rfl, rfl⟩ := hcs
    simp only [Prod.mk.injEq] at hx
    exact ⟨[], rfl, ⟨fun k hk => absurd hk (Nat.not_lt_zero _), Nat.le_refl _, fun _ => rfl⟩, fun b hb => by simp at hb, Or.inl ⟨hx.1, rfl⟩⟩
  · simp [Value.cells] at hcs
    obtain ⟨rfl, rfl, rfl⟩ := hcs
    have hzc : zs.length = cap := by simpa using hz
    have htk : ((zs.take len).map Int.toNat).length = len := by simp; omega
    have hb8 : ∀ z, z ∈ zs → 0 ≤ z ∧ z < 256 := fun z hz => by
      have := hwz z hz
      have := bounds_u8 this
      omega
    simp only [Prod.mk.injEq] at hx
    refine ⟨(zs.take len).map Int.toNat, htk.symm, ⟨?_, by omega, fun e => by cases e⟩, ?_, Or.inr ⟨_, _, hx.1, by simp [lits]⟩⟩
    · intro k hk
      rw [htk] at hk
      obtain ⟨b, off, rfl, hc⟩ := ints_at hcell (by omega)
      refine ⟨b, off, rfl, ?_, ?_⟩
      · have := hc k (by omega)
        rcases Nat.lt_or_ge b W.heap.size with g | g
        · exact g
        · simp [World.cell?, Array.getElem?_eq_none g] at this
      · have hk2 : k < zs.length := by omega
        have h0 := hb8 zs[k] (List.getElem_mem _)
        rw [hc k hk2]
        simp [bat, hk, hk2]
        omega
    · intro b hb
      obtain ⟨z, hz, rfl⟩ := List.mem_map.1 hb
      have := hb8 z (List.mem_of_mem_take hz)
      omega

end Go.Proofs.Ytcajofdmadpmoaa
