/- Rows of pointers that the call owns. -/
import Derived.Test.YtgjkakfkefpgbafDoorChnA
namespace Go.Proofs.YtgjkakfkefpgbafDoor
open Go.RowKit

def ptrs (cs : List Nat) : List Value := cs.map fun c => .pointer (some ⟨c, 0, none⟩)
def OwnP (base : Nat) (w : World) (t : TypeId) (v : Value) (cs : List Nat) : Prop := w.ownsRow base t 1 v cs.length (ptrs cs)
theorem ptrs_at {cs : List Nat} {k : Nat} (h : k < cs.length) : (ptrs cs)[k]? = some (.pointer (some ⟨cs.getD k 0, 0, none⟩)) := by
  unfold ptrs
  simp [h]
theorem OwnP.one (w : World) (t : TypeId) (c : Nat) : OwnP w.heap.size (w.alloc (.cells #[.pointer (some ⟨c, 0, none⟩)] t)) t (.slice (some ⟨w.heap.size, 0, none⟩) 1 1) [c] :=
  ⟨by simp [ptrs], .inr ⟨w.heap.size, 1, #[.pointer (some ⟨c, 0, none⟩)], rfl, Nat.le_refl _, heap_alloc_new w _, Nat.le_refl _, by unfold maxLen; omega, rfl, by simp [ptrs]⟩⟩
theorem OwnP.mono {base base' : Nat} {w : World} {t : TypeId} {v : Value} {cs : List Nat} (h : OwnP base w t v cs) (hb : base' ≤ base) : OwnP base' w t v cs := by
  obtain ⟨h1, h2⟩ := h
  refine ⟨h1, h2.imp id ?_⟩
  rintro ⟨g, cap, cur, e, hg, r⟩
  exact ⟨g, cap, cur, e, by omega, r⟩
/-- its form, where it holds something -/
theorem OwnP.form {base : Nat} {w : World} {t : TypeId} {v : Value} {cs : List Nat} (h : OwnP base w t v cs) (h0 : 0 < cs.length) : ∃ g cap, v = .slice (some ⟨g, 0, none⟩) cs.length cap ∧ base ≤ g ∧ g < w.heap.size ∧ v.ownBlock = some g ∧ (∃ cur f, w.heap[g]? = some (.cells cur t f)) ∧ cs.length ≤ cap ∧ ∀ k, k < cs.length → w.cell? ⟨g, k, none⟩ = some (.pointer (some ⟨cs.getD k 0, 0, none⟩)) := by
  have h' := h
  obtain ⟨h1, h2⟩ := h
  rcases h2 with ⟨_, h3⟩ | ⟨g, cap, cur, rfl, hg, hb, hn, hm, hs, ht⟩
  · omega
  · refine ⟨g, cap, rfl, hg, (Array.getElem?_eq_some_iff.1 hb).1, rfl, ⟨cur, _, hb⟩, hn, fun k hk => ?_⟩
    rw [← ptrs_at hk]
    exact World.ownsRow.cellAt h' k (by omega)
/-- another block's turn leaves it -/
theorem OwnP.kept {base : Nat} {w w' : World} {t : TypeId} {v : Value} {cs : List Nat} {own : Option Nat} (h : OwnP base w t v cs) (e : w.grownBy w' own) (hne : v.ownBlock = none ∨ v.ownBlock ≠ own) : OwnP base w' t v cs := World.ownsRow.kept h e hne
theorem OwnP.below {base : Nat} {w w' : World} {t : TypeId} {v : Value} {cs : List Nat} (h : OwnP base w t v cs) (e : Below w.heap.size w w') : OwnP base w' t v cs := by
  refine h.kept (own := none) ⟨e.os, e.tape, e.output, e.size, fun k hk _ => e.block k hk⟩ ?_
  cases v.ownBlock with
  | none => exact .inl rfl
  | some k => exact .inr (by simp)
/-- l[:k] -/
theorem OwnP.take {base : Nat} {w : World} {t : TypeId} {g cap k : Nat} {cs : List Nat} (h : OwnP base w t (.slice (some ⟨g, 0, none⟩) cs.length cap) cs) (hk : k ≤ cs.length) : OwnP base w t (.slice (some ⟨g, 0, none⟩) k cap) (cs.take k) := by
  obtain ⟨h1, h2⟩ := h
  rcases h2 with ⟨e1, _⟩ | ⟨g', cap', cur, e1, r1, r2, r3, r4, r5, r6⟩
  · cases e1
  · cases e1
    refine ⟨by simp [ptrs], .inr ⟨g, cap, cur, by rw [List.length_take, Nat.min_eq_left hk], r1, r2, by rw [List.length_take]; omega, r4, r5, ?_⟩⟩
    have e2 : ptrs (cs.take k) = (ptrs cs).take k := by unfold ptrs; rw [List.map_take]
    rw [e2, ← r6, List.take_take, List.length_take]
    congr 1
    omega

/-- append(l, c) -/
theorem wpList_ptr1 {ops : Array Oper} {rest : List Oper} {o : Oper} {act : Act} {Q : Exit → Act → World → Prop} (W : World) (base : Nat) (tS t : TypeId) (hu : Tryd.prog.underlying tS = some (.slice t)) (hinfo : (Tryd.prog.info? t).map (fun i => (i.zero, i.size, i.bytes)) = some (some (.pointer none), 1, 8)) (hgd : o.guard = none) (s x : Operand)
    (ho : o.op = .call { callee := .builtin .append, args := #[s, x], argTypes := #[tS, tS] }) (v : Value) (cs : List Nat) (c : Nat)
    (hown : OwnP base W t v cs) (hs : act.eval s = v) (hx : act.eval x = .slice (some ⟨W.heap.size, 0, none⟩) 1 1) (hlen : cs.length + 1 ≤ 4000000000000) (hbase : base ≤ W.heap.size)
    (h : ∀ v' w2, OwnP base w2 t v' (cs ++ [c]) → Below base W w2 → W.grownBy w2 v.ownBlock → wpList Tryd.prog ops Q rest (act.put o.dst v') w2) :
    wpList Tryd.prog ops Q (o :: rest) act (W.alloc (.cells #[.pointer (some ⟨c, 0, none⟩)] t)) := by
  have hbw : Below W.heap.size W (W.alloc (.cells #[.pointer (some ⟨c, 0, none⟩)] t)) := (Below.refl _ _).alloc (Nat.le_refl _) _
  obtain ⟨i0, hi, hz0, hz1, hz2⟩ := info_parts hinfo
  have h1 := hown.below hbw
  refine wpList_append_own _ hgd s x tS ho base t i0 (.pointer none) 1 8 hu hi hz0 hz1 hz2 rfl (by decide) _ _ _ hs h1 ⟨W.heap.size, 0, none⟩ 1 1 [.pointer (some ⟨c, 0, none⟩)] hx (by simp) ?_ ?_ (by unfold maxLen; omega) (by omega) (by simp; omega) ?_
  · intro j u hj
    cases j with
    | zero =>
      simp at hj
      subst hj
      simp [Addr.add]
    | succ j => simp at hj
  · intro u hu'
    simp at hu'
    subst hu'
    rfl
  · intro v' w2 hown2 hgrow _
    have hB0 : Below base (W.alloc (.cells #[.pointer (some ⟨c, 0, none⟩)] t)) w2 := (Below.refl base _).grown hgrow (by simp; omega) (fun k hk => (h1.lt k hk).1)
    refine h v' w2 ?_ ((hbw.mono hbase).trans hB0) ⟨hgrow.os, hgrow.tape, hgrow.output, by have := hgrow.size; simp at this; omega, fun k hk hne => (hgrow.block k (by simp; omega) hne).trans (hbw.block k hk)⟩
    unfold OwnP
    rw [List.length_append, show ptrs (cs ++ [c]) = ptrs cs ++ [.pointer (some ⟨c, 0, none⟩)] from by simp [ptrs]]
    exact hown2

end Go.Proofs.YtgjkakfkefpgbafDoor
