/- attestsame.Foldeds: a Folded that is the call's own. -/
import Derived.Test.YtcajofdmadpmoaaDoorWbAF
namespace Go.Proofs.YtcajofdmadpmoaaDoor
open Go.RowKit

theorem Tryd.infoOn : (Tryd.prog.info? 28).map (fun i => (i.zero, i.size, i.bytes)) = some (some (.agg #[.slice none 0 0, .slice none 0 0, .slice none 0 0]), 3, 72) := by kernel_rfl

/-- what is no Opening stays -/
theorem SlR.notO {w w' : World} {r : List Int} {v : Value} (h : SlR w r v) (hs : w.heap.size ≤ w'.heap.size) (e : ∀ (b : Nat) (c : Array Value) (t : TypeId) (f : Nat × Nat), w.heap[b]? = some (.cells c t f) → t ≠ 28 → w'.heap[b]? = w.heap[b]?) : SlR w' r v :=
  h.blocks hs (fun b _ hn => by
    obtain ⟨c, t, f, h1, _, h3, _⟩ := hn
    exact e b c t f h1 h3)
theorem OwnR.notO {base : Nat} {w w' : World} {v : Value} {rs : List (List Int)} (h : OwnR base w v rs) (hs : w.heap.size ≤ w'.heap.size) (e : ∀ (b : Nat) (c : Array Value) (t : TypeId) (f : Nat × Nat), w.heap[b]? = some (.cells c t f) → t ≠ 28 → w'.heap[b]? = w.heap[b]?) : OwnR base w' v rs := by
  obtain ⟨vals, h1, h2⟩ := h
  refine ⟨vals, ?_, fun j hj => ?_⟩
  · refine ⟨h1.1, ?_⟩
    rcases h1.2 with hn | ⟨g, cap, cur, rfl, hb, hg, rest⟩
    · exact .inl hn
    · exact .inr ⟨g, cap, cur, rfl, hb, (e g _ _ _ hg (by decide)).trans hg, rest⟩
  · obtain ⟨u, h3, h4⟩ := h2 j hj
    exact ⟨u, h3, h4.notO hs e⟩

/-- Openings of the call's own -/
def OwnF (base : Nat) (w : World) (v : Value) (os : List OnZ) : Prop := ∃ vals : List Value, w.ownsRow base 28 3 v os.length vals ∧ ∀ j, j < os.length → ∃ vp vr vn, vals[j * 3]? = some vp ∧ vals[j * 3 + 1]? = some vr ∧ vals[j * 3 + 2]? = some vn ∧ SlR w (onat os j).ps vp ∧ OwnR 0 w vr (onat os j).rows ∧ OwnR 0 w vn (onat os j).nodes
theorem OwnF.nil (base : Nat) (w : World) : OwnF base w (.slice none 0 0) [] := ⟨[], World.ownsRow_nil _ _ _ _, fun j hj => by simp at hj⟩
theorem OwnF.keep {base : Nat} {w w' : World} {v : Value} {os : List OnZ} (h : OwnF base w v os) (e : Below w.heap.size w w') : OwnF base w' v os := by
  obtain ⟨vals, h1, h2⟩ := h
  refine ⟨vals, h1.kept (gb_of_below e) (by cases v.ownBlock with
    | none => exact .inl rfl
    | some k => exact .inr (by simp)), fun j hj => ?_⟩
  obtain ⟨vp, vr, vn, e1, e2, e3, e4, e5, e6⟩ := h2 j hj
  exact ⟨vp, vr, vn, e1, e2, e3, e4.keep e, e5.keep e, e6.keep e⟩
theorem OwnF.lst {base : Nat} {w : World} {v : Value} {os : List OnZ} (h : OwnF base w v os) : ∃ a c, v = .slice a os.length c ∧ LstF w.heap.size w a c os := by
  obtain ⟨vals, h1, h2⟩ := h
  rcases h1.2 with ⟨rfl, h0⟩ | ⟨g, cap, cur, rfl, hb, hg, hn, hm, hs, ht⟩
  · exact ⟨none, 0, by rw [h0], fun k hk => by omega, by omega, fun _ => rfl⟩
  · refine ⟨some ⟨g, 0, none⟩, cap, rfl, fun k hk => ?_, hn, fun e => by cases e⟩
    obtain ⟨vp, vr, vn, e1, e2, e3, e4, e5, e6⟩ := h2 k hk
    obtain ⟨ap, cp, rfl, l1⟩ := e4.lst
    obtain ⟨ar, cr, rfl, l2⟩ := e5.lst
    obtain ⟨an', cn, rfl, l3⟩ := e6.lst
    have hc : ∀ j u, vals[j]? = some u → w.cell? ⟨g, 0 + j, none⟩ = some u := fun j u hu => by
      have := h1.cells (g := g) rfl j u hu
      have hadd : (⟨g, 0, none⟩ : Addr).add j = ⟨g, 0 + j, none⟩ := by unfold Addr.add; split <;> simp_all
      rw [hadd] at this
      exact this
    exact ⟨g, 0, ap, cp, ar, cr, an', cn, rfl, (Array.getElem?_eq_some_iff.1 hg).1, hc _ _ e1, by rw [Nat.add_assoc]; exact hc _ _ e2, by rw [Nat.add_assoc]; exact hc _ _ e3, l1, l2, l3⟩

end Go.Proofs.YtcajofdmadpmoaaDoor
