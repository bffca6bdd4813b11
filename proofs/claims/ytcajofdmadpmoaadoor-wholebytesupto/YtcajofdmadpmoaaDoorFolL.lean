/- attestsame.Opened and Foldeds: what a chain's turn leaves. -/
import Derived.Test.YtcajofdmadpmoaaDoorFolK
import Derived.StillTailTactics
namespace Go.Proofs.YtcajofdmadpmoaaDoor
open Go.RowKit

/-- Openings of the call's own -/
def OwnK (base : Nat) (w : World) (v : Value) (os : List OnZ) : Prop := ∃ vals : List Value, w.ownsRow base 28 3 v os.length vals ∧ ∀ j, j < os.length → ∃ vp vr vn, vals[j * 3]? = some vp ∧ vals[j * 3 + 1]? = some vr ∧ vals[j * 3 + 2]? = some vn ∧ SlI w (onat os j).ps vp ∧ OwnI 0 w vr (onat os j).rows ∧ OwnI 0 w vn (onat os j).nodes
theorem OwnK.nil (base : Nat) (w : World) : OwnK base w (.slice none 0 0) [] := ⟨[], World.ownsRow_nil _ _ _ _, fun j hj => by simp at hj⟩
theorem OwnK.ko {base : Nat} {w w' : World} {v : Value} {os : List OnZ} (h : OwnK base w v os) (k : KO w w') : OwnK base w' v os := by
  obtain ⟨vals, h1, h2⟩ := h
  refine ⟨vals, ⟨h1.1, ?_⟩, fun j hj => ?_⟩
  · rcases h1.2 with hn | ⟨g, cap, cur, rfl, hb, hg, rest⟩
    · exact .inl hn
    · exact .inr ⟨g, cap, cur, rfl, hb, (k.2 g _ _ hg).trans hg, rest⟩
  · obtain ⟨vp, vr, vn, e1, e2, e3, e4, e5, e6⟩ := h2 j hj
    exact ⟨vp, vr, vn, e1, e2, e3, e4.ki k.1, e5.ki k.1, e6.ki k.1⟩
theorem OwnK.lst {base : Nat} {w : World} {v : Value} {os : List OnZ} (h : OwnK base w v os) : ∃ a c, v = .slice a os.length c ∧ LstF w.heap.size w a c os := by
  obtain ⟨vals, h1, h2⟩ := h
  rcases h1.2 with ⟨rfl, h0⟩ | ⟨g, cap, cur, rfl, hb, hg, hn, hm, hs, ht⟩
  · exact ⟨none, 0, by rw [h0], fun k hk => by omega, by omega, fun _ => rfl⟩
  · refine ⟨some ⟨g, 0, none⟩, cap, rfl, fun k hk => ?_, hn, fun e => by cases e⟩
    obtain ⟨vp, vr, vn, e1, e2, e3, e4, e5, e6⟩ := h2 k hk
    obtain ⟨ap, cp, rfl, l1⟩ := e4.lst
    obtain ⟨ar, cr, rfl, l2⟩ := e5.lst
    obtain ⟨an', cn, rfl, l3⟩ := e6.lst
    have hc : ∀ j u, vals[j]? = some u → w.cell? ⟨g, 0 + j, none⟩ = some u := fun j u hu => by
      have := h1.cells (g := g) rfl j u hu
      have hadd : (⟨g, 0, none⟩ : Addr).add j = ⟨g, 0 + j, none⟩ := by unfold Addr.add; split <;> simp_all
      rw [hadd] at this
      exact this
    exact ⟨g, 0, ap, cp, ar, cr, an', cn, rfl, (Array.getElem?_eq_some_iff.1 hg).1, hc _ _ e1, by rw [Nat.add_assoc]; exact hc _ _ e2, by rw [Nat.add_assoc]; exact hc _ _ e3, l1, l2, l3⟩

theorem OwnK.mono {base base' : Nat} {w : World} {v : Value} {os : List OnZ} (h : OwnK base w v os) (e : base' ≤ base) : OwnK base' w v os := by
  obtain ⟨vals, h1, h2⟩ := h
  exact ⟨vals, World.ownsRow.mono h1 e, h2⟩

/-- append(out.Opens, x) -/
theorem wpList_onI {ops : Array Oper} {rest : List Oper} {o : Oper} {act : Act} {Q : Exit → Act → World → Prop} (W : World) (base : Nat) (hgd : o.guard = none) (s x : Operand)
    (ho : o.op = .call { callee := .builtin .append, args := #[s, x], argTypes := #[24, 24] }) (v vp vr vn : Value) (os : List OnZ) (z : OnZ)
    (hown : OwnK base W v os) (h1 : SlI W z.ps vp) (h2 : OwnI 0 W vr z.rows) (h3 : OwnI 0 W vn z.nodes) (hs : act.eval s = v) (hx : act.eval x = .slice (some ⟨W.heap.size, 0, none⟩) 1 1) (hlen : (os.length + 1) * 72 ≤ 140737488355328) (hbase : base ≤ W.heap.size)
    (h : ∀ v' w2, OwnK base w2 v' (os ++ [z]) → Below base W w2 → W.heap.size ≤ w2.heap.size → (∀ (b : Nat) (c : Array Value) (t : TypeId) (f : Nat × Nat), W.heap[b]? = some (.cells c t f) → t ≠ 28 → w2.heap[b]? = W.heap[b]?) → wpList Tryd.prog ops Q rest (act.put o.dst v') w2) :
    wpList Tryd.prog ops Q (o :: rest) act (W.alloc (.cells #[vp, vr, vn] 28)) := by
  obtain ⟨i0, hi, hz0, hz1, hz2⟩ := info_parts Tryd.infoOn
  have hbw : Below W.heap.size W (W.alloc (.cells #[vp, vr, vn] 28)) := (Below.refl _ _).alloc (Nat.le_refl _) _
  obtain ⟨vals, g1, g2⟩ := hown.ko (KO.below hbw)
  have hvl := g1.1
  refine wpList_append_own _ hgd s x 24 ho base 28 i0 _ 3 72 Tryd.underlying24 hi hz0 hz1 hz2 rfl (by decide) v _ _ hs g1 ⟨W.heap.size, 0, none⟩ 1 1 [vp, vr, vn] hx rfl ?_ ?_ (by unfold maxLen; omega) hlen (by simp; omega) ?_
  · intro j u hj
    match j, hj with
    | 0, hj => simp at hj; subst hj; simp [Addr.add]
    | 1, hj => simp at hj; subst hj; simp [Addr.add]
    | 2, hj => simp at hj; subst hj; simp [Addr.add]
  · intro u hu
    simp at hu
    rcases hu with rfl | rfl | rfl
    · exact h1.one
    · obtain ⟨a, c, rfl, _⟩ := h2.lst; rfl
    · obtain ⟨a, c, rfl, _⟩ := h3.lst; rfl
  · intro v' w2 hown2 hgrow _
    have hsz : W.heap.size ≤ w2.heap.size := by have := hgrow.size; simp at this; omega
    have hns : ∀ (b : Nat) (c : Array Value) (t : TypeId) (f : Nat × Nat), (W.alloc (.cells #[vp, vr, vn] 28)).heap[b]? = some (.cells c t f) → t ≠ 28 → w2.heap[b]? = (W.alloc (.cells #[vp, vr, vn] 28)).heap[b]? := fun b c t f hb ht => by
      refine hgrow.block b (Array.getElem?_eq_some_iff.1 hb).1 (fun e => ?_)
      rcases g1.2 with ⟨rfl, _⟩ | ⟨g, cap, cur, rfl, _, hg, _⟩
      · cases e
      · simp [Value.ownBlock] at e
        subst e
        rw [hb] at hg
        injection hg with hg
        injection hg with _ h5 _
        exact ht h5
    have hszw : (W.alloc (.cells #[vp, vr, vn] 28)).heap.size ≤ w2.heap.size := hgrow.size
    have hKI := KI.notO hszw hns
    refine h v' w2 ⟨vals ++ [vp, vr, vn], by rw [List.length_append]; exact hown2, fun j hj => ?_⟩ ((hbw.mono hbase).trans ((Below.refl base _).grown hgrow (by simp; omega) (fun k hk => (g1.lt k hk).1))) hsz (fun b c t f hb ht => ?_)
    · rw [List.length_append] at hj
      by_cases hjr : j < os.length
      · obtain ⟨up, ur, un, e1, e2, e3, e4, e5, e6⟩ := g2 j hjr
        have hon : onat (os ++ [z]) j = onat os j := by simp [onat, List.getElem?_append_left hjr]
        rw [hon]
        exact ⟨up, ur, un, by rw [List.getElem?_append_left (by omega)]; exact e1, by rw [List.getElem?_append_left (by omega)]; exact e2, by rw [List.getElem?_append_left (by omega)]; exact e3, e4.ki hKI, e5.ki hKI, e6.ki hKI⟩
      · obtain rfl : j = os.length := by simp at hj; omega
        have hon : onat (os ++ [z]) os.length = z := by simp [onat]
        rw [hon]
        refine ⟨vp, vr, vn, ?_, ?_, ?_, (h1.ki (KI.below hbw)).ki hKI, (h2.ki (KI.below hbw)).ki hKI, (h3.ki (KI.below hbw)).ki hKI⟩
        · rw [List.getElem?_append_right (by omega), hvl, Nat.sub_self]; rfl
        · rw [List.getElem?_append_right (by omega), hvl, show os.length * 3 + 1 - os.length * 3 = 1 from by omega]; rfl
        · rw [List.getElem?_append_right (by omega), hvl, show os.length * 3 + 2 - os.length * 3 = 2 from by omega]; rfl
    · have e := hbw.block b (Array.getElem?_eq_some_iff.1 hb).1
      exact (hns b c t f (e.trans hb) ht).trans e


end Go.Proofs.YtcajofdmadpmoaaDoor
