/- attestref5.pairs, in blocks of their own kinds; trees; what attestref5.Make makes, plain. -/
import Derived.Test.YtgcjpddpolaofahGreatFolG
namespace Go.Proofs.YtgcjpddpolaofahGreat
open Go.RowKit

theorem sli_two (w : World) (x y : Int) : SlI (w.alloc (.cells #[.int .i64 x, .int .i64 y] 3)) [x, y] (.slice (some ⟨w.heap.size, 0, none⟩) 2 2) := by
  obtain ⟨a, c, h1, h2, _⟩ := slr_two w x y
  injection h1 with e1 _ e3
  subst e1 e3
  exact ⟨_, _, rfl, h2, fun _ => ⟨w.heap.size, 0, _, _, rfl, heap_alloc_new w _⟩⟩

/-! ## trees -/
theorem Tryz.infoRs : (Tryz.prog.info? 37).map (fun i => (i.zero, i.size, i.bytes)) = some (some (.slice none 0 0), 1, 24) := by kernel_rfl
/-- blocks of numbers, lists, Openings and rows stay -/
def KT (w w' : World) : Prop := KO w w' ∧ ∀ (b : Nat) (cs : Array Value) (f : Nat × Nat), w.heap[b]? = some (.cells cs 37 f) → w'.heap[b]? = w.heap[b]?
theorem KT.below {w w' : World} (e : Below w.heap.size w w') : KT w w' := ⟨KO.below e, fun b _ _ h => e.block b (Array.getElem?_eq_some_iff.1 h).1⟩
theorem KT.oth {w w' : World} {O : Nat} {c : Array Value} {t : TypeId} {f : Nat × Nat} (hO : w.heap[O]? = some (.cells c t f)) (h1 : t ≠ 3) (h2 : t ≠ 22) (h3 : t ≠ 102) (h4 : t ≠ 37) (hs : w.heap.size ≤ w'.heap.size) (e : ∀ b, b < w.heap.size → b ≠ O → w'.heap[b]? = w.heap[b]?) : KT w w' :=
  ⟨KO.oth hO h1 h2 h3 hs e, fun b cs f' h => e b (Array.getElem?_eq_some_iff.1 h).1 (by
    rintro rfl
    rw [hO] at h
    injection h with h
    injection h with _ h5 _
    exact h4 h5)⟩
def tat (ts : List (List (List Int))) (j : Nat) : List (List Int) := ts.getD j []
def OwnT (base : Nat) (w : World) (v : Value) (ts : List (List (List Int))) : Prop := ∃ vals : List Value, w.ownsRow base 37 1 v ts.length vals ∧ ∀ j, j < ts.length → ∃ u, vals[j]? = some u ∧ OwnI 0 w u (tat ts j)
theorem OwnT.nil (base : Nat) (w : World) : OwnT base w (.slice none 0 0) [] := ⟨[], World.ownsRow_nil _ _ _ _, fun j hj => by simp at hj⟩
theorem OwnT.kt {base : Nat} {w w' : World} {v : Value} {ts : List (List (List Int))} (h : OwnT base w v ts) (k : KT w w') : OwnT base w' v ts := by
  obtain ⟨vals, h1, h2⟩ := h
  refine ⟨vals, ⟨h1.1, ?_⟩, fun j hj => ?_⟩
  · rcases h1.2 with hn | ⟨g, cap, cur, rfl, hb, hg, rest⟩
    · exact .inl hn
    · exact .inr ⟨g, cap, cur, rfl, hb, (k.2 g _ _ hg).trans hg, rest⟩
  · obtain ⟨u, h3, h4⟩ := h2 j hj
    exact ⟨u, h3, h4.ki k.1.1⟩
theorem OwnT.at {base : Nat} {w : World} {v : Value} {ts : List (List (List Int))} (h : OwnT base w v ts) {j : Nat} (hj : j < ts.length) : ∃ g cap a c, v = .slice (some ⟨g, 0, none⟩) ts.length cap ∧ w.cell? ⟨g, j, none⟩ = some (.slice a (tat ts j).length c) ∧ LRT w a c (tat ts j) := by
  obtain ⟨vals, h1, h2⟩ := h
  rcases h1.2 with ⟨rfl, h0⟩ | ⟨g, cap, cur, rfl, hb, hg, hn, hm, hs, ht⟩
  · omega
  · obtain ⟨u, h3, h4⟩ := h2 j hj
    obtain ⟨a, c, rfl, hl⟩ := h4.lrt
    exact ⟨g, cap, a, c, rfl, by rw [h1.cellAt j (by omega), h3], hl⟩
theorem OwnT.form {base : Nat} {w : World} {v : Value} {ts : List (List (List Int))} (h : OwnT base w v ts) : ∃ a c, v = .slice a ts.length c := by
  obtain ⟨vals, h1, h2⟩ := h
  rcases h1.2 with ⟨rfl, h0⟩ | ⟨g, cap, cur, rfl, _⟩
  · exact ⟨none, 0, by rw [h0]⟩
  · exact ⟨_, _, rfl⟩
/-- append(trees, rows) -/
theorem wpList_tree1 {ops : Array Oper} {rest : List Oper} {o : Oper} {act : Act} {Q : Exit → Act → World → Prop} (W : World) (base : Nat) (hgd : o.guard = none) (s x : Operand)
    (ho : o.op = .call { callee := .builtin .append, args := #[s, x], argTypes := #[98, 98] }) (v u : Value) (ts : List (List (List Int))) (t : List (List Int))
    (hown : OwnT base W v ts) (hu : OwnI 0 W u t) (hs : act.eval s = v) (hx : act.eval x = .slice (some ⟨W.heap.size, 0, none⟩) 1 1) (hlen : ts.length + 1 ≤ 5864062014805) (hbase : base ≤ W.heap.size)
    (h : ∀ v' w2, OwnT base w2 v' (ts ++ [t]) → Below base W w2 → W.heap.size ≤ w2.heap.size → (∀ (b : Nat) (c : Array Value) (t : TypeId) (f : Nat × Nat), W.heap[b]? = some (.cells c t f) → t ≠ 37 → w2.heap[b]? = W.heap[b]?) → wpList Tryz.prog ops Q rest (act.put o.dst v') w2) :
    wpList Tryz.prog ops Q (o :: rest) act (W.alloc (.cells #[u] 37)) := by
  have hbw : Below W.heap.size W (W.alloc (.cells #[u] 37)) := (Below.refl _ _).alloc (Nat.le_refl _) _
  obtain ⟨i0, hi, hz0, hz1, hz2⟩ := info_parts Tryz.infoRs
  have hu1 := hu.ki (KI.below hbw)
  obtain ⟨vals, h1, h2⟩ := hown.kt (KT.below hbw)
  have hvl : vals.length = ts.length := by have := h1.1; omega
  refine wpList_append_own _ hgd s x 98 ho base 37 i0 (.slice none 0 0) 1 24 Tryz.underlying98 hi hz0 hz1 hz2 rfl (by decide) _ _ _ hs h1 ⟨W.heap.size, 0, none⟩ 1 1 [u] hx rfl ?_ ?_ (by unfold maxLen; omega) (by omega) (by simp; omega) ?_
  · intro j t hj
    match j, hj with
    | 0, hj => simp at hj; subst hj; simp [Addr.add]
  · intro t' ht
    obtain rfl : t' = u := by simpa using ht
    obtain ⟨a, c, rfl, _⟩ := hu.lst
    rfl
  · intro v' w2 hown2 hgrow _
    have hns : ∀ (b : Nat) (c : Array Value) (t : TypeId) (f : Nat × Nat), (W.alloc (.cells #[u] 37)).heap[b]? = some (.cells c t f) → t ≠ 37 → w2.heap[b]? = (W.alloc (.cells #[u] 37)).heap[b]? := fun b c t f hb ht => by
      refine hgrow.block b (Array.getElem?_eq_some_iff.1 hb).1 (fun e => ?_)
      rcases h1.2 with ⟨rfl, _⟩ | ⟨g, cap, cur, rfl, _, hg, _⟩
      · cases e
      · simp [Value.ownBlock] at e
        subst e
        rw [hb] at hg
        injection hg with hg
        injection hg with _ h5 _
        exact ht h5
    have hKI : KI (W.alloc (.cells #[u] 37)) w2 := ⟨hgrow.size, fun b cs t f hb ht => hns b cs t f hb (by rcases ht with rfl | rfl <;> decide)⟩
    have hsz : W.heap.size ≤ w2.heap.size := by have := hgrow.size; simp at this; omega
    refine h v' w2 ⟨vals ++ [u], by rw [List.length_append]; exact hown2, fun j hj => ?_⟩ ((hbw.mono hbase).trans ((Below.refl base _).grown hgrow (by simp; omega) (fun k hk => (h1.lt k hk).1))) hsz (fun b c t f hb ht => ?_)
    · rw [List.length_append] at hj
      by_cases hjr : j < ts.length
      · have e0 : tat (ts ++ [t]) j = tat ts j := by simp [tat, List.getElem?_append_left hjr]
        rw [e0, List.getElem?_append_left (by omega)]
        obtain ⟨u', e1, e2⟩ := h2 j hjr
        exact ⟨u', e1, e2.ki hKI⟩
      · obtain rfl : j = ts.length := by simp at hj; omega
        have e0 : tat (ts ++ [t]) ts.length = t := by simp [tat]
        rw [e0, List.getElem?_append_right (by omega), hvl, Nat.sub_self]
        exact ⟨u, rfl, hu1.ki hKI⟩
    · have e := hbw.block b (Array.getElem?_eq_some_iff.1 hb).1
      exact (hns b c t f (e.trans hb) ht).trans e

end Go.Proofs.YtgcjpddpolaofahGreat
