/- Lists, rows and Openings in blocks of their own kinds: a chain's turn leaves them. attestsame.Copied, Opened, Foldeds of that kind. -/
import Derived.Test.YtcajofdmadpmoaaDoorWbAG
import Derived.Test.YtcajofdmadpmoaaDoorChnC
namespace Go.Proofs.YtcajofdmadpmoaaDoor
open Go.RowKit

/-- blocks of numbers and of lists stay -/
def KI (w w' : World) : Prop := w.heap.size ≤ w'.heap.size ∧ ∀ (b : Nat) (cs : Array Value) (t : TypeId) (f : Nat × Nat), w.heap[b]? = some (.cells cs t f) → (t = 3 ∨ t = 22) → w'.heap[b]? = w.heap[b]?
/-- and blocks of Openings -/
def KO (w w' : World) : Prop := KI w w' ∧ ∀ (b : Nat) (cs : Array Value) (f : Nat × Nat), w.heap[b]? = some (.cells cs 28 f) → w'.heap[b]? = w.heap[b]?
theorem KO.below {w w' : World} (e : Below w.heap.size w w') : KO w w' := ⟨⟨e.size, fun b _ _ _ h _ => e.block b (Array.getElem?_eq_some_iff.1 h).1⟩, fun b _ _ h => e.block b (Array.getElem?_eq_some_iff.1 h).1⟩
theorem KI.below {w w' : World} (e : Below w.heap.size w w') : KI w w' := (KO.below e).1
theorem KI.notO {w w' : World} (hs : w.heap.size ≤ w'.heap.size) (e : ∀ (b : Nat) (c : Array Value) (t : TypeId) (f : Nat × Nat), w.heap[b]? = some (.cells c t f) → t ≠ 28 → w'.heap[b]? = w.heap[b]?) : KI w w' :=
  ⟨hs, fun b cs t f h ht => e b cs t f h (by rcases ht with rfl | rfl <;> decide)⟩
/-- but one block, of another kind -/
theorem KI.oth {w w' : World} {O : Nat} {c : Array Value} {t : TypeId} {f : Nat × Nat} (hO : w.heap[O]? = some (.cells c t f)) (h1 : t ≠ 3) (h2 : t ≠ 22) (hs : w.heap.size ≤ w'.heap.size) (e : ∀ b, b < w.heap.size → b ≠ O → w'.heap[b]? = w.heap[b]?) : KI w w' :=
  ⟨hs, fun b cs t' f' h ht => e b (Array.getElem?_eq_some_iff.1 h).1 (by
    rintro rfl
    rw [hO] at h
    injection h with h
    injection h with _ h3 _
    subst h3
    rcases ht with ht | ht
    · exact h1 ht
    · exact h2 ht)⟩
theorem KO.oth {w w' : World} {O : Nat} {c : Array Value} {t : TypeId} {f : Nat × Nat} (hO : w.heap[O]? = some (.cells c t f)) (h1 : t ≠ 3) (h2 : t ≠ 22) (h3 : t ≠ 28) (hs : w.heap.size ≤ w'.heap.size) (e : ∀ b, b < w.heap.size → b ≠ O → w'.heap[b]? = w.heap[b]?) : KO w w' :=
  ⟨KI.oth hO h1 h2 hs e, fun b cs f' h => e b (Array.getElem?_eq_some_iff.1 h).1 (by
    rintro rfl
    rw [hO] at h
    injection h with h
    injection h with _ h4 _
    exact h3 h4)⟩
theorem KI.trans {a b c : World} (h : KI a b) (k : KI b c) : KI a c := ⟨Nat.le_trans h.1 k.1, fun g cs t f e ht => (k.2 g cs t f ((h.2 g cs t f e ht).trans e) ht).trans (h.2 g cs t f e ht)⟩
theorem KO.trans {a b c : World} (h : KO a b) (k : KO b c) : KO a c := ⟨h.1.trans k.1, fun g cs f e => (k.2 g cs f ((h.2 g cs f e).trans e)).trans (h.2 g cs f e)⟩

/-- a list in a block of numbers -/
def SlI (w : World) (r : List Int) (v : Value) : Prop := ∃ a c, v = .slice a r.length c ∧ NumL w a c r
theorem SlI.ki {w w' : World} {r : List Int} {v : Value} (h : SlI w r v) (k : KI w w') : SlI w' r v := by
  obtain ⟨a, c, h1, h2⟩ := h
  exact ⟨a, c, h1, h2.blocks k.1 (fun g cs f hg => k.2 g cs _ f hg (.inl rfl))⟩
theorem SlI.lst {w : World} {r : List Int} {v : Value} (h : SlI w r v) : ∃ a c, v = .slice a r.length c ∧ Lst w.heap.size w a c r := by obtain ⟨a, c, h1, h2, _⟩ := h; exact ⟨a, c, h1, h2⟩
theorem SlI.one {w : World} {r : List Int} {v : Value} (h : SlI w r v) : v.oneCell' = true := by obtain ⟨a, c, rfl, _⟩ := h; rfl
/-- rows -/
def OwnI (base : Nat) (w : World) (v : Value) (rs : List (List Int)) : Prop := ∃ vals : List Value, w.ownsRow base 22 1 v rs.length vals ∧ ∀ j, j < rs.length → ∃ u, vals[j]? = some u ∧ SlI w (rat rs j) u
theorem OwnI.ki {base : Nat} {w w' : World} {v : Value} {rs : List (List Int)} (h : OwnI base w v rs) (k : KI w w') : OwnI base w' v rs := by
  obtain ⟨vals, h1, h2⟩ := h
  refine ⟨vals, ⟨h1.1, ?_⟩, fun j hj => ?_⟩
  · rcases h1.2 with hn | ⟨g, cap, cur, rfl, hb, hg, rest⟩
    · exact .inl hn
    · exact .inr ⟨g, cap, cur, rfl, hb, (k.2 g _ _ _ hg (.inr rfl)).trans hg, rest⟩
  · obtain ⟨u, h3, h4⟩ := h2 j hj
    exact ⟨u, h3, h4.ki k⟩
theorem OwnI.nil (base : Nat) (w : World) : OwnI base w (.slice none 0 0) [] := ⟨[], World.ownsRow_nil _ _ _ _, fun j hj => by simp at hj⟩
theorem OwnI.mono {base base' : Nat} {w : World} {v : Value} {rs : List (List Int)} (h : OwnI base w v rs) (e : base' ≤ base) : OwnI base' w v rs := by
  obtain ⟨vals, h1, h2⟩ := h
  exact ⟨vals, World.ownsRow.mono h1 e, h2⟩
theorem OwnI.lst {base : Nat} {w : World} {v : Value} {rs : List (List Int)} (h : OwnI base w v rs) : ∃ a c, v = .slice a rs.length c ∧ LstR w.heap.size w a c rs := by
  obtain ⟨vals, h1, h2⟩ := h
  rcases h1.2 with ⟨rfl, h0⟩ | ⟨g, cap, cur, rfl, hb, hg, hn, hm, hs, ht⟩
  · exact ⟨none, 0, by rw [h0], fun k hk => by omega, by omega, fun _ => rfl⟩
  · refine ⟨some ⟨g, 0, none⟩, cap, rfl, fun k hk => ?_, hn, fun e => by cases e⟩
    obtain ⟨u, h3, h4⟩ := h2 k hk
    obtain ⟨a, c, rfl, hl⟩ := h4.lst
    refine ⟨g, 0, a, c, rfl, (Array.getElem?_eq_some_iff.1 hg).1, ?_, hl⟩
    rw [Nat.zero_add, h1.cellAt k (by omega), h3]
theorem OwnI.own {base : Nat} {w : World} {v : Value} {rs : List (List Int)} (h : OwnI base w v rs) : ∀ k, v.ownBlock = some k → base ≤ k ∧ ∃ c f, w.heap[k]? = some (.cells c 22 f) := fun k hk => by
  obtain ⟨vals, h1, _⟩ := h
  refine ⟨(h1.lt k hk).1, ?_⟩
  rcases h1.2 with ⟨rfl, _⟩ | ⟨g, cap, cur, rfl, hb, hg, _⟩
  · cases hk
  · cases hk
    exact ⟨_, _, hg⟩

/-- append(out, c) -/
theorem wpList_rowI {ops : Array Oper} {rest : List Oper} {o : Oper} {act : Act} {Q : Exit → Act → World → Prop} (W : World) (base : Nat) (hgd : o.guard = none) (s x : Operand)
    (ho : o.op = .call { callee := .builtin .append, args := #[s, x], argTypes := #[23, 23] }) (v u : Value) (rs : List (List Int)) (r : List Int)
    (hown : OwnI base W v rs) (hu : SlI W r u) (hs : act.eval s = v) (hx : act.eval x = .slice (some ⟨W.heap.size, 0, none⟩) 1 1) (hlen : rs.length + 1 ≤ 5864062014805) (hbase : base ≤ W.heap.size)
    (h : ∀ v' w2, OwnI base w2 v' (rs ++ [r]) → Below base W w2 → wpList Tryd.prog ops Q rest (act.put o.dst v') w2) :
    wpList Tryd.prog ops Q (o :: rest) act (W.alloc (.cells #[u] 22)) := by
  have hbw : Below W.heap.size W (W.alloc (.cells #[u] 22)) := (Below.refl _ _).alloc (Nat.le_refl _) _
  obtain ⟨i0, hi, hz0, hz1, hz2⟩ := info_parts Tryd.infoSl
  have hown1 := hown.ki (KI.below hbw)
  have hu1 := hu.ki (KI.below hbw)
  have howb := hown1.own
  obtain ⟨vals, h1, h2⟩ := hown1
  have hvl : vals.length = rs.length := by have := h1.1; omega
  refine wpList_append_own _ hgd s x 23 ho base 22 i0 (.slice none 0 0) 1 24 Tryd.underlying23 hi hz0 hz1 hz2 rfl (by decide) _ _ _ hs h1 ⟨W.heap.size, 0, none⟩ 1 1 [u] hx rfl ?_ ?_ (by unfold maxLen; omega) (by omega) (by simp; omega) ?_
  · intro j t hj
    match j, hj with
    | 0, hj => simp at hj; subst hj; simp [Addr.add]
  · intro t ht
    obtain rfl : t = u := by simpa using ht
    exact hu.one
  · intro v' w2 hown2 hgrow _
    have hK : ∀ (g : Nat) (cs : Array Value) (f : Nat × Nat), (W.alloc (.cells #[u] 22)).heap[g]? = some (.cells cs 3 f) → w2.heap[g]? = (W.alloc (.cells #[u] 22)).heap[g]? := fun g cs f hg => by
      refine hgrow.block g (Array.getElem?_eq_some_iff.1 hg).1 (fun e => ?_)
      obtain ⟨_, c, f', h3⟩ := howb g e.symm
      rw [hg] at h3
      injection h3 with h3
      injection h3 with _ h4 _
      exact absurd h4 (by decide)
    have hkS : ∀ {r : List Int} {v : Value}, SlI (W.alloc (.cells #[u] 22)) r v → SlI w2 r v := fun hh => by
      obtain ⟨a, c, e1, e2⟩ := hh
      exact ⟨a, c, e1, e2.blocks hgrow.size hK⟩
    refine h v' w2 ⟨vals ++ [u], by rw [List.length_append]; exact hown2, fun j hj => ?_⟩ ((hbw.mono hbase).trans ((Below.refl base _).grown hgrow (by simp; omega) (fun k hk => (howb k hk).1)))
    rw [List.length_append] at hj
    rw [rat_app rs [r] j]
    by_cases hjr : j < rs.length
    · rw [if_pos hjr, List.getElem?_append_left (by omega)]
      obtain ⟨u', e1, e2⟩ := h2 j hjr
      exact ⟨u', e1, hkS e2⟩
    · obtain rfl : j = rs.length := by simp at hj; omega
      rw [if_neg hjr, List.getElem?_append_right (by omega), hvl, Nat.sub_self]
      exact ⟨u, rfl, hkS hu1⟩

end Go.Proofs.YtcajofdmadpmoaaDoor
