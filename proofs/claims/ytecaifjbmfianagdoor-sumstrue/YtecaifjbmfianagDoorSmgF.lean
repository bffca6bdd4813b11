/- Package sums: what Make writes, step by step. -/
import Derived.Test.YtecaifjbmfianagDoorSmgD
import Derived.Test.YtecaifjbmfianagDoorHeldS
namespace Go.Proofs.YtecaifjbmfianagDoor
open Go.RowKit

/-- two cells -/
def dub (a b : Value) : Nat → Value
  | 0 => a
  | _ => b
theorem dub_new (w : World) (t : TypeId) (a b : Value) : (w.alloc (.cells #[a, b] t)).rowIs w.heap.size t 2 (dub a b) :=
  ⟨#[a, b], heap_alloc_new w _, rfl, fun i hi => by
    have : i = 0 ∨ i = 1 := by omega
    rcases this with rfl | rfl <;> rfl⟩
theorem dub_arr {W : World} {g : Nat} {t : TypeId} {a b : Value} (h : W.rowIs g t 2 (dub a b)) : W.heap[g]? = some (.cells #[a, b] t (0, 0)) := by
  obtain ⟨cs, h1, h2, h4⟩ := h
  rw [h1]
  have e : cs = #[a, b] := by
    apply Array.ext
    · simpa using h2
    · intro i hi hi2
      have h0 : i = 0 ∨ i = 1 := by simp at hi2; omega
      have h5 := h4 i (by omega)
      rw [Array.getElem?_eq_getElem hi] at h5
      have h6 := Option.some.inj h5
      rw [h6]
      rcases h0 with rfl | rfl <;> rfl
  rw [e]
theorem dub_set0 {W : World} {g : Nat} {t : TypeId} {a b : Value} (h : W.rowIs g t 2 (dub a b)) (a' : Value) : (W.setCell ⟨g, 0, none⟩ a').rowIs g t 2 (dub a' b) :=
  World.rowIs.congr (World.rowIs.set h 0 a') (fun j hj => by
    have : j = 0 ∨ j = 1 := by omega
    rcases this with rfl | rfl <;> rfl)
theorem dub_set1 {W : World} {g : Nat} {t : TypeId} {a b : Value} (h : W.rowIs g t 2 (dub a b)) (b' : Value) : (W.setCell ⟨g, 1, none⟩ b').rowIs g t 2 (dub a b') :=
  World.rowIs.congr (World.rowIs.set h 1 b') (fun j hj => by
    have : j = 0 ∨ j = 1 := by omega
    rcases this with rfl | rfl <;> rfl)
theorem results_ctb {P : Program} {fn : Func} {p u : Tmp} {ty : TypeId} (h : fn.results = #[.cell p ty, .tmp u]) (tmps : Array Value) (w : World) (g : Nat) (tt : TypeId) (cs : Array Value) (fr : Nat × Nat) (d : TypeDesc)
    (hp : tmps.getD p undef = .pointer (some ⟨g, 0, none⟩)) (hg : w.heap[g]? = some (.cells cs tt fr))
    (hu : P.underlying ty = some d) (hd : (match d with | .struct _ | .array _ _ => true | _ => false) = true) (hi : (P.info? ty).map (·.size) = some cs.size) :
    (results fn tmps).run P w = .ok (.tuple #[.agg cs, tmps.getD u undef]) w := by
  have hp' : tmps[p]?.getD undef = .pointer (some ⟨g, 0, none⟩) := by simpa using hp
  simp [results, h, hp', asAddr, run_loadVar_row w g tt ty cs fr d hg hu hd hi]
theorem wp_append_runb {o : Oper} {act : Act} {K : Act → World → Prop} {Q : Exit → Act → World → Prop} {W : World} (s x : Operand) (t ty : TypeId) (ho : o.op = .call { callee := .builtin .append, args := #[s, x], argTypes := #[t, t] }) (hty : o.type = ty) (v v2 v' : Value) (w' : World)
    (hr : (Builtin.append_ #[t, t] ty #[v, v2]).run Tryd.prog W = .ok v' w') (hs : act.eval s = v) (hx : act.eval x = v2) (h : K (act.put o.dst v') w') : o.wp Tryd.prog act W K Q := by
  subst hty
  unfold Oper.wp execOp
  simp only [ho, resolve, invoke, builtin, Sem.run_bind, Sem.run_pure, Result.andThen_ok, List.map_toArray, List.map_cons, List.map_nil, hs, hx, hr]
  exact h

theorem owns_keep {w w' : World} {base n : Nat} {e : TypeId} {v : Value} {xs : List Value} (h : w.ownsRow base e 1 v n xs) (hk : ∀ g, v.ownBlock = some g → w'.heap[g]? = w.heap[g]?) : w'.ownsRow base e 1 v n xs := by
  refine ⟨h.1, ?_⟩
  rcases h.2 with hn | ⟨g, cap, cur, rfl, hb, hg, rest⟩
  · exact .inl hn
  · exact .inr ⟨g, cap, cur, rfl, hb, (hk g rfl).trans hg, rest⟩
theorem owns_ne {w : World} {base n : Nat} {e t : TypeId} {v : Value} {xs : List Value} (h : w.ownsRow base e 1 v n xs) {g : Nat} {c : Array Value} {f : Nat × Nat} (hg : w.heap[g]? = some (.cells c t f)) (ht : t ≠ e) : some g ≠ v.ownBlock := by
  intro e'
  rcases h.2 with ⟨rfl, _⟩ | ⟨g', cap, cur, rfl, hb, hg', _⟩
  · cases e'
  · simp [Value.ownBlock] at e'
    subst e'
    rw [hg] at hg'
    injection hg' with hg'
    injection hg' with _ h2 _
    exact ht h2
theorem owns_slice {w : World} {base n : Nat} {e : TypeId} {v : Value} {xs : List Value} (h : w.ownsRow base e 1 v n xs) : ∃ a c, v = .slice a n c ∧ n ≤ c ∧ (a = none → c = 0) := by
  rcases h.2 with ⟨rfl, h0⟩ | ⟨g', cap, cur, rfl, hb, hg', hn, _⟩
  · exact ⟨none, 0, by rw [h0], by omega, fun _ => rfl⟩
  · exact ⟨_, _, rfl, hn, fun e => by cases e⟩

/-- what stands while Rounds are appended -/
structure MkO (d : Nat) (R : Nat → List Int) (w : World) (O n0 k : Nat) (ar : Option Addr) (cr : Nat) (W : World) : Prop where
  res : W.rowIs w.heap.size 29 2 (dub (.slice none 0 0) (.slice none 0 0))
  obj : W.rowIs O 29 2 (dub (.slice ar k cr) (.slice none 0 0))
  below : Below w.heap.size w W
  own : ∃ vals : List Value, W.ownsRow n0 23 1 (.slice ar k cr) k vals ∧ ∀ j, j < k → ∃ g, vals[j]? = some (.slice (some ⟨g, 0, none⟩) (d + 1) (d + 1)) ∧ n0 ≤ g ∧ ArrI W g 3 (d + 1) (zat (R j))
  hO : w.heap.size < O
  hn : O < n0
  hs : n0 ≤ W.heap.size
theorem MkO.keep {d : Nat} {R : Nat → List Int} {w : World} {O n0 k : Nat} {ar : Option Addr} {cr : Nat} {W W' : World} (h : MkO d R w O n0 k ar cr W) (e : Below W.heap.size W W') : MkO d R w O n0 k ar cr W' := by
  obtain ⟨vals, h1, h2⟩ := h.own
  refine ⟨h.res.of_block (e.block _ h.res.lt), h.obj.of_block (e.block _ h.obj.lt), h.below.trans (e.mono h.below.size), ⟨vals, owns_keep h1 (fun g hg => e.block g (h1.lt g hg).2), fun j hj => ?_⟩, h.hO, h.hn, Nat.le_trans h.hs e.size⟩
  obtain ⟨g, g1, g2, g3⟩ := h2 j hj
  exact ⟨g, g1, g2, g3.below e g3.lt⟩
theorem MkO.blk {d : Nat} {R : Nat → List Int} {w : World} {O n0 k : Nat} {ar : Option Addr} {cr : Nat} {W : World} (h : MkO d R w O n0 k ar cr W) : ∀ g, (Value.slice ar k cr).ownBlock = some g → n0 ≤ g ∧ g < W.heap.size := by
  obtain ⟨vals, h1, _⟩ := h.own
  exact h1.lt

theorem MkO.app {d : Nat} {R : Nat → List Int} {w : World} {O n0 k : Nat} {ar : Option Addr} {cr : Nat} {W : World} (h : MkO d R w O n0 k ar cr W) {ge : Nat} (hge : n0 ≤ ge) (hA : ArrI W ge 3 (d + 1) (zat (R k))) (hk : k ≤ 1000) :
    ∃ a4 c4 w4, (Builtin.append_ #[22, 22] 22 #[.slice ar k cr, .slice (some ⟨W.heap.size, 0, none⟩) 1 1]).run Tryd.prog (W.alloc (.cells #[.slice (some ⟨ge, 0, none⟩) (d + 1) (d + 1)] 23)) = .ok (.slice a4 (k + 1) c4) w4 ∧
      w4.cell? ⟨O, 0, none⟩ = some (.slice ar k cr) ∧ w4.frozen? ⟨O, 0, none⟩ = false ∧ MkO d R w O n0 (k + 1) a4 c4 (w4.setCell ⟨O, 0, none⟩ (.slice a4 (k + 1) c4)) ∧
      (∀ b, b < W.heap.size → b ≠ O → some b ≠ (Value.slice ar k cr).ownBlock → (w4.setCell ⟨O, 0, none⟩ (.slice a4 (k + 1) c4)).heap[b]? = W.heap[b]?) ∧ W.heap.size ≤ (w4.setCell ⟨O, 0, none⟩ (.slice a4 (k + 1) c4)).heap.size := by
  obtain ⟨i0, hi, hz0, hz1, hz2⟩ := info_parts Tryd.infoSl
  have hbw : Below W.heap.size W (W.alloc (.cells #[.slice (some ⟨ge, 0, none⟩) (d + 1) (d + 1)] 23)) := (Below.refl _ _).alloc (Nat.le_refl _) _
  have h' := h.keep hbw
  obtain ⟨vals, h1, h2⟩ := h'.own
  have hvl : vals.length = k := by have := h1.1; omega
  have hO := h.hO
  have hn := h.hn
  have hs := h.hs
  obtain ⟨v', w4, hr, hown2, hgrow, _⟩ := run_append_own (P := Tryd.prog) (W.alloc (.cells #[.slice (some ⟨ge, 0, none⟩) (d + 1) (d + 1)] 23)) n0 22 22 23 i0 (.slice none 0 0) 1 24 Tryd.underlying22 hi hz0 hz1 hz2 rfl (by decide) (.slice ar k cr) k vals h1 ⟨W.heap.size, 0, none⟩ 1 1 [.slice (some ⟨ge, 0, none⟩) (d + 1) (d + 1)] rfl
    (by
      intro j t hj
      match j, hj with
      | 0, hj => simp at hj; subst hj; simp [Addr.add])
    (by
      intro t ht
      rw [List.mem_singleton.1 ht]
      rfl) (by unfold maxLen; omega) (by omega) (by simp; omega)
  obtain ⟨a4, c4, rfl, _, _⟩ := owns_slice hown2
  have hsz0 : (W.alloc (.cells #[.slice (some ⟨ge, 0, none⟩) (d + 1) (d + 1)] 23)).heap.size = W.heap.size + 1 := by simp
  have hsz : W.heap.size ≤ w4.heap.size := by have := hgrow.size; omega
  have hszs : (w4.setCell ⟨O, 0, none⟩ (.slice a4 (k + 1) c4)).heap.size = w4.heap.size := by simp [World.setCell]
  have hblk : ∀ b, b < W.heap.size → some b ≠ (Value.slice ar k cr).ownBlock → w4.heap[b]? = W.heap[b]? := fun b hb hne => (hgrow.block b (by omega) hne).trans (hbw.block b hb)
  have hOne : some O ≠ (Value.slice ar k cr).ownBlock := fun e => by have := (h1.lt O e.symm).1; omega
  have hres : some w.heap.size ≠ (Value.slice ar k cr).ownBlock := fun e => by have := (h1.lt _ e.symm).1; omega
  have hobj := h.obj.of_block (hblk O (by omega) hOne)
  have hbel : Below w.heap.size w w4 := (h.below.trans (hbw.mono h.below.size)).grown hgrow (by have := h.below.size; omega) (fun g hg => by have := (h1.lt g hg).1; omega)
  refine ⟨a4, c4, w4, hr, hobj.cell (i := 0) (by omega), hobj.frozen 0, ⟨?_, dub_set0 hobj _, hbel.setCell (p := ⟨O, 0, none⟩) (by show w.heap.size ≤ O; omega) _, ⟨vals ++ [.slice (some ⟨ge, 0, none⟩) (d + 1) (d + 1)], ?_, fun j hj => ?_⟩, hO, hn, by omega⟩, fun b hb hbO hne => ?_, by omega⟩
  · exact (h.res.of_block (hblk _ h.res.lt hres)).setOther (a := ⟨O, 0, none⟩) (by show w.heap.size ≠ O; omega) _
  · refine owns_keep hown2 (fun g hg => Below.heap_setCell _ _ _ _ ?_)
    have := (hown2.lt g hg).1
    show g ≠ O
    omega
  · by_cases hjk : j < k
    · obtain ⟨g, g1, g2, g3⟩ := h2 j hjk
      have hgl : g < W.heap.size + 1 := by have := g3.lt; omega
      refine ⟨g, by rw [List.getElem?_append_left (by omega)]; exact g1, g2, ?_⟩
      exact (g3.block (hgrow.block g (by omega) (owns_ne h1 g3.heap (by decide)))).other (a := ⟨O, 0, none⟩) (by show g ≠ O; omega) _
    · obtain rfl : j = k := by omega
      refine ⟨ge, by rw [List.getElem?_append_right (by omega), hvl, Nat.sub_self]; rfl, hge, ?_⟩
      have hA' := hA.below hbw hA.lt
      exact (hA'.block (hgrow.block ge (by have := hA.lt; omega) (owns_ne h1 hA'.heap (by decide)))).other (a := ⟨O, 0, none⟩) (by show ge ≠ O; omega) _
  · exact (Below.heap_setCell _ _ _ _ hbO).trans (hblk b hb hne)

/-- what stands while Finals are appended -/
structure MkP (d dl : Nat) (Rs : List (List Int)) (G F : Nat → Int) (w : World) (O n0 n2 ac k : Nat) (ar af : Option Addr) (cr cf : Nat) (W : World) : Prop where
  res : W.rowIs w.heap.size 29 2 (dub (.slice none 0 0) (.slice none 0 0))
  obj : W.rowIs O 29 2 (dub (.slice ar dl cr) (.slice af k cf))
  below : Below w.heap.size w W
  rds : TabP (fun g => n0 ≤ g ∧ g < n2) W ar cr Rs
  lst : ArrI W ac 3 d G
  own : W.ownsRow n2 3 1 (.slice af k cf) k ((ls F k).map (Value.int .i64))
  hO : w.heap.size < O
  hn : O < n0
  hac : n0 ≤ ac ∧ ac < n2
  hs : n2 ≤ W.heap.size

theorem MkP.keep {d dl : Nat} {Rs : List (List Int)} {G F : Nat → Int} {w : World} {O n0 n2 ac k : Nat} {ar af : Option Addr} {cr cf : Nat} {W W' : World} (h : MkP d dl Rs G F w O n0 n2 ac k ar af cr cf W) (e : Below W.heap.size W W') : MkP d dl Rs G F w O n0 n2 ac k ar af cr cf W' :=
  ⟨h.res.of_block (e.block _ h.res.lt), h.obj.of_block (e.block _ h.obj.lt), h.below.trans (e.mono h.below.size), h.rds.keep (fun g hg => e.block g (Nat.lt_of_lt_of_le hg.2 h.hs)), h.lst.below e h.lst.lt, owns_keep h.own (fun g hg => e.block g (h.own.lt g hg).2), h.hO, h.hn, h.hac, Nat.le_trans h.hs e.size⟩
theorem MkP.app {d dl : Nat} {Rs : List (List Int)} {G F : Nat → Int} {w : World} {O n0 n2 ac k : Nat} {ar af : Option Addr} {cr cf : Nat} {W : World} (h : MkP d dl Rs G F w O n0 n2 ac k ar af cr cf W) (hk : k ≤ 1000) :
    ∃ a4 c4 w4, (Builtin.append_ #[23, 23] 23 #[.slice af k cf, .slice (some ⟨W.heap.size, 0, none⟩) 1 1]).run Tryd.prog (W.alloc (.cells #[.int .i64 (F k)] 3)) = .ok (.slice a4 (k + 1) c4) w4 ∧
      w4.cell? ⟨O, 1, none⟩ = some (.slice af k cf) ∧ w4.frozen? ⟨O, 1, none⟩ = false ∧ MkP d dl Rs G F w O n0 n2 ac (k + 1) ar a4 cr c4 (w4.setCell ⟨O, 1, none⟩ (.slice a4 (k + 1) c4)) := by
  obtain ⟨i0, hi, hz0, hz1, hz2⟩ := info_parts Tryd.infoInt
  have hbw : Below W.heap.size W (W.alloc (.cells #[.int .i64 (F k)] 3)) := (Below.refl _ _).alloc (Nat.le_refl _) _
  have h1 := h.own.alloc (.cells #[.int .i64 (F k)] 3)
  have hO := h.hO
  have hn := h.hn
  have hac := h.hac
  have hs := h.hs
  obtain ⟨v', w4, hr, hown2, hgrow, _⟩ := run_append_own (P := Tryd.prog) (W.alloc (.cells #[.int .i64 (F k)] 3)) n2 23 23 3 i0 (.int .i64 0) 1 8 Tryd.underlying23 hi hz0 hz1 hz2 rfl (by decide) (.slice af k cf) k _ h1 ⟨W.heap.size, 0, none⟩ 1 1 [.int .i64 (F k)] rfl
    (by
      intro j t hj
      match j, hj with
      | 0, hj => simp at hj; subst hj; simp [Addr.add])
    (by
      intro t ht
      rw [List.mem_singleton.1 ht]
      rfl) (by unfold maxLen; omega) (by omega) (by simp; omega)
  obtain ⟨a4, c4, rfl, _, _⟩ := owns_slice hown2
  have hsz0 : (W.alloc (.cells #[.int .i64 (F k)] 3)).heap.size = W.heap.size + 1 := by simp
  have hsz : W.heap.size ≤ w4.heap.size := by have := hgrow.size; omega
  have hszs : (w4.setCell ⟨O, 1, none⟩ (.slice a4 (k + 1) c4)).heap.size = w4.heap.size := by simp [World.setCell]
  have hblk : ∀ b, b < n2 → w4.heap[b]? = W.heap[b]? := fun b hb => (hgrow.block b (by omega) (fun e => by have := (h1.lt b e.symm).1; omega)).trans (hbw.block b (by omega))
  have hobj := h.obj.of_block (hblk O (by omega))
  have hbel : Below w.heap.size w w4 := (h.below.trans (hbw.mono h.below.size)).grown hgrow (by have := h.below.size; omega) (fun g hg => by have := (h1.lt g hg).1; omega)
  refine ⟨a4, c4, w4, hr, hobj.cell (i := 1) (by omega), hobj.frozen 1, ⟨?_, dub_set1 hobj _, hbel.setCell (p := ⟨O, 1, none⟩) (by show w.heap.size ≤ O; omega) _, ?_, ?_, ?_, hO, hn, hac, by omega⟩⟩
  · exact (h.res.of_block (hblk _ (by omega))).setOther (a := ⟨O, 1, none⟩) (by show w.heap.size ≠ O; omega) _
  · exact h.rds.keep (fun g hg => (Below.heap_setCell _ _ _ _ (by show g ≠ O; omega)).trans (hblk g hg.2))
  · exact (h.lst.block (hblk ac hac.2)).other (a := ⟨O, 1, none⟩) (by show ac ≠ O; omega) _
  · rw [ls_succ, List.map_append]
    refine owns_keep hown2 (fun g hg => Below.heap_setCell _ _ _ _ ?_)
    have := (hown2.lt g hg).1
    show g ≠ O
    omega

/-- from Rounds to Finals -/
theorem MkO.next {d dl : Nat} {R : Nat → List Int} {Rs : List (List Int)} {w : World} {O n0 : Nat} {ar : Option Addr} {cr : Nat} {W : World} (h : MkO d R w O n0 dl ar cr W) (hl : Rs.length = dl) (hr : ∀ j, j < dl → rat Rs j = R j) (hrl : ∀ j, (R j).length = d + 1) {G F : Nat → Int} {ac : Nat} (hA : ArrI W ac 3 d G) (hac : n0 ≤ ac) : MkP d dl Rs G F w O n0 W.heap.size ac 0 ar none cr 0 W := by
  obtain ⟨vals, h1, h2⟩ := h.own
  refine ⟨h.res, h.obj, h.below, ?_, hA, World.ownsRow_nil _ _ _ _, h.hO, h.hn, ⟨hac, hA.lt⟩, Nat.le_refl _⟩
  rcases h1.2 with ⟨e, h0⟩ | ⟨g, cap, cur, e, hb, hg, hn, hm, hs, ht⟩
  · injection e with e1 e2 e3
    subst e1
    subst e3
    exact ⟨fun k hk => by omega, by omega, fun _ => rfl⟩
  · injection e with e1 e2 e3
    subst e1
    subst e3
    refine ⟨fun k hk => ?_, by omega, fun e => by cases e⟩
    rw [hl] at hk
    obtain ⟨g', g1, g2, g3⟩ := h2 k hk
    refine ⟨g, 0, some ⟨g', 0, none⟩, d + 1, rfl, ⟨hb, (Array.getElem?_eq_some_iff.1 hg).1⟩, ?_, ?_, ?_, fun e => by cases e⟩
    · rw [Nat.zero_add, h1.cellAt k (by omega), g1, hr k hk, hrl]
    · intro i hi
      rw [hr k hk, hrl] at hi
      exact ⟨g', 0, rfl, ⟨g2, g3.lt⟩, by rw [Nat.zero_add, g3.cell hi, hr k hk]⟩
    · rw [hr k hk, hrl]; exact Nat.le_refl _

end Go.Proofs.YtecaifjbmfianagDoor
