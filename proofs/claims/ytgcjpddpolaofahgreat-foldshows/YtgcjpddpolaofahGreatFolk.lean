/- attestsame.Folds of what is the same. attestsame.Foldeds: a Folded that is the call's own. attestsame.Foldeds. Lists, rows and Openings in blocks of their own kinds: a chain's turn leaves them. attestsame.Copied, Opened, Foldeds of that kind. attestsame.Opened and Foldeds: what a chain's turn leaves. -/
import Derived.Test.YtgcjpddpolaofahGreatFolc
import Derived.Test.YtgcjpddpolaofahGreatTreJ
import Derived.Test.YtgcjpddpolaofahGreatChnz
import Derived.StillTailTactics
namespace Go.Proofs.YtgcjpddpolaofahGreat
open Go.RowKit

/-- two boxes -/
structure BxI (B : Nat) (x1 x2 x3 y1 y2 y3 : Value) (w W : World) : Prop where
  bel : Below w.heap.size w W
  one : W.heap[B]? = some (.cells #[x1, x2, x3] 40 (0, 0))
  two : W.heap[B + 1]? = some (.cells #[y1, y2, y3] 40 (0, 0))
theorem BxI.step {B : Nat} {x1 x2 x3 y1 y2 y3 : Value} {w W W' : World} (h : BxI B x1 x2 x3 y1 y2 y3 w W) (e : Below W.heap.size W W') : BxI B x1 x2 x3 y1 y2 y3 w W' :=
  ⟨h.bel.trans (e.mono h.bel.size), (e.block _ (Array.getElem?_eq_some_iff.1 h.one).1).trans h.one, (e.block _ (Array.getElem?_eq_some_iff.1 h.two).1).trans h.two⟩

end Go.Proofs.YtgcjpddpolaofahGreat

namespace Go.Proofs.YtgcjpddpolaofahGreat
open Go.RowKit

theorem Tryz.infoOn : (Tryz.prog.info? 102).map (fun i => (i.zero, i.size, i.bytes)) = some (some (.agg #[.slice none 0 0, .slice none 0 0, .slice none 0 0]), 3, 72) := by kernel_rfl

/-- what is no Opening stays -/
theorem SlR.notO {w w' : World} {r : List Int} {v : Value} (h : SlR w r v) (hs : w.heap.size ≤ w'.heap.size) (e : ∀ (b : Nat) (c : Array Value) (t : TypeId) (f : Nat × Nat), w.heap[b]? = some (.cells c t f) → t ≠ 102 → w'.heap[b]? = w.heap[b]?) : SlR w' r v :=
  h.blocks hs (fun b _ hn => by
    obtain ⟨c, t, f, h1, _, h3, _⟩ := hn
    exact e b c t f h1 h3)
theorem OwnR.notO {base : Nat} {w w' : World} {v : Value} {rs : List (List Int)} (h : OwnR base w v rs) (hs : w.heap.size ≤ w'.heap.size) (e : ∀ (b : Nat) (c : Array Value) (t : TypeId) (f : Nat × Nat), w.heap[b]? = some (.cells c t f) → t ≠ 102 → w'.heap[b]? = w.heap[b]?) : OwnR base w' v rs := by
  obtain ⟨vals, h1, h2⟩ := h
  refine ⟨vals, ?_, fun j hj => ?_⟩
  · refine ⟨h1.1, ?_⟩
    rcases h1.2 with hn | ⟨g, cap, cur, rfl, hb, hg, rest⟩
    · exact .inl hn
    · exact .inr ⟨g, cap, cur, rfl, hb, (e g _ _ _ hg (by decide)).trans hg, rest⟩
  · obtain ⟨u, h3, h4⟩ := h2 j hj
    exact ⟨u, h3, h4.notO hs e⟩

/-- a store into a Folded turns no list of numbers -/
theorem SlR.setF {w : World} {O i : Nat} {v u : Value} {r : List Int} {x1 x2 x3 : Option Addr} {n1 n2 n3 c1 c2 c3 : Nat} {t : TypeId} (h : SlR w r u) (hO : w.heap[O]? = some (.cells #[.slice x1 n1 c1, .slice x2 n2 c2, .slice x3 n3 c3] t (0, 0))) : SlR (w.setCell ⟨O, i, none⟩ v) r u := by
  obtain ⟨a, c, rfl, hl, hn⟩ := h
  have hne : ∀ k, k < r.length → ∃ b o, a = some ⟨b, o, none⟩ ∧ b < w.heap.size ∧ w.cell? ⟨b, o + k, none⟩ = some (.int .i64 (zat r k)) ∧ b ≠ O := fun k hk => by
    obtain ⟨b, o, h1, h2, h3⟩ := hl.row k hk
    refine ⟨b, o, h1, h2, h3, ?_⟩
    rintro rfl
    unfold World.cell? at h3
    rw [show w.heap[(⟨b, o + k, none⟩ : Addr).block]? = some (.cells #[.slice x1 n1 c1, .slice x2 n2 c2, .slice x3 n3 c3] t (0, 0)) from hO] at h3
    have h4 : (#[Value.slice x1 n1 c1, .slice x2 n2 c2, .slice x3 n3 c3] : Array Value)[o + k]? = some (.int .i64 (zat r k)) := h3
    match o + k, h4 with
    | 0, h4 => simp at h4
    | 1, h4 => simp at h4
    | 2, h4 => simp at h4
    | j + 3, h4 => simp at h4
  have hsz : (w.setCell ⟨O, i, none⟩ v).heap.size = w.heap.size := by simp [World.setCell]
  refine ⟨a, c, rfl, ⟨fun k hk => ?_, hl.room, hl.nil⟩, fun h0 => ?_⟩
  · obtain ⟨b, o, h1, h2, h3, h4⟩ := hne k hk
    exact ⟨b, o, h1, by rw [hsz]; exact h2, (World.cell?_of_block (w := w) (a := ⟨b, o + k, none⟩) (Below.heap_setCell _ _ _ _ h4)).trans h3⟩
  · obtain ⟨b, o, h1, cs, t', f, h2, h3⟩ := hn h0
    obtain ⟨b', o', g1, _, _, g4⟩ := hne 0 h0
    rw [h1] at g1
    cases g1
    exact ⟨b, o, h1, cs, t', f, (Below.heap_setCell _ _ _ _ g4).trans h2, h3⟩
theorem OwnR.setF {base : Nat} {w : World} {O i : Nat} {v u : Value} {rs : List (List Int)} {x1 x2 x3 : Option Addr} {n1 n2 n3 c1 c2 c3 : Nat} (h : OwnR base w u rs) (hO : w.heap[O]? = some (.cells #[.slice x1 n1 c1, .slice x2 n2 c2, .slice x3 n3 c3] 40 (0, 0))) : OwnR base (w.setCell ⟨O, i, none⟩ v) u rs := by
  obtain ⟨vals, h1, h2⟩ := h
  refine ⟨vals, ⟨h1.1, ?_⟩, fun j hj => ?_⟩
  · rcases h1.2 with hn | ⟨g, cap, cur, rfl, hb, hg, rest⟩
    · exact .inl hn
    · refine .inr ⟨g, cap, cur, rfl, hb, (Below.heap_setCell _ _ _ _ ?_).trans hg, rest⟩
      rintro rfl
      rw [hO] at hg
      injection hg with hg
      injection hg with _ h3 _
      exact absurd h3 (by decide)
  · obtain ⟨x, h3, h4⟩ := h2 j hj
    exact ⟨x, h3, h4.setF hO⟩

/-- Openings of the call's own -/
def OwnF (base : Nat) (w : World) (v : Value) (os : List OnZ) : Prop := ∃ vals : List Value, w.ownsRow base 102 3 v os.length vals ∧ ∀ j, j < os.length → ∃ vp vr vn, vals[j * 3]? = some vp ∧ vals[j * 3 + 1]? = some vr ∧ vals[j * 3 + 2]? = some vn ∧ SlR w (onat os j).ps vp ∧ OwnR 0 w vr (onat os j).rows ∧ OwnR 0 w vn (onat os j).nodes
theorem OwnF.nil (base : Nat) (w : World) : OwnF base w (.slice none 0 0) [] := ⟨[], World.ownsRow_nil _ _ _ _, fun j hj => by simp at hj⟩
theorem OwnF.keep {base : Nat} {w w' : World} {v : Value} {os : List OnZ} (h : OwnF base w v os) (e : Below w.heap.size w w') : OwnF base w' v os := by
  obtain ⟨vals, h1, h2⟩ := h
  refine ⟨vals, h1.kept (gb_of_below e) (by cases v.ownBlock with
    | none => exact .inl rfl
    | some k => exact .inr (by simp)), fun j hj => ?_⟩
  obtain ⟨vp, vr, vn, e1, e2, e3, e4, e5, e6⟩ := h2 j hj
  exact ⟨vp, vr, vn, e1, e2, e3, e4.keep e, e5.keep e, e6.keep e⟩
theorem OwnF.setF {base : Nat} {w : World} {O i : Nat} {v u : Value} {os : List OnZ} {x1 x2 x3 : Option Addr} {n1 n2 n3 c1 c2 c3 : Nat} (h : OwnF base w u os) (hO : w.heap[O]? = some (.cells #[.slice x1 n1 c1, .slice x2 n2 c2, .slice x3 n3 c3] 40 (0, 0))) : OwnF base (w.setCell ⟨O, i, none⟩ v) u os := by
  obtain ⟨vals, h1, h2⟩ := h
  refine ⟨vals, ⟨h1.1, ?_⟩, fun j hj => ?_⟩
  · rcases h1.2 with hn | ⟨g, cap, cur, rfl, hb, hg, rest⟩
    · exact .inl hn
    · refine .inr ⟨g, cap, cur, rfl, hb, (Below.heap_setCell _ _ _ _ ?_).trans hg, rest⟩
      rintro rfl
      rw [hO] at hg
      injection hg with hg
      injection hg with _ h3 _
      exact absurd h3 (by decide)
  · obtain ⟨vp, vr, vn, e1, e2, e3, e4, e5, e6⟩ := h2 j hj
    exact ⟨vp, vr, vn, e1, e2, e3, e4.setF hO, e5.setF hO, e6.setF hO⟩
theorem OwnF.lst {base : Nat} {w : World} {v : Value} {os : List OnZ} (h : OwnF base w v os) : ∃ a c, v = .slice a os.length c ∧ LstF w.heap.size w a c os := by
  obtain ⟨vals, h1, h2⟩ := h
  rcases h1.2 with ⟨rfl, h0⟩ | ⟨g, cap, cur, rfl, hb, hg, hn, hm, hs, ht⟩
  · exact ⟨none, 0, by rw [h0], fun k hk => by omega, by omega, fun _ => rfl⟩
  · refine ⟨some ⟨g, 0, none⟩, cap, rfl, fun k hk => ?_, hn, fun e => by cases e⟩
    obtain ⟨vp, vr, vn, e1, e2, e3, e4, e5, e6⟩ := h2 k hk
    obtain ⟨ap, cp, rfl, l1⟩ := e4.lst
    obtain ⟨ar, cr, rfl, l2⟩ := e5.lst
    obtain ⟨an', cn, rfl, l3⟩ := e6.lst
    have hc : ∀ j u, vals[j]? = some u → w.cell? ⟨g, 0 + j, none⟩ = some u := fun j u hu => by
      have := h1.cells (g := g) rfl j u hu
      have hadd : (⟨g, 0, none⟩ : Addr).add j = ⟨g, 0 + j, none⟩ := by unfold Addr.add; split <;> simp_all
      rw [hadd] at this
      exact this
    exact ⟨g, 0, ap, cp, ar, cr, an', cn, rfl, (Array.getElem?_eq_some_iff.1 hg).1, hc _ _ e1, by rw [Nat.add_assoc]; exact hc _ _ e2, by rw [Nat.add_assoc]; exact hc _ _ e3, l1, l2, l3⟩

/-- append(out.Opens, x) -/
theorem wpList_on1 {ops : Array Oper} {rest : List Oper} {o : Oper} {act : Act} {Q : Exit → Act → World → Prop} (W : World) (base : Nat) (hgd : o.guard = none) (s x : Operand)
    (ho : o.op = .call { callee := .builtin .append, args := #[s, x], argTypes := #[38, 38] }) (v vp vr vn : Value) (os : List OnZ) (z : OnZ)
    (hown : OwnF base W v os) (h1 : SlR W z.ps vp) (h2 : OwnR 0 W vr z.rows) (h3 : OwnR 0 W vn z.nodes) (hs : act.eval s = v) (hx : act.eval x = .slice (some ⟨W.heap.size, 0, none⟩) 1 1) (hlen : (os.length + 1) * 72 ≤ 140737488355328) (hbase : base ≤ W.heap.size)
    (h : ∀ v' w2, OwnF base w2 v' (os ++ [z]) → Below base W w2 → W.heap.size ≤ w2.heap.size → (∀ (b : Nat) (c : Array Value) (t : TypeId) (f : Nat × Nat), W.heap[b]? = some (.cells c t f) → t ≠ 102 → w2.heap[b]? = W.heap[b]?) → wpList Tryz.prog ops Q rest (act.put o.dst v') w2) :
    wpList Tryz.prog ops Q (o :: rest) act (W.alloc (.cells #[vp, vr, vn] 102)) := by
  obtain ⟨i0, hi, hz0, hz1, hz2⟩ := info_parts Tryz.infoOn
  have hbw : Below W.heap.size W (W.alloc (.cells #[vp, vr, vn] 102)) := (Below.refl _ _).alloc (Nat.le_refl _) _
  obtain ⟨vals, g1, g2⟩ := hown.keep hbw
  have hvl := g1.1
  refine wpList_append_own _ hgd s x 38 ho base 102 i0 _ 3 72 Tryz.underlying38 hi hz0 hz1 hz2 rfl (by decide) v _ _ hs g1 ⟨W.heap.size, 0, none⟩ 1 1 [vp, vr, vn] hx rfl ?_ ?_ (by unfold maxLen; omega) hlen (by simp; omega) ?_
  · intro j u hj
    match j, hj with
    | 0, hj => simp at hj; subst hj; simp [Addr.add]
    | 1, hj => simp at hj; subst hj; simp [Addr.add]
    | 2, hj => simp at hj; subst hj; simp [Addr.add]
  · intro u hu
    simp at hu
    rcases hu with rfl | rfl | rfl
    · exact h1.one
    · obtain ⟨a, c, rfl, _⟩ := h2.lst; rfl
    · obtain ⟨a, c, rfl, _⟩ := h3.lst; rfl
  · intro v' w2 hown2 hgrow _
    have hsz : W.heap.size ≤ w2.heap.size := by have := hgrow.size; simp at this; omega
    have hns : ∀ (b : Nat) (c : Array Value) (t : TypeId) (f : Nat × Nat), (W.alloc (.cells #[vp, vr, vn] 102)).heap[b]? = some (.cells c t f) → t ≠ 102 → w2.heap[b]? = (W.alloc (.cells #[vp, vr, vn] 102)).heap[b]? := fun b c t f hb ht => by
      refine hgrow.block b (Array.getElem?_eq_some_iff.1 hb).1 (fun e => ?_)
      rcases g1.2 with ⟨rfl, _⟩ | ⟨g, cap, cur, rfl, _, hg, _⟩
      · cases e
      · simp [Value.ownBlock] at e
        subst e
        rw [hb] at hg
        injection hg with hg
        injection hg with _ h5 _
        exact ht h5
    have hszw : (W.alloc (.cells #[vp, vr, vn] 102)).heap.size ≤ w2.heap.size := hgrow.size
    refine h v' w2 ⟨vals ++ [vp, vr, vn], by rw [List.length_append]; exact hown2, fun j hj => ?_⟩ ((hbw.mono hbase).trans ((Below.refl base _).grown hgrow (by simp; omega) (fun k hk => (g1.lt k hk).1))) hsz (fun b c t f hb ht => ?_)
    · rw [List.length_append] at hj
      by_cases hjr : j < os.length
      · obtain ⟨up, ur, un, e1, e2, e3, e4, e5, e6⟩ := g2 j hjr
        have hon : onat (os ++ [z]) j = onat os j := by simp [onat, List.getElem?_append_left hjr]
        rw [hon]
        exact ⟨up, ur, un, by rw [List.getElem?_append_left (by omega)]; exact e1, by rw [List.getElem?_append_left (by omega)]; exact e2, by rw [List.getElem?_append_left (by omega)]; exact e3, e4.notO hszw hns, e5.notO hszw hns, e6.notO hszw hns⟩
      · obtain rfl : j = os.length := by simp at hj; omega
        have hon : onat (os ++ [z]) os.length = z := by simp [onat]
        rw [hon]
        refine ⟨vp, vr, vn, ?_, ?_, ?_, (h1.keep hbw).notO hszw hns, (h2.keep hbw).notO hszw hns, (h3.keep hbw).notO hszw hns⟩
        · rw [List.getElem?_append_right (by omega), hvl, Nat.sub_self]; rfl
        · rw [List.getElem?_append_right (by omega), hvl, show os.length * 3 + 1 - os.length * 3 = 1 from by omega]; rfl
        · rw [List.getElem?_append_right (by omega), hvl, show os.length * 3 + 2 - os.length * 3 = 2 from by omega]; rfl
    · have e := hbw.block b (Array.getElem?_eq_some_iff.1 hb).1
      exact (hns b c t f (e.trans hb) ht).trans e

end Go.Proofs.YtgcjpddpolaofahGreat

namespace Go.Proofs.YtgcjpddpolaofahGreat
open Go.RowKit

theorem thrF {W : World} {g : Nat} {a b c : Value} {t : TypeId} (h : W.heap[g]? = some (.cells #[a, b, c] t (0, 0))) (i : Nat) : W.frozen? ⟨g, i, none⟩ = false := by simp [World.frozen?, h]
theorem thr_row {W : World} {g : Nat} {a b c : Value} {t : TypeId} (h : W.heap[g]? = some (.cells #[a, b, c] t (0, 0))) : W.rowIs g t 3 (tri a b c) :=
  ⟨#[a, b, c], h, rfl, fun i hi => by
    have : i = 0 ∨ i = 1 ∨ i = 2 := by omega
    rcases this with rfl | rfl | rfl <;> rfl⟩

/-- what stands while a Folded is copied -/
structure FdI (B : Nat) (x1 x2 x3 v1 v2 v3 : Value) (w W : World) : Prop where
  bel : Below w.heap.size w W
  obx : W.heap[B]? = some (.cells #[x1, x2, x3] 40 (0, 0))
  res : W.heap[B + 1]? = some (.cells #[.slice none 0 0, .slice none 0 0, .slice none 0 0] 40 (0, 0))
  out : W.heap[B + 2]? = some (.cells #[v1, v2, v3] 40 (0, 0))
theorem FdI.step {B : Nat} {x1 x2 x3 v1 v2 v3 : Value} {w W W' : World} (h : FdI B x1 x2 x3 v1 v2 v3 w W) (e : Below W.heap.size W W') : FdI B x1 x2 x3 v1 v2 v3 w W' :=
  ⟨h.bel.trans (e.mono h.bel.size), (e.block _ (Array.getElem?_eq_some_iff.1 h.obx).1).trans h.obx, (e.block _ (Array.getElem?_eq_some_iff.1 h.res).1).trans h.res, (e.block _ (Array.getElem?_eq_some_iff.1 h.out).1).trans h.out⟩
theorem FdI.notO {B : Nat} {x1 x2 x3 v1 v2 v3 : Value} {w W W' : World} (h : FdI B x1 x2 x3 v1 v2 v3 w W) (hb : Below w.heap.size w W') (e : ∀ (b : Nat) (c : Array Value) (t : TypeId) (f : Nat × Nat), W.heap[b]? = some (.cells c t f) → t ≠ 102 → W'.heap[b]? = W.heap[b]?) : FdI B x1 x2 x3 v1 v2 v3 w W' :=
  ⟨hb, (e _ _ _ _ h.obx (by decide)).trans h.obx, (e _ _ _ _ h.res (by decide)).trans h.res, (e _ _ _ _ h.out (by decide)).trans h.out⟩
theorem FdI.put0 {B : Nat} {x1 x2 x3 v1 v2 v3 : Value} {w W : World} (h : FdI B x1 x2 x3 v1 v2 v3 w W) (hB : w.heap.size ≤ B) (v : Value) : FdI B x1 x2 x3 v v2 v3 w (W.setCell ⟨B + 2, 0, none⟩ v) :=
  ⟨h.bel.setCell (p := ⟨B + 2, 0, none⟩) (by show w.heap.size ≤ B + 2; omega) _, (Below.heap_setCell _ _ _ _ (by show B ≠ B + 2; omega)).trans h.obx, (Below.heap_setCell _ _ _ _ (by show B + 1 ≠ B + 2; omega)).trans h.res, tri_arr (tri_set0 (thr_row h.out) v)⟩
theorem FdI.put1 {B : Nat} {x1 x2 x3 v1 v2 v3 : Value} {w W : World} (h : FdI B x1 x2 x3 v1 v2 v3 w W) (hB : w.heap.size ≤ B) (v : Value) : FdI B x1 x2 x3 v1 v v3 w (W.setCell ⟨B + 2, 1, none⟩ v) :=
  ⟨h.bel.setCell (p := ⟨B + 2, 1, none⟩) (by show w.heap.size ≤ B + 2; omega) _, (Below.heap_setCell _ _ _ _ (by show B ≠ B + 2; omega)).trans h.obx, (Below.heap_setCell _ _ _ _ (by show B + 1 ≠ B + 2; omega)).trans h.res, tri_arr (tri_set1 (thr_row h.out) v)⟩
theorem FdI.put2 {B : Nat} {x1 x2 x3 v1 v2 v3 : Value} {w W : World} (h : FdI B x1 x2 x3 v1 v2 v3 w W) (hB : w.heap.size ≤ B) (v : Value) : FdI B x1 x2 x3 v1 v2 v w (W.setCell ⟨B + 2, 2, none⟩ v) :=
  ⟨h.bel.setCell (p := ⟨B + 2, 2, none⟩) (by show w.heap.size ≤ B + 2; omega) _, (Below.heap_setCell _ _ _ _ (by show B ≠ B + 2; omega)).trans h.obx, (Below.heap_setCell _ _ _ _ (by show B + 1 ≠ B + 2; omega)).trans h.res, tri_arr (tri_set2 (thr_row h.out) v)⟩

theorem onat_take {os : List OnZ} {k : Nat} (h : k < os.length) : os.take (k + 1) = os.take k ++ [onat os k] := by
  rw [List.take_add_one]
  simp [onat, h]

/-- a list of numbers stays while no block but a Folded's turns -/
theorem SlR.othF {w w' : World} {O : Nat} {u : Value} {r : List Int} {x1 x2 x3 : Option Addr} {n1 n2 n3 c1 c2 c3 : Nat} {t : TypeId} (h : SlR w r u) (hO : w.heap[O]? = some (.cells #[.slice x1 n1 c1, .slice x2 n2 c2, .slice x3 n3 c3] t (0, 0))) (hs : w'.heap.size = w.heap.size) (he : ∀ b, b ≠ O → w'.heap[b]? = w.heap[b]?) : SlR w' r u := by
  obtain ⟨a, c, rfl, hl, hn⟩ := h
  have hne : ∀ k, k < r.length → ∃ b o, a = some ⟨b, o, none⟩ ∧ b < w.heap.size ∧ w.cell? ⟨b, o + k, none⟩ = some (.int .i64 (zat r k)) ∧ b ≠ O := fun k hk => by
    obtain ⟨b, o, h1, h2, h3⟩ := hl.row k hk
    refine ⟨b, o, h1, h2, h3, ?_⟩
    rintro rfl
    unfold World.cell? at h3
    rw [show w.heap[(⟨b, o + k, none⟩ : Addr).block]? = some (.cells #[.slice x1 n1 c1, .slice x2 n2 c2, .slice x3 n3 c3] t (0, 0)) from hO] at h3
    have h4 : (#[Value.slice x1 n1 c1, .slice x2 n2 c2, .slice x3 n3 c3] : Array Value)[o + k]? = some (.int .i64 (zat r k)) := h3
    match o + k, h4 with
    | 0, h4 => simp at h4
    | 1, h4 => simp at h4
    | 2, h4 => simp at h4
    | j + 3, h4 => simp at h4
  refine ⟨a, c, rfl, ⟨fun k hk => ?_, hl.room, hl.nil⟩, fun h0 => ?_⟩
  · obtain ⟨b, o, h1, h2, h3, h4⟩ := hne k hk
    exact ⟨b, o, h1, by rw [hs]; exact h2, (World.cell?_of_block (w := w) (a := ⟨b, o + k, none⟩) (he b h4)).trans h3⟩
  · obtain ⟨b, o, h1, cs, t', f, h2, h3⟩ := hn h0
    obtain ⟨b', o', g1, _, _, g4⟩ := hne 0 h0
    rw [h1] at g1
    cases g1
    exact ⟨b, o, h1, cs, t', f, (he b g4).trans h2, h3⟩
theorem OwnR.othF {base : Nat} {w w' : World} {O : Nat} {u : Value} {rs : List (List Int)} {x1 x2 x3 : Option Addr} {n1 n2 n3 c1 c2 c3 : Nat} (h : OwnR base w u rs) (hO : w.heap[O]? = some (.cells #[.slice x1 n1 c1, .slice x2 n2 c2, .slice x3 n3 c3] 40 (0, 0))) (hs : w'.heap.size = w.heap.size) (he : ∀ b, b ≠ O → w'.heap[b]? = w.heap[b]?) : OwnR base w' u rs := by
  obtain ⟨vals, h1, h2⟩ := h
  refine ⟨vals, ⟨h1.1, ?_⟩, fun j hj => ?_⟩
  · rcases h1.2 with hn | ⟨g, cap, cur, rfl, hb, hg, rest⟩
    · exact .inl hn
    · refine .inr ⟨g, cap, cur, rfl, hb, (he g ?_).trans hg, rest⟩
      rintro rfl
      rw [hO] at hg
      injection hg with hg
      injection hg with _ h3 _
      exact absurd h3 (by decide)
  · obtain ⟨x, h3, h4⟩ := h2 j hj
    exact ⟨x, h3, h4.othF hO hs he⟩
theorem OwnF.othF {base : Nat} {w w' : World} {O : Nat} {u : Value} {os : List OnZ} {x1 x2 x3 : Option Addr} {n1 n2 n3 c1 c2 c3 : Nat} (h : OwnF base w u os) (hO : w.heap[O]? = some (.cells #[.slice x1 n1 c1, .slice x2 n2 c2, .slice x3 n3 c3] 40 (0, 0))) (hs : w'.heap.size = w.heap.size) (he : ∀ b, b ≠ O → w'.heap[b]? = w.heap[b]?) : OwnF base w' u os := by
  obtain ⟨vals, h1, h2⟩ := h
  refine ⟨vals, ⟨h1.1, ?_⟩, fun j hj => ?_⟩
  · rcases h1.2 with hn | ⟨g, cap, cur, rfl, hb, hg, rest⟩
    · exact .inl hn
    · refine .inr ⟨g, cap, cur, rfl, hb, (he g ?_).trans hg, rest⟩
      rintro rfl
      rw [hO] at hg
      injection hg with hg
      injection hg with _ h3 _
      exact absurd h3 (by decide)
  · obtain ⟨vp, vr, vn, e1, e2, e3, e4, e5, e6⟩ := h2 j hj
    exact ⟨vp, vr, vn, e1, e2, e3, e4.othF hO hs he, e5.othF hO hs he, e6.othF hO hs he⟩

end Go.Proofs.YtgcjpddpolaofahGreat

namespace Go.Proofs.YtgcjpddpolaofahGreat
open Go.RowKit

/-- blocks of numbers and of lists stay -/
def KI (w w' : World) : Prop := w.heap.size ≤ w'.heap.size ∧ ∀ (b : Nat) (cs : Array Value) (t : TypeId) (f : Nat × Nat), w.heap[b]? = some (.cells cs t f) → (t = 3 ∨ t = 22) → w'.heap[b]? = w.heap[b]?
/-- and blocks of Openings -/
def KO (w w' : World) : Prop := KI w w' ∧ ∀ (b : Nat) (cs : Array Value) (f : Nat × Nat), w.heap[b]? = some (.cells cs 102 f) → w'.heap[b]? = w.heap[b]?
theorem KO.below {w w' : World} (e : Below w.heap.size w w') : KO w w' := ⟨⟨e.size, fun b _ _ _ h _ => e.block b (Array.getElem?_eq_some_iff.1 h).1⟩, fun b _ _ h => e.block b (Array.getElem?_eq_some_iff.1 h).1⟩
theorem KI.below {w w' : World} (e : Below w.heap.size w w') : KI w w' := (KO.below e).1
theorem KI.notO {w w' : World} (hs : w.heap.size ≤ w'.heap.size) (e : ∀ (b : Nat) (c : Array Value) (t : TypeId) (f : Nat × Nat), w.heap[b]? = some (.cells c t f) → t ≠ 102 → w'.heap[b]? = w.heap[b]?) : KI w w' :=
  ⟨hs, fun b cs t f h ht => e b cs t f h (by rcases ht with rfl | rfl <;> decide)⟩
/-- but one block, of another kind -/
theorem KI.oth {w w' : World} {O : Nat} {c : Array Value} {t : TypeId} {f : Nat × Nat} (hO : w.heap[O]? = some (.cells c t f)) (h1 : t ≠ 3) (h2 : t ≠ 22) (hs : w.heap.size ≤ w'.heap.size) (e : ∀ b, b < w.heap.size → b ≠ O → w'.heap[b]? = w.heap[b]?) : KI w w' :=
  ⟨hs, fun b cs t' f' h ht => e b (Array.getElem?_eq_some_iff.1 h).1 (by
    rintro rfl
    rw [hO] at h
    injection h with h
    injection h with _ h3 _
    subst h3
    rcases ht with ht | ht
    · exact h1 ht
    · exact h2 ht)⟩
theorem KO.oth {w w' : World} {O : Nat} {c : Array Value} {t : TypeId} {f : Nat × Nat} (hO : w.heap[O]? = some (.cells c t f)) (h1 : t ≠ 3) (h2 : t ≠ 22) (h3 : t ≠ 102) (hs : w.heap.size ≤ w'.heap.size) (e : ∀ b, b < w.heap.size → b ≠ O → w'.heap[b]? = w.heap[b]?) : KO w w' :=
  ⟨KI.oth hO h1 h2 hs e, fun b cs f' h => e b (Array.getElem?_eq_some_iff.1 h).1 (by
    rintro rfl
    rw [hO] at h
    injection h with h
    injection h with _ h4 _
    exact h3 h4)⟩
theorem KI.trans {a b c : World} (h : KI a b) (k : KI b c) : KI a c := ⟨Nat.le_trans h.1 k.1, fun g cs t f e ht => (k.2 g cs t f ((h.2 g cs t f e ht).trans e) ht).trans (h.2 g cs t f e ht)⟩
theorem KO.trans {a b c : World} (h : KO a b) (k : KO b c) : KO a c := ⟨h.1.trans k.1, fun g cs f e => (k.2 g cs f ((h.2 g cs f e).trans e)).trans (h.2 g cs f e)⟩

/-- a list in a block of numbers -/
def SlI (w : World) (r : List Int) (v : Value) : Prop := ∃ a c, v = .slice a r.length c ∧ NumL w a c r
theorem SlI.ki {w w' : World} {r : List Int} {v : Value} (h : SlI w r v) (k : KI w w') : SlI w' r v := by
  obtain ⟨a, c, h1, h2⟩ := h
  exact ⟨a, c, h1, h2.blocks k.1 (fun g cs f hg => k.2 g cs _ f hg (.inl rfl))⟩
theorem SlI.lst {w : World} {r : List Int} {v : Value} (h : SlI w r v) : ∃ a c, v = .slice a r.length c ∧ Lst w.heap.size w a c r := by obtain ⟨a, c, h1, h2, _⟩ := h; exact ⟨a, c, h1, h2⟩
theorem SlI.one {w : World} {r : List Int} {v : Value} (h : SlI w r v) : v.oneCell' = true := by obtain ⟨a, c, rfl, _⟩ := h; rfl
/-- rows -/
def OwnI (base : Nat) (w : World) (v : Value) (rs : List (List Int)) : Prop := ∃ vals : List Value, w.ownsRow base 22 1 v rs.length vals ∧ ∀ j, j < rs.length → ∃ u, vals[j]? = some u ∧ SlI w (rat rs j) u
theorem OwnI.ki {base : Nat} {w w' : World} {v : Value} {rs : List (List Int)} (h : OwnI base w v rs) (k : KI w w') : OwnI base w' v rs := by
  obtain ⟨vals, h1, h2⟩ := h
  refine ⟨vals, ⟨h1.1, ?_⟩, fun j hj => ?_⟩
  · rcases h1.2 with hn | ⟨g, cap, cur, rfl, hb, hg, rest⟩
    · exact .inl hn
    · exact .inr ⟨g, cap, cur, rfl, hb, (k.2 g _ _ _ hg (.inr rfl)).trans hg, rest⟩
  · obtain ⟨u, h3, h4⟩ := h2 j hj
    exact ⟨u, h3, h4.ki k⟩
theorem OwnI.nil (base : Nat) (w : World) : OwnI base w (.slice none 0 0) [] := ⟨[], World.ownsRow_nil _ _ _ _, fun j hj => by simp at hj⟩
theorem OwnI.mono {base base' : Nat} {w : World} {v : Value} {rs : List (List Int)} (h : OwnI base w v rs) (e : base' ≤ base) : OwnI base' w v rs := by
  obtain ⟨vals, h1, h2⟩ := h
  exact ⟨vals, World.ownsRow.mono h1 e, h2⟩
theorem OwnI.lst {base : Nat} {w : World} {v : Value} {rs : List (List Int)} (h : OwnI base w v rs) : ∃ a c, v = .slice a rs.length c ∧ LstR w.heap.size w a c rs := by
  obtain ⟨vals, h1, h2⟩ := h
  rcases h1.2 with ⟨rfl, h0⟩ | ⟨g, cap, cur, rfl, hb, hg, hn, hm, hs, ht⟩
  · exact ⟨none, 0, by rw [h0], fun k hk => by omega, by omega, fun _ => rfl⟩
  · refine ⟨some ⟨g, 0, none⟩, cap, rfl, fun k hk => ?_, hn, fun e => by cases e⟩
    obtain ⟨u, h3, h4⟩ := h2 k hk
    obtain ⟨a, c, rfl, hl⟩ := h4.lst
    refine ⟨g, 0, a, c, rfl, (Array.getElem?_eq_some_iff.1 hg).1, ?_, hl⟩
    rw [Nat.zero_add, h1.cellAt k (by omega), h3]
theorem OwnI.own {base : Nat} {w : World} {v : Value} {rs : List (List Int)} (h : OwnI base w v rs) : ∀ k, v.ownBlock = some k → base ≤ k ∧ ∃ c f, w.heap[k]? = some (.cells c 22 f) := fun k hk => by
  obtain ⟨vals, h1, _⟩ := h
  refine ⟨(h1.lt k hk).1, ?_⟩
  rcases h1.2 with ⟨rfl, _⟩ | ⟨g, cap, cur, rfl, hb, hg, _⟩
  · cases hk
  · cases hk
    exact ⟨_, _, hg⟩

/-- append(out, c) -/
theorem wpList_rowI {ops : Array Oper} {rest : List Oper} {o : Oper} {act : Act} {Q : Exit → Act → World → Prop} (W : World) (base : Nat) (hgd : o.guard = none) (s x : Operand)
    (ho : o.op = .call { callee := .builtin .append, args := #[s, x], argTypes := #[37, 37] }) (v u : Value) (rs : List (List Int)) (r : List Int)
    (hown : OwnI base W v rs) (hu : SlI W r u) (hs : act.eval s = v) (hx : act.eval x = .slice (some ⟨W.heap.size, 0, none⟩) 1 1) (hlen : rs.length + 1 ≤ 5864062014805) (hbase : base ≤ W.heap.size)
    (h : ∀ v' w2, OwnI base w2 v' (rs ++ [r]) → Below base W w2 → wpList Tryz.prog ops Q rest (act.put o.dst v') w2) :
    wpList Tryz.prog ops Q (o :: rest) act (W.alloc (.cells #[u] 22)) := by
  have hbw : Below W.heap.size W (W.alloc (.cells #[u] 22)) := (Below.refl _ _).alloc (Nat.le_refl _) _
  obtain ⟨i0, hi, hz0, hz1, hz2⟩ := info_parts Tryz.infoSl
  have hown1 := hown.ki (KI.below hbw)
  have hu1 := hu.ki (KI.below hbw)
  have howb := hown1.own
  obtain ⟨vals, h1, h2⟩ := hown1
  have hvl : vals.length = rs.length := by have := h1.1; omega
  refine wpList_append_own _ hgd s x 37 ho base 22 i0 (.slice none 0 0) 1 24 Tryz.underlying37 hi hz0 hz1 hz2 rfl (by decide) _ _ _ hs h1 ⟨W.heap.size, 0, none⟩ 1 1 [u] hx rfl ?_ ?_ (by unfold maxLen; omega) (by omega) (by simp; omega) ?_
  · intro j t hj
    match j, hj with
    | 0, hj => simp at hj; subst hj; simp [Addr.add]
  · intro t ht
    obtain rfl : t = u := by simpa using ht
    exact hu.one
  · intro v' w2 hown2 hgrow _
    have hK : ∀ (g : Nat) (cs : Array Value) (f : Nat × Nat), (W.alloc (.cells #[u] 22)).heap[g]? = some (.cells cs 3 f) → w2.heap[g]? = (W.alloc (.cells #[u] 22)).heap[g]? := fun g cs f hg => by
      refine hgrow.block g (Array.getElem?_eq_some_iff.1 hg).1 (fun e => ?_)
      obtain ⟨_, c, f', h3⟩ := howb g e.symm
      rw [hg] at h3
      injection h3 with h3
      injection h3 with _ h4 _
      exact absurd h4 (by decide)
    have hkS : ∀ {r : List Int} {v : Value}, SlI (W.alloc (.cells #[u] 22)) r v → SlI w2 r v := fun hh => by
      obtain ⟨a, c, e1, e2⟩ := hh
      exact ⟨a, c, e1, e2.blocks hgrow.size hK⟩
    refine h v' w2 ⟨vals ++ [u], by rw [List.length_append]; exact hown2, fun j hj => ?_⟩ ((hbw.mono hbase).trans ((Below.refl base _).grown hgrow (by simp; omega) (fun k hk => (howb k hk).1)))
    rw [List.length_append] at hj
    rw [rat_app rs [r] j]
    by_cases hjr : j < rs.length
    · rw [if_pos hjr, List.getElem?_append_left (by omega)]
      obtain ⟨u', e1, e2⟩ := h2 j hjr
      exact ⟨u', e1, hkS e2⟩
    · obtain rfl : j = rs.length := by simp at hj; omega
      rw [if_neg hjr, List.getElem?_append_right (by omega), hvl, Nat.sub_self]
      exact ⟨u, rfl, hkS hu1⟩

end Go.Proofs.YtgcjpddpolaofahGreat

namespace Go.Proofs.YtgcjpddpolaofahGreat
open Go.RowKit

/-- Openings of the call's own -/
def OwnK (base : Nat) (w : World) (v : Value) (os : List OnZ) : Prop := ∃ vals : List Value, w.ownsRow base 102 3 v os.length vals ∧ ∀ j, j < os.length → ∃ vp vr vn, vals[j * 3]? = some vp ∧ vals[j * 3 + 1]? = some vr ∧ vals[j * 3 + 2]? = some vn ∧ SlI w (onat os j).ps vp ∧ OwnI 0 w vr (onat os j).rows ∧ OwnI 0 w vn (onat os j).nodes
theorem OwnK.nil (base : Nat) (w : World) : OwnK base w (.slice none 0 0) [] := ⟨[], World.ownsRow_nil _ _ _ _, fun j hj => by simp at hj⟩
theorem OwnK.ko {base : Nat} {w w' : World} {v : Value} {os : List OnZ} (h : OwnK base w v os) (k : KO w w') : OwnK base w' v os := by
  obtain ⟨vals, h1, h2⟩ := h
  refine ⟨vals, ⟨h1.1, ?_⟩, fun j hj => ?_⟩
  · rcases h1.2 with hn | ⟨g, cap, cur, rfl, hb, hg, rest⟩
    · exact .inl hn
    · exact .inr ⟨g, cap, cur, rfl, hb, (k.2 g _ _ hg).trans hg, rest⟩
  · obtain ⟨vp, vr, vn, e1, e2, e3, e4, e5, e6⟩ := h2 j hj
    exact ⟨vp, vr, vn, e1, e2, e3, e4.ki k.1, e5.ki k.1, e6.ki k.1⟩
theorem OwnK.lst {base : Nat} {w : World} {v : Value} {os : List OnZ} (h : OwnK base w v os) : ∃ a c, v = .slice a os.length c ∧ LstF w.heap.size w a c os := by
  obtain ⟨vals, h1, h2⟩ := h
  rcases h1.2 with ⟨rfl, h0⟩ | ⟨g, cap, cur, rfl, hb, hg, hn, hm, hs, ht⟩
  · exact ⟨none, 0, by rw [h0], fun k hk => by omega, by omega, fun _ => rfl⟩
  · refine ⟨some ⟨g, 0, none⟩, cap, rfl, fun k hk => ?_, hn, fun e => by cases e⟩
    obtain ⟨vp, vr, vn, e1, e2, e3, e4, e5, e6⟩ := h2 k hk
    obtain ⟨ap, cp, rfl, l1⟩ := e4.lst
    obtain ⟨ar, cr, rfl, l2⟩ := e5.lst
    obtain ⟨an', cn, rfl, l3⟩ := e6.lst
    have hc : ∀ j u, vals[j]? = some u → w.cell? ⟨g, 0 + j, none⟩ = some u := fun j u hu => by
      have := h1.cells (g := g) rfl j u hu
      have hadd : (⟨g, 0, none⟩ : Addr).add j = ⟨g, 0 + j, none⟩ := by unfold Addr.add; split <;> simp_all
      rw [hadd] at this
      exact this
    exact ⟨g, 0, ap, cp, ar, cr, an', cn, rfl, (Array.getElem?_eq_some_iff.1 hg).1, hc _ _ e1, by rw [Nat.add_assoc]; exact hc _ _ e2, by rw [Nat.add_assoc]; exact hc _ _ e3, l1, l2, l3⟩

theorem OwnK.mono {base base' : Nat} {w : World} {v : Value} {os : List OnZ} (h : OwnK base w v os) (e : base' ≤ base) : OwnK base' w v os := by
  obtain ⟨vals, h1, h2⟩ := h
  exact ⟨vals, World.ownsRow.mono h1 e, h2⟩

/-- append(out.Opens, x) -/
theorem wpList_onI {ops : Array Oper} {rest : List Oper} {o : Oper} {act : Act} {Q : Exit → Act → World → Prop} (W : World) (base : Nat) (hgd : o.guard = none) (s x : Operand)
    (ho : o.op = .call { callee := .builtin .append, args := #[s, x], argTypes := #[38, 38] }) (v vp vr vn : Value) (os : List OnZ) (z : OnZ)
    (hown : OwnK base W v os) (h1 : SlI W z.ps vp) (h2 : OwnI 0 W vr z.rows) (h3 : OwnI 0 W vn z.nodes) (hs : act.eval s = v) (hx : act.eval x = .slice (some ⟨W.heap.size, 0, none⟩) 1 1) (hlen : (os.length + 1) * 72 ≤ 140737488355328) (hbase : base ≤ W.heap.size)
    (h : ∀ v' w2, OwnK base w2 v' (os ++ [z]) → Below base W w2 → W.heap.size ≤ w2.heap.size → (∀ (b : Nat) (c : Array Value) (t : TypeId) (f : Nat × Nat), W.heap[b]? = some (.cells c t f) → t ≠ 102 → w2.heap[b]? = W.heap[b]?) → wpList Tryz.prog ops Q rest (act.put o.dst v') w2) :
    wpList Tryz.prog ops Q (o :: rest) act (W.alloc (.cells #[vp, vr, vn] 102)) := by
  obtain ⟨i0, hi, hz0, hz1, hz2⟩ := info_parts Tryz.infoOn
  have hbw : Below W.heap.size W (W.alloc (.cells #[vp, vr, vn] 102)) := (Below.refl _ _).alloc (Nat.le_refl _) _
  obtain ⟨vals, g1, g2⟩ := hown.ko (KO.below hbw)
  have hvl := g1.1
  refine wpList_append_own _ hgd s x 38 ho base 102 i0 _ 3 72 Tryz.underlying38 hi hz0 hz1 hz2 rfl (by decide) v _ _ hs g1 ⟨W.heap.size, 0, none⟩ 1 1 [vp, vr, vn] hx rfl ?_ ?_ (by unfold maxLen; omega) hlen (by simp; omega) ?_
  · intro j u hj
    match j, hj with
    | 0, hj => simp at hj; subst hj; simp [Addr.add]
    | 1, hj => simp at hj; subst hj; simp [Addr.add]
    | 2, hj => simp at hj; subst hj; simp [Addr.add]
  · intro u hu
    simp at hu
    rcases hu with rfl | rfl | rfl
    · exact h1.one
    · obtain ⟨a, c, rfl, _⟩ := h2.lst; rfl
    · obtain ⟨a, c, rfl, _⟩ := h3.lst; rfl
  · intro v' w2 hown2 hgrow _
    have hsz : W.heap.size ≤ w2.heap.size := by have := hgrow.size; simp at this; omega
    have hns : ∀ (b : Nat) (c : Array Value) (t : TypeId) (f : Nat × Nat), (W.alloc (.cells #[vp, vr, vn] 102)).heap[b]? = some (.cells c t f) → t ≠ 102 → w2.heap[b]? = (W.alloc (.cells #[vp, vr, vn] 102)).heap[b]? := fun b c t f hb ht => by
      refine hgrow.block b (Array.getElem?_eq_some_iff.1 hb).1 (fun e => ?_)
      rcases g1.2 with ⟨rfl, _⟩ | ⟨g, cap, cur, rfl, _, hg, _⟩
      · cases e
      · simp [Value.ownBlock] at e
        subst e
        rw [hb] at hg
        injection hg with hg
        injection hg with _ h5 _
        exact ht h5
    have hszw : (W.alloc (.cells #[vp, vr, vn] 102)).heap.size ≤ w2.heap.size := hgrow.size
    have hKI := KI.notO hszw hns
    refine h v' w2 ⟨vals ++ [vp, vr, vn], by rw [List.length_append]; exact hown2, fun j hj => ?_⟩ ((hbw.mono hbase).trans ((Below.refl base _).grown hgrow (by simp; omega) (fun k hk => (g1.lt k hk).1))) hsz (fun b c t f hb ht => ?_)
    · rw [List.length_append] at hj
      by_cases hjr : j < os.length
      · obtain ⟨up, ur, un, e1, e2, e3, e4, e5, e6⟩ := g2 j hjr
        have hon : onat (os ++ [z]) j = onat os j := by simp [onat, List.getElem?_append_left hjr]
        rw [hon]
        exact ⟨up, ur, un, by rw [List.getElem?_append_left (by omega)]; exact e1, by rw [List.getElem?_append_left (by omega)]; exact e2, by rw [List.getElem?_append_left (by omega)]; exact e3, e4.ki hKI, e5.ki hKI, e6.ki hKI⟩
      · obtain rfl : j = os.length := by simp at hj; omega
        have hon : onat (os ++ [z]) os.length = z := by simp [onat]
        rw [hon]
        refine ⟨vp, vr, vn, ?_, ?_, ?_, (h1.ki (KI.below hbw)).ki hKI, (h2.ki (KI.below hbw)).ki hKI, (h3.ki (KI.below hbw)).ki hKI⟩
        · rw [List.getElem?_append_right (by omega), hvl, Nat.sub_self]; rfl
        · rw [List.getElem?_append_right (by omega), hvl, show os.length * 3 + 1 - os.length * 3 = 1 from by omega]; rfl
        · rw [List.getElem?_append_right (by omega), hvl, show os.length * 3 + 2 - os.length * 3 = 2 from by omega]; rfl
    · have e := hbw.block b (Array.getElem?_eq_some_iff.1 hb).1
      exact (hns b c t f (e.trans hb) ht).trans e


/-- a store into a Folded -/
theorem KO.setF {w : World} {O : Nat} {c : Array Value} (hO : w.heap[O]? = some (.cells c 40 (0, 0))) (i : Nat) (v : Value) : KO w (w.setCell ⟨O, i, none⟩ v) :=
  KO.oth hO (by decide) (by decide) (by decide) (by simp [World.setCell]) (fun b _ hb => Below.heap_setCell _ _ _ _ hb)
theorem KI.setF {w : World} {O : Nat} {c : Array Value} (hO : w.heap[O]? = some (.cells c 40 (0, 0))) (i : Nat) (v : Value) : KI w (w.setCell ⟨O, i, none⟩ v) := (KO.setF hO i v).1

end Go.Proofs.YtgcjpddpolaofahGreat
