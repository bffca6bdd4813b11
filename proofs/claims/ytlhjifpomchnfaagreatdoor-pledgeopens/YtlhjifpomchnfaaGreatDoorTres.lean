
import Derived.Test.YtlhjifpomchnfaaGreatDoorRefs
import Derived.Test.YtlhjifpomchnfaaGreatDoorSpgs
import Derived.Deep.Onto
import Derived.OneCell
import Derived.Test.YtlhjifpomchnfaaGreatDoorPoAA
import Derived.StillTailTactics
set_option maxRecDepth 1000000
set_option maxHeartbeats 8000000
namespace Go.Proofs.YtlhjifpomchnfaaGreatDoor
open Go.RowKit
def NotRow (w : World) (b : Nat) : Prop := ∃ c t f, w.heap[b]? = some (.cells c t f) /\ t ≠ 22 /\ t ≠ 31 /\ t ≠ 84 /\ t ≠ 52 /\ t ≠ 29 /\ t ≠ 431
def SlR (w : World) (r : List Int) (v : Value) : Prop := ∃ a c, v = .slice a r.length c /\ Lst w.heap.size w a c r /\ (0 < r.length -> ∃ b o, a = some ⟨b, o, none⟩ /\ NotRow w b)
theorem SlR.blocks {w w' : World} {r : List Int} {v : Value} (h : SlR w r v) (hs : w.heap.size <= w'.heap.size) (e : ∀ b, b < w.heap.size -> NotRow w b -> w'.heap[b]? = w.heap[b]?) : SlR w' r v := by
 obtain ⟨a, c, rfl, hl, hn⟩ := h
 refine ⟨a, c, rfl, ⟨fun k hk => ?_, hl.room, hl.nil⟩, fun h0 => ?_⟩
 ·obtain ⟨b, o, rfl, h2, h3⟩ := hl.row k hk
  obtain ⟨b', o', e1, hb⟩ := hn (by omega)
  cases e1
  exact ⟨b, o, rfl, by omega, (World.cell?_of_block (w := w) (a := ⟨b, o + k, none⟩) (e b h2 hb)).trans h3⟩
 ·obtain ⟨b, o, rfl, hb⟩ := hn h0
  obtain ⟨b', o', e1, h2, _⟩ := hl.row 0 h0
  cases e1
  obtain ⟨c', t, f, h3, h4⟩ := hb
  exact ⟨b, o, rfl, c', t, f, (e b h2 ⟨c', t, f, h3, h4⟩).trans h3, h4⟩
theorem SlR.keep {w w' : World} {r : List Int} {v : Value} (h : SlR w r v) (e : Below w.heap.size w w') : SlR w' r v := h.blocks e.size (fun b hb _ => e.block b hb)
theorem SlR.one {w : World} {r : List Int} {v : Value} (h : SlR w r v) : v.oneCell' = true := by obtain ⟨a, c, rfl, _⟩ := h; rfl
theorem SlR.lst {w : World} {r : List Int} {v : Value} (h : SlR w r v) : ∃ a c, v = .slice a r.length c /\ Lst w.heap.size w a c r := by obtain ⟨a, c, h1, h2, _⟩ := h; exact ⟨a, c, h1, h2⟩
theorem slr_of_owns {w : World} {base : Nat} {v : Value} {zs : List Int} (h : w.ownsRow base 3 1 v zs.length (zs.map (Value.int .i64))) : SlR w zs v := by
 obtain ⟨a, c, rfl, hl⟩ := lst_of_owns h
 refine ⟨a, c, rfl, hl, fun h0 => ?_⟩
 rcases h.2 with ⟨_, h1⟩ | ⟨g, cap, cur, hv, _, hg, _⟩
 ·omega
 ·injection hv with e1 _ _
  exact ⟨g, 0, e1, cur, 3, (0, 0), hg, by decide, by decide, by decide, by decide, by decide, by decide⟩
def OwnR (base : Nat) (w : World) (v : Value) (rs : List (List Int)) : Prop := ∃ vals : List Value, w.ownsRow base 22 1 v rs.length vals /\ ∀ j, j < rs.length -> ∃ u, vals[j]? = some u /\ SlR w (rat rs j) u
theorem gb_of_below {w w' : World} (e : Below w.heap.size w w') : w.grownBy w' none := ⟨e.os, e.tape, e.output, e.size, fun k hk _ => e.block k hk⟩
theorem OwnR.keep {base : Nat} {w w' : World} {v : Value} {rs : List (List Int)} (h : OwnR base w v rs) (e : Below w.heap.size w w') : OwnR base w' v rs := by
 obtain ⟨vals, h1, h2⟩ := h
 refine ⟨vals, h1.kept (gb_of_below e) ?_, fun j hj => ?_⟩
 ·cases v.ownBlock with
  | none => exact .inl rfl
  | some k => exact .inr (by simp)
 ·obtain ⟨u, h3, h4⟩ := h2 j hj
  exact ⟨u, h3, h4.keep e⟩
theorem OwnR.nil (base : Nat) (w : World) : OwnR base w (.slice none 0 0) [] := ⟨[], World.ownsRow_nil _ _ _ _, fun j hj => by simp at hj⟩
theorem OwnR.lst {base : Nat} {w : World} {v : Value} {rs : List (List Int)} (h : OwnR base w v rs) : ∃ a c, v = .slice a rs.length c /\ LstR w.heap.size w a c rs := by
 obtain ⟨vals, h1, h2⟩ := h
 rcases h1.2 with ⟨rfl, h0⟩ | ⟨g, cap, cur, rfl, hb, hg, hn, hm, hs, ht⟩
 ·exact ⟨none, 0, by rw [h0], fun k hk => by omega, by omega, fun _ => rfl⟩
 ·refine ⟨some ⟨g, 0, none⟩, cap, rfl, fun k hk => ?_, hn, fun e => by cases e⟩
  obtain ⟨u, h3, h4⟩ := h2 k hk
  obtain ⟨a, c, rfl, hl⟩ := h4.lst
  refine ⟨g, 0, a, c, rfl, (Array.getElem?_eq_some_iff.1 hg).1, ?_, hl⟩
  rw [Nat.zero_add, h1.cellAt k (by omega), h3]
theorem OwnR.mono {base base' : Nat} {w : World} {v : Value} {rs : List (List Int)} (h : OwnR base w v rs) (e : base' <= base) : OwnR base' w v rs := by
 obtain ⟨vals, h1, h2⟩ := h
 exact ⟨vals, World.ownsRow.mono h1 e, h2⟩
theorem OwnR.own {base : Nat} {w : World} {v : Value} {rs : List (List Int)} (h : OwnR base w v rs) : ∀ k, v.ownBlock = some k -> base <= k /\ k < w.heap.size /\ ¬ NotRow w k := fun k hk => by
 obtain ⟨vals, h1, _⟩ := h
 refine ⟨(h1.lt k hk).1, (h1.lt k hk).2, ?_⟩
 rintro ⟨c, t, f, h3, h4⟩
 rcases h1.2 with ⟨rfl, _⟩ | ⟨g, cap, cur, rfl, hb, hg, _⟩
 ·cases hk
 ·cases hk
  rw [hg] at h3
  cases h3
  exact h4.1 rfl
theorem blk_setO {w : World} {O i : Nat} {v : Value} {b : Nat} (hO : ∃ c f, w.heap[O]? = some (.cells c 31 f)) (hb : NotRow w b) : (w.setCell ⟨O, i, none⟩ v).heap[b]? = w.heap[b]? := by
 refine Below.heap_setCell _ _ _ _ ?_
 rintro rfl
 obtain ⟨c, f, h1⟩ := hO
 obtain ⟨c', t, f', h2, h3⟩ := hb
 rw [h1] at h2
 cases h2
 exact h3.2.1 rfl
theorem SlR.setO {w : World} {O i : Nat} {v u : Value} {r : List Int} (h : SlR w r u) (hO : ∃ c f, w.heap[O]? = some (.cells c 31 f)) : SlR (w.setCell ⟨O, i, none⟩ v) r u :=
 h.blocks (by simp [World.setCell]) (fun _ _ hb => blk_setO hO hb)
theorem OwnR.setO {base : Nat} {w : World} {O i : Nat} {v u : Value} {rs : List (List Int)} (h : OwnR base w u rs) (hO : ∃ c f, w.heap[O]? = some (.cells c 31 f)) : OwnR base (w.setCell ⟨O, i, none⟩ v) u rs := by
 obtain ⟨vals, h1, h2⟩ := h
 refine ⟨vals, ?_, fun j hj => ?_⟩
 ·refine ownsRow_setCell_other h1 (fun e => ?_) v
  rcases h1.2 with ⟨rfl, _⟩ | ⟨g, cap, cur, rfl, _, hg, _⟩
  ·cases e
  ·cases e
   obtain ⟨c, f, h3⟩ := hO
   rw [hg] at h3
   injection h3 with h3
   injection h3 with _ h3 _
   exact absurd h3 (by decide)
 ·obtain ⟨x, h3, h4⟩ := h2 j hj
  exact ⟨x, h3, h4.setO hO⟩
theorem rat_app (rs ts : List (List Int)) (j : Nat) : rat (rs ++ ts) j = if j < rs.length then rat rs j else rat ts (j - rs.length) := by
 unfold rat
 by_cases h : j < rs.length
 ·rw [if_pos h]; simp [List.getElem?_append_left h]
 ·rw [if_neg h]; simp [List.getElem?_append_right (show rs.length <= j by omega)]
theorem wpList_rows {ops : Array Oper} {rest : List Oper} {o : Oper} {act : Act} {Q : Exit -> Act -> World -> Prop} (W : World) (base : Nat) (hgd : o.guard = none) (s x : Operand)
  (ho : o.op = .call { callee := .builtin .append, args := #[s, x], argTypes := #[29, 29] }) (v : Value) (rs ts : List (List Int))
  (hown : OwnR base W v rs) (hs : act.eval s = v) (ad : Addr) (m cap : Nat) (hm : m = ts.length) (hx : act.eval x = .slice (some ad) m cap) (us : List Value) (hul : us.length = ts.length) (huc : ∀ j u, us[j]? = some u -> W.cell? (ad.add j) = some u)
  (hus : ∀ j, j < ts.length -> ∃ u, us[j]? = some u /\ SlR W (rat ts j) u) (hlen : rs.length + ts.length <= 5864062014805) (hbase : base <= W.heap.size)
  (h : ∀ v' w2, OwnR base w2 v' (rs ++ ts) -> Below base W w2 -> (∀ b, b < W.heap.size -> NotRow W b -> w2.heap[b]? = W.heap[b]?) -> wpList Tryz.prog ops Q rest (act.put o.dst v') w2) :
  wpList Tryz.prog ops Q (o :: rest) act W := by
 subst hm
 obtain ⟨i0, hi, hz0, hz1, hz2⟩ := info_parts Tryz.infoSl
 have howb := hown.own
 obtain ⟨vals, h1, h2⟩ := hown
 have hvl : vals.length = rs.length := by have := h1.1; omega
 refine wpList_append_own _ hgd s x 29 ho base 22 i0 (.slice none 0 0) 1 24 Tryz.underlying29 hi hz0 hz1 hz2 rfl (by decide) _ _ _ hs h1 ad ts.length cap us hx (by omega) huc ?_ (by unfold maxLen; omega) (by omega) hbase ?_
 ·intro t ht
  obtain ⟨j, hj, rfl⟩ := List.getElem_of_mem ht
  obtain ⟨u, e1, e2⟩ := hus j (by omega)
  rw [List.getElem?_eq_getElem hj] at e1
  cases e1
  exact e2.one
 ·intro v' w2 hown2 hgrow _
  have hB : Below base W w2 := (Below.refl base W).grown hgrow hbase (fun k hk => (howb k hk).1)
  have hN : ∀ b, b < W.heap.size -> NotRow W b -> w2.heap[b]? = W.heap[b]? := fun b hb hn => hgrow.block b hb (fun e => (howb b e.symm).2.2 hn)
  refine h v' w2 ⟨vals ++ us, by rw [List.length_append]; exact hown2, fun j hj => ?_⟩ hB hN
  rw [List.length_append] at hj
  rw [rat_app rs ts j]
  by_cases hjr : j < rs.length
  ·rw [if_pos hjr, List.getElem?_append_left (by omega)]
   obtain ⟨u, e1, e2⟩ := h2 j hjr
   exact ⟨u, e1, e2.blocks hgrow.size hN⟩
  ·rw [if_neg hjr, List.getElem?_append_right (by omega), hvl]
   obtain ⟨u, e1, e2⟩ := hus (j - rs.length) (by omega)
   exact ⟨u, e1, e2.blocks hgrow.size hN⟩
theorem wpList_row1 {ops : Array Oper} {rest : List Oper} {o : Oper} {act : Act} {Q : Exit -> Act -> World -> Prop} (W : World) (base : Nat) (hgd : o.guard = none) (s x : Operand)
  (ho : o.op = .call { callee := .builtin .append, args := #[s, x], argTypes := #[29, 29] }) (v u : Value) (rs : List (List Int)) (r : List Int)
  (hown : OwnR base W v rs) (hu : SlR W r u) (hs : act.eval s = v) (hx : act.eval x = .slice (some ⟨W.heap.size, 0, none⟩) 1 1) (hlen : rs.length + 1 <= 5864062014805) (hbase : base <= W.heap.size)
  (h : ∀ v' w2, OwnR base w2 v' (rs ++ [r]) -> Below base W w2 -> (∀ b, b < W.heap.size -> NotRow W b -> w2.heap[b]? = W.heap[b]?) -> wpList Tryz.prog ops Q rest (act.put o.dst v') w2) :
  wpList Tryz.prog ops Q (o :: rest) act (W.alloc (.cells #[u] 22)) := by
 have hbw : Below W.heap.size W (W.alloc (.cells #[u] 22)) := (Below.refl _ _).alloc (Nat.le_refl _) _
 refine wpList_rows (W.alloc (.cells #[u] 22)) base hgd s x ho v rs [r] (hown.keep hbw) hs ⟨W.heap.size, 0, none⟩ 1 1 rfl hx [u] rfl ?_ ?_ hlen (by simp; omega) ?_
 ·intro j t hj
  match j, hj with
  | 0, hj => simp at hj; subst hj; simp [Addr.add]
 ·intro j hj
  obtain rfl : j = 0 := by simp at hj; exact hj
  exact ⟨u, rfl, hu.keep hbw⟩
 ·intro v' w2 h1 h2 h3
  refine h v' w2 h1 ((hbw.mono hbase).trans h2) (fun b hb hn => ?_)
  have e := hbw.block b hb
  obtain ⟨c, t, f, h4, h5⟩ := hn
  exact (h3 b (by simp; omega) ⟨c, t, f, e.trans h4, h5⟩).trans e
theorem take_succ_rat {rows : List (List Int)} {k : Nat} (h : k < rows.length) : rows.take (k + 1) = rows.take k ++ [rat rows k] := by
 rw [List.take_add_one, List.getElem?_eq_getElem h]
 simp [rat, h]
theorem take_eq_rows {as' bs : List (List Int)} {k : Nat} (ha : k < as'.length) (hb : k < bs.length) (h : as'.take k = bs.take k) (e : rat as' k = rat bs k) : as'.take (k + 1) = bs.take (k + 1) := by
 rw [take_succ_rat ha, take_succ_rat hb, h, e]
theorem srows_any (c1 c2 : Nat) (a1 a2 : Option Addr) (xs ys : List (List Int)) (n1 n2 : Nat) (w : World) (hx : xs.length <= 9223372036854775807) (_hy : ys.length <= 9223372036854775807) (hfx : ∀ k, k < xs.length -> (rat xs k).length <= 9223372036854775807) (hfy : ∀ k, k < ys.length -> (rat ys k).length <= 9223372036854775807)
  (hl1 : LstR n1 w a1 c1 xs) (hl2 : LstR n2 w a2 c2 ys) :
  Calls Tryz.prog 91 #[.slice a1 xs.length c1, .slice a2 ys.length c2] w fun e w' => e = .returned (.bool (decide (xs = ys))) /\ ∃ n, w' = w.drewN n := by
 have HL1 := hid hl1
 have HL2 := hid hl2
 have HFX := hid hfx
 have HFY := hid hfy
 clear hl1 hl2 hfx hfy
 by_cases hl : xs.length = ys.length
 ·have HL := hid hl
  rw [<- hl]
  clear hl
  go_enter Tryz.func91, Tryz.ntmps91
  go_wp2_with fail
  go_loopw [5] (fun i wr => ∃ k n : Nat, k <= xs.length /\ i = .int .i64 k /\ Hid (xs.take k = ys.take k) /\ Hid (wr = w.drewN n)) (fun i _ => xs.length - (intOf i).toNat)
  case atStart => exact ⟨0, 0, Nat.zero_le _, rfl, hid rfl, rfl⟩
  case round =>
   obtain ⟨k, n, hk, rfl, hT, hw⟩ := hrel
   by_cases hlt : k < xs.length
   ·have hlt2 : (k : Int) < (xs.length : Int) := by omega
    have hkw : IntKind.i64.wrap ((k : Int) + 1) = (k : Int) + 1 := by rw [IntKind.wrap_i64]; omega
    have hlty : k < ys.length := by have := HL.out; omega
    obtain ⟨b1, o1, ak, ck, rfl, _, hc1, hr1⟩ := HL1.out.row k hlt
    obtain ⟨b2, o2, bk, dk, rfl, _, hc2, hr2⟩ := HL2.out.row k hlty
    have hd1 : wr.cell? ⟨b1, o1 + k, none⟩ = some (.slice ak (rat xs k).length ck) := by rw [hw.out]; exact hc1
    have hd2 : wr.cell? ⟨b2, o2 + k, none⟩ = some (.slice bk (rat ys k).length dk) := by rw [hw.out]; exact hc2
    have HI : Hid (∀ m : Nat, Calls Tryz.prog 16 #[.slice ak (rat xs k).length ck, .slice bk (rat ys k).length dk] (wr.drewN m) fun e w' => e = .returned (.bool (decide (rat xs k = rat ys k))) /\ ∃ n, w' = (wr.drewN m).drewN n) := fun m => by
     have e : wr.drewN m = w.drewN (n + m) := by rw [hw.out]; simp [World.drewN, Nat.add_assoc]
     refine ints_any (rat xs k) (rat ys k) _ _ (wr.drewN m) (rowZ_of_B ck (n0 := n1) ?_) (rowZ_of_B dk (n0 := n2) ?_) (HFX.out k hlt) (HFY.out k hlty)
     ·rw [e]; exact hr1.row
     ·rw [e]; exact hr2.row
    have HS := hid (fun h => take_eq_rows hlt hlty hT.out h)
    have HNE : Hid (rat xs k ≠ rat ys k -> ¬ xs = ys) := fun h e => h (by rw [e])
    have HDN : Hid (∀ m : Nat, ∃ n, wr.drewN m = w.drewN n) := fun m => ⟨n + m, by rw [hw.out]; simp [World.drewN, Nat.add_assoc]⟩
    clear hc1 hc2 hr1 hr2 hT hw
    by_cases hxy : rat xs k = rat ys k
    ·have HS2 := hid (HS.out hxy)
     rw [decide_eq_true hxy] at HI
     clear hxy HS HNE HL1 HL2 HFX HFY
     generalize (rat xs k).length = l1 at *
     generalize (rat ys k).length = l2 at *
     go_wp2_with fail
     go_quiet (first
      | (go_at_call 16; exact Calls.quiet_of (HI.out _)))
     go_wp2_with fail
     obtain ⟨n', hn'⟩ := HDN.out nq
     go_roundw
     case rel => exact ⟨k + 1, n', by omega, by go_num, HS2, hn'⟩
     case measure => simp [intOf]; omega
    ·have HE := hid (HNE.out hxy)
     rw [decide_eq_false hxy] at HI
     clear hxy HS HNE HL1 HL2 HFX HFY
     generalize (rat xs k).length = l1 at *
     generalize (rat ys k).length = l2 at *
     go_wp2_with fail
     go_quiet (first
      | (go_at_call 16; exact Calls.quiet_of (HI.out _)))
     go_wp2_with fail
     go_ret
     obtain ⟨n', hn'⟩ := HDN.out nq
     exact ⟨ret_bool (decide_eq_false HE.out).symm, n', hn'⟩
   ·obtain rfl : k = xs.length := by omega
    have HE : Hid (xs = ys) := by
     have := hT.out
     rw [List.take_length, HL.out, List.take_length] at this
     exact this
    clear hT
    go_wp2_with fail
    go_ret
    exact ⟨ret_bool (decide_eq_true HE.out).symm, n, hw.out⟩
 ·have hne : ((xs.length : Int) != (ys.length : Int)) = true := by rw [bne_iff_ne]; omega
  have HE : Hid (¬ xs = ys) := fun e => hl (by rw [e])
  clear hl HL1 HL2 HFX HFY
  go_enter Tryz.func91, Tryz.ntmps91
  go_wp2_with fail
  go_ret
  exact ⟨ret_bool (decide_eq_false HE.out).symm, 0, rfl⟩
theorem LstD.slr {w : World} {g N : Nat} {l : List Int} (h : LstD w g N l) : SlR w l (.slice (some ⟨g, 0, none⟩) l.length N) := by
 obtain ⟨h1, c, f, h2⟩ := h
 exact ⟨_, _, rfl, h1, fun _ => ⟨g, 0, rfl, c, 3, f, h2, by decide, by decide, by decide, by decide, by decide, by decide⟩⟩
theorem own_one {w : World} {r : List Int} {u : Value} (h : SlR w r u) : OwnR w.heap.size (w.alloc (.cells #[u] 22)) (.slice (some ⟨w.heap.size, 0, none⟩) 1 1) [r] := by
 have hb : Below w.heap.size w (w.alloc (.cells #[u] 22)) := (Below.refl _ _).alloc (Nat.le_refl _) _
 refine ⟨[u], ⟨by simp, .inr ⟨w.heap.size, 1, #[u], rfl, Nat.le_refl _, heap_alloc_new w _, Nat.le_refl _, by unfold maxLen; omega, rfl, by simp⟩⟩, fun j hj => ?_⟩
 obtain rfl : j = 0 := by simp at hj; exact hj
 exact ⟨u, rfl, h.keep hb⟩
theorem wpList_rowsR {ops : Array Oper} {rest : List Oper} {o : Oper} {act : Act} {Q : Exit -> Act -> World -> Prop} (W : World) (base base2 : Nat) (hgd : o.guard = none) (s x : Operand)
  (ho : o.op = .call { callee := .builtin .append, args := #[s, x], argTypes := #[29, 29] }) (v vb : Value) (rs ts : List (List Int))
  (hown : OwnR base W v rs) (hob : OwnR base2 W vb ts) (hs : act.eval s = v) (hx : act.eval x = vb) (hlen : rs.length + ts.length <= 5864062014805) (hbase : base <= W.heap.size)
  (h : ∀ v' w2, OwnR base w2 v' (rs ++ ts) -> Below base W w2 -> wpList Tryz.prog ops Q rest (act.put o.dst v') w2) :
  wpList Tryz.prog ops Q (o :: rest) act W := by
 obtain ⟨i0, hi, hz0, hz1, hz2⟩ := info_parts Tryz.infoSl
 have hob' := hob
 obtain ⟨us, h1, h2⟩ := hob
 rcases h1.2 with ⟨rfl, h0⟩ | ⟨g, cap, cur, rfl, hb, hg, hn, hm, hsz, ht⟩
 ·obtain rfl : ts = [] := List.length_eq_zero_iff.1 h0
  have hown' := hown
  obtain ⟨vals, h3, _⟩ := hown
  refine wpList_append_own_none hgd s x 29 ho base 22 i0 1 Tryz.underlying29 hi _ _ _ hs h3 hx ?_
  rw [List.append_nil] at h
  exact h v W hown' (Below.refl _ _)
 ·refine wpList_rows W base hgd s x ho v rs ts hown hs ⟨g, 0, none⟩ ts.length cap rfl hx us (by have := h1.1; omega) (fun j u hu => ?_) h2 hlen hbase (fun v' w2 k1 k2 _ => h v' w2 k1 k2)
  have hj : j < ts.length := by
   have := (List.getElem?_eq_some_iff.1 hu).1
   have := h1.1
   omega
  have hadd : (⟨g, 0, none⟩ : Addr).add j = ⟨g, j, none⟩ := by unfold Addr.add; split <;> simp_all
  rw [hadd, h1.cellAt j (by omega), hu]
def ndf (q n : Nat) : Nat -> List (List Int) -> List Int -> Int -> List (List Int)
 | 0, _, _, _ => []
 | k + 1, rows, ps, first => if smb ps first (first + (rows.length : Int)) = false then [rtf q n (k + 1) rows] else if rows.length = 1 then [] else
  ndf q n k (rows.take (lft rows.length)) ps first ++ ndf q n k (rows.drop (lft rows.length)) ps (first + ((lft rows.length : Nat) : Int))
theorem ndf_len (q n : Nat) : ∀ (k : Nat) (rows : List (List Int)) (ps : List Int) (first : Int), 1 <= rows.length -> (ndf q n k rows ps first).length <= rows.length
 | 0, _, _, _, _ => by simp [ndf]
 | k + 1, rows, ps, first, h => by
  simp only [ndf]
  split
  ·simpa using h
  ·split
   ·simp
   ·rename_i h1
    obtain ⟨_, l2, l3⟩ := lft_spec rows.length
    have l3' := l3 (by omega)
    have a1 := ndf_len q n k (rows.take (lft rows.length)) ps first (by rw [List.length_take]; omega)
    have a2 := ndf_len q n k (rows.drop (lft rows.length)) ps (first + ((lft rows.length : Nat) : Int)) (by rw [List.length_drop]; omega)
    rw [List.length_take] at a1
    rw [List.length_drop] at a2
    rw [List.length_append]
    omega
theorem rnodes_any (q n : Nat) (h5 : 5 <= q) (h4 : q <= 2147483647) (hpn : Spo.PowIs q n) (cp : Nat) (ap : Option Addr) (ps : List Int) (hps : ps.length <= 281474976710656) : ∀ (k cap : Nat) (a : Option Addr) (rows : List (List Int)) (first : Int) (w : World), 1 <= rows.length -> rows.length <= k -> rows.length <= 65536 -> 0 <= first -> first + (rows.length : Int) <= 1000000000 -> FitsR rows -> LstR w.heap.size w a cap rows -> RowB w.heap.size w ap ps ->
  Calls Tryz.prog 103 #[.int .i64 q, .slice a rows.length cap, .slice ap ps.length cp, .int .i64 first] w fun e w' => ∃ v, e = .returned v /\ OwnR w.heap.size w' v (ndf q n k rows ps first) /\ Below w.heap.size w w'
 | 0, _, _, rows, _, _, h1, h2, _, _, _, _, _, _ => by omega
 | k + 1, cap, a, rows, first, w, h1, h2, hmx, hf0, hf1, hfit, hl, hrp => by
  have HPN := hid hpn
  have HFR := hid hfit
  have HL := hid hl
  have HRP := hid hrp
  have HSM := hid (rsome_any cp ap ps first (first + (rows.length : Int)) w hps hrp)
  have hw1 : IntKind.i64.wrap (first + (rows.length : Int)) = first + (rows.length : Int) := by rw [IntKind.wrap_i64]; omega
  by_cases hsm : smb ps first (first + (rows.length : Int)) = false
  ·have HND : Hid (ndf q n (k + 1) rows ps first = [rtf q n (k + 1) rows]) := by unfold Hid; simp only [ndf]; rw [if_pos hsm]
   have HRT := hid (rroot_any2 q n h5 h4 hpn (k + 1) cap a rows w h1 h2 (by omega) hfit hl)
   have HLN : Hid ((rtf q n (k + 1) rows).length = 4) := rtf_len q n (k + 1) rows (by omega)
   rw [hsm] at HSM
   rw [HND.out]
   clear hl hfit hsm HND hrp h1 h2 HL HFR HRP
   generalize rtf q n (k + 1) rows = R at *
   go_enter Tryz.func103, Tryz.ntmps103
   go_wp2_with fail
   refine HSM.out.mono ?_
   rintro e w1 ⟨rfl, rfl⟩
   go_wp2_with fail
   refine HRT.out.mono ?_
   rintro e w2 ⟨g, N, rfl, h6, h7, h8⟩
   have HS := hid h7.slr
   rw [HLN.out] at HS
   have HB := hid h8
   clear h6 h7 h8
   go_wp2_with fail
   go_ret
   exact ⟨_, rfl, (own_one HS.out).mono HB.out.size, HB.out.alloc HB.out.size _⟩
  ·have hsm2 : smb ps first (first + (rows.length : Int)) = true := by simpa using hsm
   rw [hsm2] at HSM
   by_cases hone : rows.length = 1
   ·have HND : Hid (ndf q n (k + 1) rows ps first = []) := by unfold Hid; simp only [ndf]; rw [if_neg hsm, if_pos hone]
    rw [HND.out]
    have hob : ((rows.length : Int) == 1) = true := by rw [hone]; rfl
    clear hl hfit hsm hsm2 HND hrp h1 h2 HL HFR HRP hone
    go_enter Tryz.func103, Tryz.ntmps103
    go_wp2_with fail
    refine HSM.out.mono ?_
    rintro e w1 ⟨rfl, rfl⟩
    go_wp2_with fail
    go_ret
    exact ⟨_, rfl, OwnR.nil _ _, Below.refl _ _⟩
   ·obtain ⟨_, l2, l3⟩ := lft_spec rows.length
    have l3' := l3 (by omega)
    have HND : Hid (ndf q n (k + 1) rows ps first = ndf q n k (rows.take (lft rows.length)) ps first ++ ndf q n k (rows.drop (lft rows.length)) ps (first + ((lft rows.length : Nat) : Int))) := by unfold Hid; simp only [ndf]; rw [if_neg hsm, if_neg hone]
    have HLF := hid (fun W : World => rleft_any rows.length W (by omega))
    obtain ⟨b, o, _, _, rfl, _, _, _⟩ := hl.row 0 (by omega)
    obtain ⟨m, hm⟩ := exE (lft rows.length)
    rw [<- hm] at HND HLF l2 l3'
    have hroom := hl.room
    have HTK : Hid ((rows.take m).length = m) := by unfold Hid; rw [List.length_take]; omega
    have HDK : Hid ((rows.drop m).length = rows.length - m) := List.length_drop
    have HIA : Hid (∀ W : World, Below w.heap.size w W -> Calls Tryz.prog 103 #[.int .i64 q, .slice (some ⟨b, o, none⟩) m cap, .slice ap ps.length cp, .int .i64 first] W fun e w' => ∃ v, e = .returned v /\ OwnR W.heap.size w' v (ndf q n k (rows.take m) ps first) /\ Below W.heap.size W w') := fun W h => by
     have := rnodes_any q n h5 h4 hpn cp ap ps hps k cap (some ⟨b, o, none⟩) (rows.take m) first W (by rw [HTK.out]; omega) (by rw [HTK.out]; omega) (by rw [HTK.out]; omega) hf0 (by rw [HTK.out]; omega) (hfit.take m) (((hl.take m).below h).mono h.size) ((hrp.below h).mono h.size)
     rwa [HTK.out] at this
    have HIB : Hid (∀ W : World, Below w.heap.size w W -> Calls Tryz.prog 103 #[.int .i64 q, .slice (some ⟨b, o + m, none⟩) (rows.length - m) (cap - m), .slice ap ps.length cp, .int .i64 (first + (m : Int))] W fun e w' => ∃ v, e = .returned v /\ OwnR W.heap.size w' v (ndf q n k (rows.drop m) ps (first + (m : Int))) /\ Below W.heap.size W w') := fun W h => by
     have := rnodes_any q n h5 h4 hpn cp ap ps hps k (cap - m) (some ⟨b, o + m, none⟩) (rows.drop m) (first + (m : Int)) W (by rw [HDK.out]; omega) (by rw [HDK.out]; omega) (by rw [HDK.out]; omega) (by omega) (by rw [HDK.out]; omega) (hfit.drop m) (((hl.drop m).below h).mono h.size) ((hrp.below h).mono h.size)
     rwa [HDK.out] at this
    have HNA := hid (ndf_len q n k (rows.take m) ps first (by rw [HTK.out]; omega))
    have HNB := hid (ndf_len q n k (rows.drop m) ps (first + (m : Int)) (by rw [HDK.out]; omega))
    have hla : (ndf q n k (rows.take m) ps first).length <= 65536 := by have := HNA.out; rw [HTK.out] at this; omega
    have hlb : (ndf q n k (rows.drop m) ps (first + (m : Int))).length <= 65536 := by have := HNB.out; rw [HDK.out] at this; omega
    rw [HND.out]
    obtain ⟨RA, hRA⟩ := exE (ndf q n k (rows.take m) ps first)
    obtain ⟨RB, hRB⟩ := exE (ndf q n k (rows.drop m) ps (first + (m : Int)))
    rw [<- hRA] at HIA hla ⊢
    rw [<- hRB] at HIB hlb ⊢
    have hob : ((rows.length : Int) == 1) = false := by rw [beq_eq_false_iff_ne]; omega
    have e1 : (m : Int) <= (rows.length : Int) := by omega
    have e2 : (m : Int) <= (cap : Int) := by omega
    have e3 : ¬ cap = m := by omega
    have e4 : (rows.length : Int) <= (cap : Int) := by omega
    have hw2 : IntKind.i64.wrap (first + (m : Int)) = first + (m : Int) := by rw [IntKind.wrap_i64]; omega
    generalize rows.length = len at *
    clear hl hfit hone HND hm l3 HTK HDK HL HFR hRA hRB h1 h2 hsm hsm2 HNA HNB hrp
    go_enter Tryz.func103, Tryz.ntmps103
    go_wp2_with fail
    refine HSM.out.mono ?_
    rintro e w0 ⟨rfl, rfl⟩
    go_wp2_with fail
    refine (HLF.out _).mono ?_
    rintro e w1 ⟨rfl, rfl⟩
    go_wp2_with fail
    refine (HIA.out _ (Below.refl _ _)).mono ?_
    rintro e w2 ⟨va, rfl, h6, h8⟩
    have HB2 := hid h8
    have HA2 := hid h6
    clear h6 h8
    go_wp2_with fail
    refine (HIB.out _ HB2.out).mono ?_
    rintro e w3 ⟨vb, rfl, h6, h8⟩
    have HB3 : Hid (Below w1.heap.size w1 w3) := HB2.out.trans (h8.mono HB2.out.size)
    have HA3 := hid (HA2.out.keep h8)
    have HBB := hid h6
    clear h6 h8
    go_wp2_with (at_builtin; refine wpList_rowsR w3 w1.heap.size w2.heap.size rfl _ _ rfl va vb RA RB HA3.out HBB.out rfl rfl (by omega) HB3.out.size ?_)
    intro v4 w4 h6 h8
    have HE : Hid (OwnR w1.heap.size w4 v4 (RA ++ RB) /\ Below w1.heap.size w1 w4) := ⟨h6, HB3.out.trans h8⟩
    clear h6 h8
    go_wp2_with fail
    go_ret
    exact ⟨v4, rfl, HE.out.1, HE.out.2⟩
theorem wpStill_skipG {P : Program} {ops : Array Oper} {w : World} {Q : Act -> Prop} {a : Act} {o : Oper} {rest : List Oper} (hw : Region.wanted o (yielded ops a.tmps) = false)
  (h : ∀ K : Act -> Prop, (∀ a, wpStill P ops w Q rest a -> K a) -> K (a.put o.dst undef)) : wpStill P ops w Q (o :: rest) a := by
 refine wpStill_step (fun K hK => ?_)
 rw [hw]
 exact h K hK
theorem wpStill_wantG {P : Program} {ops : Array Oper} {w : World} {Q : Act -> Prop} {a : Act} {o : Oper} {rest : List Oper} (hw : Region.wanted o (yielded ops a.tmps) = true)
  (h : ∀ K : Act -> Prop, (∀ a, wpStill P ops w Q rest a -> K a) -> o.still P a w K) : wpStill P ops w Q (o :: rest) a := by
 refine wpStill_step (fun K hK => ?_)
 rw [hw]
 exact h K hK
attribute [local irreducible] wpStill
theorem ronce_any (cap : Nat) (av : Option Addr) (ps : List Int) (w : World) (hlen : ps.length <= 17592186044400) (hrow : RowB w.heap.size w av ps) :
  Calls Tryz.prog 101 #[.slice av ps.length cap] w fun e w' => ∃ v os, e = .returned v /\ OnceIs ps os /\ w'.ownsRow w.heap.size 3 1 v os.length (os.map (Value.int .i64)) /\ Below w.heap.size w w' := by
 have hmx : Tryz.prog.follows .mixedOrders = true := by kernel_rfl
 obtain ⟨i0, hi, hz0, hz1, hz2⟩ := info_parts Tryz.infoInt
 have HR := hid hrow
 clear hrow
 go_enter Tryz.func101, Tryz.ntmps101
 go_wp2_with fail
 go_loopw [3] (fun v wr => ∃ os : List Int, lenV v = os.length /\ os.length <= ps.length /\ Hid (Asc os /\ (∀ x, x ∈ os -> x ∈ ps) /\ ∀ x, x ∈ ps -> x ∈ os ∨ Cand os x) /\ Hid (wr.ownsRow w.heap.size 3 1 v os.length (os.map (Value.int .i64))) /\ Hid (Below w.heap.size w wr))
  (fun v _ => ps.length - lenV v)
 case atStart => exact ⟨[], rfl, Nat.zero_le _, ⟨List.Pairwise.nil, fun x hx => (by cases hx), fun x _ => .inr (fun y hy => by cases hy)⟩, World.ownsRow_nil _ _ _ _, Below.refl _ _⟩
 case round =>
  obtain ⟨os, hlv, hle, hinv, hown, hbel⟩ := hrel
  obtain ⟨ao, co, rfl, hlo⟩ := lst_of_owns hown.out
  have HLO := hid hlo.row
  obtain ⟨wo, rfl⟩ := exE (wr)
  clear hlo hlv
  go_wp2_with fail
  go_loopw [4, 5] (fun bv iv wr => ∃ k : Nat, k <= ps.length /\ iv = .int .i64 k /\ Hid (BestIs ps os k bv) /\ Hid (∃ nn, wr = wo.drewN nn)) (fun _ iv _ => ps.length - (intOf iv).toNat)
  case atStart => exact ⟨0, Nat.zero_le _, rfl, .inl ⟨rfl, fun j hj => by omega⟩, 0, rfl⟩
  case round =>
   obtain ⟨k, hk, rfl, hbest, hw⟩ := hrel
   have HW2 : Hid (∃ nn, wr.drew = wo.drewN nn) := by
    obtain ⟨nn, e⟩ := hw.out
    exact ⟨nn + 1, by rw [e]; rfl⟩
   have HBW : Hid (Below wo.heap.size wo wr) := by
    obtain ⟨nn, e⟩ := hw.out
    unfold Hid
    rw [e]
    exact below_drewN (Below.refl _ _) nn
   have HBK : Hid (∀ p, wr.cell? p = wo.cell? p) := by
    obtain ⟨nn, e⟩ := hw.out
    intro p
    rw [e]
    rfl
   have HWQ := hw
   clear hw
   by_cases hlt : k < ps.length
   ·have hlt2 : (k : Int) < (ps.length : Int) := by omega
    have hkw : IntKind.i64.wrap ((k : Int) + 1) = (k : Int) + 1 := by rw [IntKind.wrap_i64]; omega
    obtain ⟨b1, o1, rfl, hb1, hc1⟩ := HR.out k hlt
    have hc2 : wr.cell? ⟨b1, o1 + k, none⟩ = some (.int .i64 (zat ps k)) := (HBK.out _).trans <| (hbel.out.cell (p := ⟨b1, o1 + k, none⟩) hb1).trans hc1
    have HBL := hid (And.intro hbel.out hown.out)
    clear hc1 hbel hown
    -- is it behind the last?
    have hcases : (os.length = 0 /\ Cand os (zat ps k)) ∨ (∃ (z bl ol : Nat) (y : Int), os.length = z + 1 /\ ao = some ⟨bl, ol, none⟩ /\ wr.cell? ⟨bl, ol + z, none⟩ = some (.int .i64 y) /\ ((y < zat ps k /\ Cand os (zat ps k)) ∨ (¬ y < zat ps k /\ ¬ Cand os (zat ps k)))) := by
     rcases Nat.eq_zero_or_pos os.length with h0 | h0
     ·left
      refine ⟨h0, fun y hy => ?_⟩
      obtain rfl := List.length_eq_zero_iff.1 h0
      cases hy
     ·right
      obtain ⟨bl, ol, e1, _, e2⟩ := HLO.out (os.length - 1) (by omega)
      refine ⟨os.length - 1, bl, ol, zat os (os.length - 1), by omega, e1, (HBK.out _).trans e2, ?_⟩
      by_cases g : zat os (os.length - 1) < zat ps k
      ·exact .inl ⟨g, fun y hy => by have := asc_last hinv.out.1 h0 y hy; omega⟩
      ·exact .inr ⟨g, fun hc => g (hc _ (zat_mem (by omega)))⟩
    rcases hcases with ⟨h0, hcand⟩ | ⟨z, bl, ol, y, hz, rfl, hcl, ⟨hlt3, hcand⟩ | ⟨hge, hnc⟩⟩
    ·have h0b : ((os.length : Int) == 0) = true := by rw [h0]; rfl
     rcases hbest.out with ⟨rfl, _⟩ | ⟨m, rfl, hmk, _, _⟩
     ·have HT := hid (hbest.out.first hcand)
      clear hbest hcand h0
      generalize zat ps k = x at *
      go_wp2_with fail
      refine wp_region_still_lit hmx (by kernel_rfl) ?_
      refine wpStill_wantG (by kernel_rfl) (fun K hK => ?_); go_simp; refine hK _ ?_; clear hK K
      refine wpStill_wantG (by kernel_rfl) (fun K hK => ?_); go_simp; refine hK _ ?_; clear hK K
      refine wpStill_wantG (by kernel_rfl) (fun K hK => ?_); go_simp; refine hK _ ?_; clear hK K
      refine wpStill_wantG (by kernel_rfl) (fun K hK => ?_); go_simp; refine hK _ ?_; clear hK K
      refine wpStill_skipG (by kernel_rfl) (fun K hK => ?_); go_simp; refine hK _ ?_; clear hK K
      refine wpStill_skipG (by kernel_rfl) (fun K hK => ?_); go_simp; refine hK _ ?_; clear hK K
      refine wpStill_skipG (by kernel_rfl) (fun K hK => ?_); go_simp; refine hK _ ?_; clear hK K
      refine wpStill_skipG (by kernel_rfl) (fun K hK => ?_); go_simp; refine hK _ ?_; clear hK K
      refine wpStill_skipG (by kernel_rfl) (fun K hK => ?_); go_simp; refine hK _ ?_; clear hK K
      refine wpStill_skipG (by kernel_rfl) (fun K hK => ?_); go_simp; refine hK _ ?_; clear hK K
      refine wpStill_skipG (by kernel_rfl) (fun K hK => ?_); go_simp; refine hK _ ?_; clear hK K
      refine wpStill_skipG (by kernel_rfl) (fun K hK => ?_); go_simp; refine hK _ ?_; clear hK K
      refine wpStill_skipG (by kernel_rfl) (fun K hK => ?_); go_simp; refine hK _ ?_; clear hK K
      refine wpStill_skipG (by kernel_rfl) (fun K hK => ?_); go_simp; refine hK _ ?_; clear hK K
      refine wpStill_skipG (by kernel_rfl) (fun K hK => ?_); go_simp; refine hK _ ?_; clear hK K
      refine wpStill_wantG (by kernel_rfl) (fun K hK => ?_); go_simp; refine hK _ ?_; clear hK K
      refine wpStill_wantG (by kernel_rfl) (fun K hK => ?_); go_simp; refine hK _ ?_; clear hK K
      refine wpStill_wantG (by kernel_rfl) (fun K hK => ?_); go_simp; refine hK _ ?_; clear hK K
      refine wpStill_wantG (by kernel_rfl) (fun K hK => ?_); go_simp; refine hK _ ?_; clear hK K
      refine wpStill_wantG (by kernel_rfl) (fun K hK => ?_); go_simp; refine hK _ ?_; clear hK K
      refine wpStill_skipG (by kernel_rfl) (fun K hK => ?_); go_simp; refine hK _ ?_; clear hK K
      refine wpStill_skipG (by kernel_rfl) (fun K hK => ?_); go_simp; refine hK _ ?_; clear hK K
      refine wpStill_skipG (by kernel_rfl) (fun K hK => ?_); go_simp; refine hK _ ?_; clear hK K
      refine wpStill_skipG (by kernel_rfl) (fun K hK => ?_); go_simp; refine hK _ ?_; clear hK K
      refine wpStill_skipG (by kernel_rfl) (fun K hK => ?_); go_simp; refine hK _ ?_; clear hK K
      refine wpStill_skipG (by kernel_rfl) (fun K hK => ?_); go_simp; refine hK _ ?_; clear hK K
      refine wpStill_skipG (by kernel_rfl) (fun K hK => ?_); go_simp; refine hK _ ?_; clear hK K
      refine wpStill_skipG (by kernel_rfl) (fun K hK => ?_); go_simp; refine hK _ ?_; clear hK K
      refine wpStill_skipG (by kernel_rfl) (fun K hK => ?_); go_simp; refine hK _ ?_; clear hK K
      refine wpStill_wantG (by kernel_rfl) (fun K hK => ?_); go_simp; refine hK _ ?_; clear hK K
      refine wpStill_wantG (by kernel_rfl) (fun K hK => ?_); go_simp; refine hK _ ?_; clear hK K
      refine wpStill_nil ?_
      go_wp2_with fail
      go_roundw
      case rel => exact ⟨k + 1, by omega, by go_num, HT, HW2⟩
      case measure => simp [intOf]; omega
     ·obtain ⟨b2, o2, e2, hb2, hm2⟩ := HR.out m (by omega)
      cases e2
      have hm3 : wr.cell? ⟨b1, o1 + m, none⟩ = some (.int .i64 (zat ps m)) := (HBK.out _).trans <| (HBL.out.1.cell (p := ⟨b1, o1 + m, none⟩) hb2).trans hm2
      have hmlt : (m : Int) < (ps.length : Int) := by omega
      have hmn : ¬ (m : Int) < 0 := by omega
      by_cases hl2 : zat ps k < zat ps m
      ·have HT := hid (hbest.out.less hcand hl2)
       clear hbest hcand h0 hm2
       generalize zat ps k = x at *
       generalize zat ps m = xm at *
       go_wp2_with fail
       refine wp_region_still_lit hmx (by kernel_rfl) ?_
       refine wpStill_wantG (by kernel_rfl) (fun K hK => ?_); go_simp; refine hK _ ?_; clear hK K
       refine wpStill_wantG (by kernel_rfl) (fun K hK => ?_); go_simp; refine hK _ ?_; clear hK K
       refine wpStill_wantG (by kernel_rfl) (fun K hK => ?_); go_simp; refine hK _ ?_; clear hK K
       refine wpStill_wantG (by kernel_rfl) (fun K hK => ?_); go_simp; refine hK _ ?_; clear hK K
       refine wpStill_skipG (by kernel_rfl) (fun K hK => ?_); go_simp; refine hK _ ?_; clear hK K
       refine wpStill_skipG (by kernel_rfl) (fun K hK => ?_); go_simp; refine hK _ ?_; clear hK K
       refine wpStill_skipG (by kernel_rfl) (fun K hK => ?_); go_simp; refine hK _ ?_; clear hK K
       refine wpStill_skipG (by kernel_rfl) (fun K hK => ?_); go_simp; refine hK _ ?_; clear hK K
       refine wpStill_skipG (by kernel_rfl) (fun K hK => ?_); go_simp; refine hK _ ?_; clear hK K
       refine wpStill_skipG (by kernel_rfl) (fun K hK => ?_); go_simp; refine hK _ ?_; clear hK K
       refine wpStill_skipG (by kernel_rfl) (fun K hK => ?_); go_simp; refine hK _ ?_; clear hK K
       refine wpStill_skipG (by kernel_rfl) (fun K hK => ?_); go_simp; refine hK _ ?_; clear hK K
       refine wpStill_skipG (by kernel_rfl) (fun K hK => ?_); go_simp; refine hK _ ?_; clear hK K
       refine wpStill_skipG (by kernel_rfl) (fun K hK => ?_); go_simp; refine hK _ ?_; clear hK K
       refine wpStill_skipG (by kernel_rfl) (fun K hK => ?_); go_simp; refine hK _ ?_; clear hK K
       refine wpStill_wantG (by kernel_rfl) (fun K hK => ?_); go_simp; refine hK _ ?_; clear hK K
       refine wpStill_wantG (by kernel_rfl) (fun K hK => ?_); go_simp; refine hK _ ?_; clear hK K
       refine wpStill_wantG (by kernel_rfl) (fun K hK => ?_); go_simp; refine hK _ ?_; clear hK K
       refine wpStill_wantG (by kernel_rfl) (fun K hK => ?_); go_simp; refine hK _ ?_; clear hK K
       refine wpStill_wantG (by kernel_rfl) (fun K hK => ?_); go_simp; refine hK _ ?_; clear hK K
       refine wpStill_wantG (by kernel_rfl) (fun K hK => ?_); go_simp; refine hK _ ?_; clear hK K
       refine wpStill_wantG (by kernel_rfl) (fun K hK => ?_); go_simp; refine hK _ ?_; clear hK K
       refine wpStill_wantG (by kernel_rfl) (fun K hK => ?_); go_simp; refine hK _ ?_; clear hK K
       refine wpStill_wantG (by kernel_rfl) (fun K hK => ?_); go_simp; refine hK _ ?_; clear hK K
       refine wpStill_wantG (by kernel_rfl) (fun K hK => ?_); go_simp; refine hK _ ?_; clear hK K
       refine wpStill_wantG (by kernel_rfl) (fun K hK => ?_); go_simp; refine hK _ ?_; clear hK K
       refine wpStill_wantG (by kernel_rfl) (fun K hK => ?_); go_simp; refine hK _ ?_; clear hK K
       refine wpStill_wantG (by kernel_rfl) (fun K hK => ?_); go_simp; refine hK _ ?_; clear hK K
       refine wpStill_wantG (by kernel_rfl) (fun K hK => ?_); go_simp; refine hK _ ?_; clear hK K
       refine wpStill_wantG (by kernel_rfl) (fun K hK => ?_); go_simp; refine hK _ ?_; clear hK K
       refine wpStill_wantG (by kernel_rfl) (fun K hK => ?_); go_simp; refine hK _ ?_; clear hK K
       refine wpStill_nil ?_
       go_wp2_with fail
       go_roundw
       case rel => exact ⟨k + 1, by omega, by go_num, HT, HW2⟩
       case measure => simp [intOf]; omega
      ·have HT := hid (hbest.out.more hl2)
       clear hbest hcand h0 hm2
       generalize zat ps k = x at *
       generalize zat ps m = xm at *
       go_wp2_with fail
       refine wp_region_still_lit hmx (by kernel_rfl) ?_
       refine wpStill_wantG (by kernel_rfl) (fun K hK => ?_); go_simp; refine hK _ ?_; clear hK K
       refine wpStill_wantG (by kernel_rfl) (fun K hK => ?_); go_simp; refine hK _ ?_; clear hK K
       refine wpStill_wantG (by kernel_rfl) (fun K hK => ?_); go_simp; refine hK _ ?_; clear hK K
       refine wpStill_wantG (by kernel_rfl) (fun K hK => ?_); go_simp; refine hK _ ?_; clear hK K
       refine wpStill_skipG (by kernel_rfl) (fun K hK => ?_); go_simp; refine hK _ ?_; clear hK K
       refine wpStill_skipG (by kernel_rfl) (fun K hK => ?_); go_simp; refine hK _ ?_; clear hK K
       refine wpStill_skipG (by kernel_rfl) (fun K hK => ?_); go_simp; refine hK _ ?_; clear hK K
       refine wpStill_skipG (by kernel_rfl) (fun K hK => ?_); go_simp; refine hK _ ?_; clear hK K
       refine wpStill_skipG (by kernel_rfl) (fun K hK => ?_); go_simp; refine hK _ ?_; clear hK K
       refine wpStill_skipG (by kernel_rfl) (fun K hK => ?_); go_simp; refine hK _ ?_; clear hK K
       refine wpStill_skipG (by kernel_rfl) (fun K hK => ?_); go_simp; refine hK _ ?_; clear hK K
       refine wpStill_skipG (by kernel_rfl) (fun K hK => ?_); go_simp; refine hK _ ?_; clear hK K
       refine wpStill_skipG (by kernel_rfl) (fun K hK => ?_); go_simp; refine hK _ ?_; clear hK K
       refine wpStill_skipG (by kernel_rfl) (fun K hK => ?_); go_simp; refine hK _ ?_; clear hK K
       refine wpStill_skipG (by kernel_rfl) (fun K hK => ?_); go_simp; refine hK _ ?_; clear hK K
       refine wpStill_wantG (by kernel_rfl) (fun K hK => ?_); go_simp; refine hK _ ?_; clear hK K
       refine wpStill_wantG (by kernel_rfl) (fun K hK => ?_); go_simp; refine hK _ ?_; clear hK K
       refine wpStill_wantG (by kernel_rfl) (fun K hK => ?_); go_simp; refine hK _ ?_; clear hK K
       refine wpStill_wantG (by kernel_rfl) (fun K hK => ?_); go_simp; refine hK _ ?_; clear hK K
       refine wpStill_wantG (by kernel_rfl) (fun K hK => ?_); go_simp; refine hK _ ?_; clear hK K
       refine wpStill_wantG (by kernel_rfl) (fun K hK => ?_); go_simp; refine hK _ ?_; clear hK K
       refine wpStill_wantG (by kernel_rfl) (fun K hK => ?_); go_simp; refine hK _ ?_; clear hK K
       refine wpStill_wantG (by kernel_rfl) (fun K hK => ?_); go_simp; refine hK _ ?_; clear hK K
       refine wpStill_wantG (by kernel_rfl) (fun K hK => ?_); go_simp; refine hK _ ?_; clear hK K
       refine wpStill_wantG (by kernel_rfl) (fun K hK => ?_); go_simp; refine hK _ ?_; clear hK K
       refine wpStill_wantG (by kernel_rfl) (fun K hK => ?_); go_simp; refine hK _ ?_; clear hK K
       refine wpStill_wantG (by kernel_rfl) (fun K hK => ?_); go_simp; refine hK _ ?_; clear hK K
       refine wpStill_wantG (by kernel_rfl) (fun K hK => ?_); go_simp; refine hK _ ?_; clear hK K
       refine wpStill_wantG (by kernel_rfl) (fun K hK => ?_); go_simp; refine hK _ ?_; clear hK K
       refine wpStill_wantG (by kernel_rfl) (fun K hK => ?_); go_simp; refine hK _ ?_; clear hK K
       refine wpStill_wantG (by kernel_rfl) (fun K hK => ?_); go_simp; refine hK _ ?_; clear hK K
       refine wpStill_nil ?_
       go_wp2_with fail
       go_roundw
       case rel => exact ⟨k + 1, by omega, by go_num, HT, HW2⟩
       case measure => simp [intOf]; omega
    ·have h0b : ((os.length : Int) == 0) = false := by rw [beq_eq_false_iff_ne]; omega
     have e1 : (os.length : Int) - 1 = (z : Int) := by omega
     have zlt : (z : Int) < (os.length : Int) := by omega
     have zw : IntKind.i64.wrap (z : Int) = (z : Int) := by rw [IntKind.wrap_i64]; omega
     rcases hbest.out with ⟨rfl, _⟩ | ⟨m, rfl, hmk, _, _⟩
     ·have HT := hid (hbest.out.first hcand)
      clear hbest hcand hz
      generalize zat ps k = x at *
      go_wp2_with fail
      refine wp_region_still_lit hmx (by kernel_rfl) ?_
      refine wpStill_wantG (by kernel_rfl) (fun K hK => ?_); go_simp; refine hK _ ?_; clear hK K
      refine wpStill_wantG (by kernel_rfl) (fun K hK => ?_); go_simp; refine hK _ ?_; clear hK K
      refine wpStill_wantG (by kernel_rfl) (fun K hK => ?_); go_simp; refine hK _ ?_; clear hK K
      refine wpStill_wantG (by kernel_rfl) (fun K hK => ?_); go_simp; refine hK _ ?_; clear hK K
      refine wpStill_wantG (by kernel_rfl) (fun K hK => ?_); go_simp; refine hK _ ?_; clear hK K
      refine wpStill_wantG (by kernel_rfl) (fun K hK => ?_); go_simp; refine hK _ ?_; clear hK K
      refine wpStill_wantG (by kernel_rfl) (fun K hK => ?_); go_simp; refine hK _ ?_; clear hK K
      refine wpStill_wantG (by kernel_rfl) (fun K hK => ?_); go_simp; refine hK _ ?_; clear hK K
      refine wpStill_wantG (by kernel_rfl) (fun K hK => ?_); go_simp; refine hK _ ?_; clear hK K
      refine wpStill_wantG (by kernel_rfl) (fun K hK => ?_); go_simp; refine hK _ ?_; clear hK K
      refine wpStill_wantG (by kernel_rfl) (fun K hK => ?_); go_simp; refine hK _ ?_; clear hK K
      refine wpStill_wantG (by kernel_rfl) (fun K hK => ?_); go_simp; refine hK _ ?_; clear hK K
      refine wpStill_wantG (by kernel_rfl) (fun K hK => ?_); go_simp; refine hK _ ?_; clear hK K
      refine wpStill_wantG (by kernel_rfl) (fun K hK => ?_); go_simp; refine hK _ ?_; clear hK K
      refine wpStill_wantG (by kernel_rfl) (fun K hK => ?_); go_simp; refine hK _ ?_; clear hK K
      refine wpStill_wantG (by kernel_rfl) (fun K hK => ?_); go_simp; refine hK _ ?_; clear hK K
      refine wpStill_wantG (by kernel_rfl) (fun K hK => ?_); go_simp; refine hK _ ?_; clear hK K
      refine wpStill_wantG (by kernel_rfl) (fun K hK => ?_); go_simp; refine hK _ ?_; clear hK K
      refine wpStill_wantG (by kernel_rfl) (fun K hK => ?_); go_simp; refine hK _ ?_; clear hK K
      refine wpStill_wantG (by kernel_rfl) (fun K hK => ?_); go_simp; refine hK _ ?_; clear hK K
      refine wpStill_skipG (by kernel_rfl) (fun K hK => ?_); go_simp; refine hK _ ?_; clear hK K
      refine wpStill_skipG (by kernel_rfl) (fun K hK => ?_); go_simp; refine hK _ ?_; clear hK K
      refine wpStill_skipG (by kernel_rfl) (fun K hK => ?_); go_simp; refine hK _ ?_; clear hK K
      refine wpStill_skipG (by kernel_rfl) (fun K hK => ?_); go_simp; refine hK _ ?_; clear hK K
      refine wpStill_skipG (by kernel_rfl) (fun K hK => ?_); go_simp; refine hK _ ?_; clear hK K
      refine wpStill_skipG (by kernel_rfl) (fun K hK => ?_); go_simp; refine hK _ ?_; clear hK K
      refine wpStill_skipG (by kernel_rfl) (fun K hK => ?_); go_simp; refine hK _ ?_; clear hK K
      refine wpStill_skipG (by kernel_rfl) (fun K hK => ?_); go_simp; refine hK _ ?_; clear hK K
      refine wpStill_skipG (by kernel_rfl) (fun K hK => ?_); go_simp; refine hK _ ?_; clear hK K
      refine wpStill_wantG (by kernel_rfl) (fun K hK => ?_); go_simp; refine hK _ ?_; clear hK K
      refine wpStill_wantG (by kernel_rfl) (fun K hK => ?_); go_simp; refine hK _ ?_; clear hK K
      refine wpStill_nil ?_
      go_wp2_with fail
      go_roundw
      case rel => exact ⟨k + 1, by omega, by go_num, HT, HW2⟩
      case measure => simp [intOf]; omega
     ·obtain ⟨b2, o2, e2, hb2, hm2⟩ := HR.out m (by omega)
      cases e2
      have hm3 : wr.cell? ⟨b1, o1 + m, none⟩ = some (.int .i64 (zat ps m)) := (HBK.out _).trans <| (HBL.out.1.cell (p := ⟨b1, o1 + m, none⟩) hb2).trans hm2
      have hmlt : (m : Int) < (ps.length : Int) := by omega
      have hmn : ¬ (m : Int) < 0 := by omega
      by_cases hl2 : zat ps k < zat ps m
      ·have HT := hid (hbest.out.less hcand hl2)
       clear hbest hcand hz hm2
       generalize zat ps k = x at *
       generalize zat ps m = xm at *
       go_wp2_with fail
       refine wp_region_still_lit hmx (by kernel_rfl) ?_
       refine wpStill_wantG (by kernel_rfl) (fun K hK => ?_); go_simp; refine hK _ ?_; clear hK K
       refine wpStill_wantG (by kernel_rfl) (fun K hK => ?_); go_simp; refine hK _ ?_; clear hK K
       refine wpStill_wantG (by kernel_rfl) (fun K hK => ?_); go_simp; refine hK _ ?_; clear hK K
       refine wpStill_wantG (by kernel_rfl) (fun K hK => ?_); go_simp; refine hK _ ?_; clear hK K
       refine wpStill_wantG (by kernel_rfl) (fun K hK => ?_); go_simp; refine hK _ ?_; clear hK K
       refine wpStill_wantG (by kernel_rfl) (fun K hK => ?_); go_simp; refine hK _ ?_; clear hK K
       refine wpStill_wantG (by kernel_rfl) (fun K hK => ?_); go_simp; refine hK _ ?_; clear hK K
       refine wpStill_wantG (by kernel_rfl) (fun K hK => ?_); go_simp; refine hK _ ?_; clear hK K
       refine wpStill_wantG (by kernel_rfl) (fun K hK => ?_); go_simp; refine hK _ ?_; clear hK K
       refine wpStill_wantG (by kernel_rfl) (fun K hK => ?_); go_simp; refine hK _ ?_; clear hK K
       refine wpStill_wantG (by kernel_rfl) (fun K hK => ?_); go_simp; refine hK _ ?_; clear hK K
       refine wpStill_wantG (by kernel_rfl) (fun K hK => ?_); go_simp; refine hK _ ?_; clear hK K
       refine wpStill_wantG (by kernel_rfl) (fun K hK => ?_); go_simp; refine hK _ ?_; clear hK K
       refine wpStill_wantG (by kernel_rfl) (fun K hK => ?_); go_simp; refine hK _ ?_; clear hK K
       refine wpStill_wantG (by kernel_rfl) (fun K hK => ?_); go_simp; refine hK _ ?_; clear hK K
       refine wpStill_wantG (by kernel_rfl) (fun K hK => ?_); go_simp; refine hK _ ?_; clear hK K
       refine wpStill_wantG (by kernel_rfl) (fun K hK => ?_); go_simp; refine hK _ ?_; clear hK K
       refine wpStill_wantG (by kernel_rfl) (fun K hK => ?_); go_simp; refine hK _ ?_; clear hK K
       refine wpStill_wantG (by kernel_rfl) (fun K hK => ?_); go_simp; refine hK _ ?_; clear hK K
       refine wpStill_wantG (by kernel_rfl) (fun K hK => ?_); go_simp; refine hK _ ?_; clear hK K
       refine wpStill_wantG (by kernel_rfl) (fun K hK => ?_); go_simp; refine hK _ ?_; clear hK K
       refine wpStill_wantG (by kernel_rfl) (fun K hK => ?_); go_simp; refine hK _ ?_; clear hK K
       refine wpStill_wantG (by kernel_rfl) (fun K hK => ?_); go_simp; refine hK _ ?_; clear hK K
       refine wpStill_wantG (by kernel_rfl) (fun K hK => ?_); go_simp; refine hK _ ?_; clear hK K
       refine wpStill_wantG (by kernel_rfl) (fun K hK => ?_); go_simp; refine hK _ ?_; clear hK K
       refine wpStill_wantG (by kernel_rfl) (fun K hK => ?_); go_simp; refine hK _ ?_; clear hK K
       refine wpStill_wantG (by kernel_rfl) (fun K hK => ?_); go_simp; refine hK _ ?_; clear hK K
       refine wpStill_wantG (by kernel_rfl) (fun K hK => ?_); go_simp; refine hK _ ?_; clear hK K
       refine wpStill_wantG (by kernel_rfl) (fun K hK => ?_); go_simp; refine hK _ ?_; clear hK K
       refine wpStill_wantG (by kernel_rfl) (fun K hK => ?_); go_simp; refine hK _ ?_; clear hK K
       refine wpStill_wantG (by kernel_rfl) (fun K hK => ?_); go_simp; refine hK _ ?_; clear hK K
       refine wpStill_nil ?_
       go_wp2_with fail
       go_roundw
       case rel => exact ⟨k + 1, by omega, by go_num, HT, HW2⟩
       case measure => simp [intOf]; omega
      ·have HT := hid (hbest.out.more hl2)
       clear hbest hcand hz hm2
       generalize zat ps k = x at *
       generalize zat ps m = xm at *
       go_wp2_with fail
       refine wp_region_still_lit hmx (by kernel_rfl) ?_
       refine wpStill_wantG (by kernel_rfl) (fun K hK => ?_); go_simp; refine hK _ ?_; clear hK K
       refine wpStill_wantG (by kernel_rfl) (fun K hK => ?_); go_simp; refine hK _ ?_; clear hK K
       refine wpStill_wantG (by kernel_rfl) (fun K hK => ?_); go_simp; refine hK _ ?_; clear hK K
       refine wpStill_wantG (by kernel_rfl) (fun K hK => ?_); go_simp; refine hK _ ?_; clear hK K
       refine wpStill_wantG (by kernel_rfl) (fun K hK => ?_); go_simp; refine hK _ ?_; clear hK K
       refine wpStill_wantG (by kernel_rfl) (fun K hK => ?_); go_simp; refine hK _ ?_; clear hK K
       refine wpStill_wantG (by kernel_rfl) (fun K hK => ?_); go_simp; refine hK _ ?_; clear hK K
       refine wpStill_wantG (by kernel_rfl) (fun K hK => ?_); go_simp; refine hK _ ?_; clear hK K
       refine wpStill_wantG (by kernel_rfl) (fun K hK => ?_); go_simp; refine hK _ ?_; clear hK K
       refine wpStill_wantG (by kernel_rfl) (fun K hK => ?_); go_simp; refine hK _ ?_; clear hK K
       refine wpStill_wantG (by kernel_rfl) (fun K hK => ?_); go_simp; refine hK _ ?_; clear hK K
       refine wpStill_wantG (by kernel_rfl) (fun K hK => ?_); go_simp; refine hK _ ?_; clear hK K
       refine wpStill_wantG (by kernel_rfl) (fun K hK => ?_); go_simp; refine hK _ ?_; clear hK K
       refine wpStill_wantG (by kernel_rfl) (fun K hK => ?_); go_simp; refine hK _ ?_; clear hK K
       refine wpStill_wantG (by kernel_rfl) (fun K hK => ?_); go_simp; refine hK _ ?_; clear hK K
       refine wpStill_wantG (by kernel_rfl) (fun K hK => ?_); go_simp; refine hK _ ?_; clear hK K
       refine wpStill_wantG (by kernel_rfl) (fun K hK => ?_); go_simp; refine hK _ ?_; clear hK K
       refine wpStill_wantG (by kernel_rfl) (fun K hK => ?_); go_simp; refine hK _ ?_; clear hK K
       refine wpStill_wantG (by kernel_rfl) (fun K hK => ?_); go_simp; refine hK _ ?_; clear hK K
       refine wpStill_wantG (by kernel_rfl) (fun K hK => ?_); go_simp; refine hK _ ?_; clear hK K
       refine wpStill_wantG (by kernel_rfl) (fun K hK => ?_); go_simp; refine hK _ ?_; clear hK K
       refine wpStill_wantG (by kernel_rfl) (fun K hK => ?_); go_simp; refine hK _ ?_; clear hK K
       refine wpStill_wantG (by kernel_rfl) (fun K hK => ?_); go_simp; refine hK _ ?_; clear hK K
       refine wpStill_wantG (by kernel_rfl) (fun K hK => ?_); go_simp; refine hK _ ?_; clear hK K
       refine wpStill_wantG (by kernel_rfl) (fun K hK => ?_); go_simp; refine hK _ ?_; clear hK K
       refine wpStill_wantG (by kernel_rfl) (fun K hK => ?_); go_simp; refine hK _ ?_; clear hK K
       refine wpStill_wantG (by kernel_rfl) (fun K hK => ?_); go_simp; refine hK _ ?_; clear hK K
       refine wpStill_wantG (by kernel_rfl) (fun K hK => ?_); go_simp; refine hK _ ?_; clear hK K
       refine wpStill_wantG (by kernel_rfl) (fun K hK => ?_); go_simp; refine hK _ ?_; clear hK K
       refine wpStill_wantG (by kernel_rfl) (fun K hK => ?_); go_simp; refine hK _ ?_; clear hK K
       refine wpStill_wantG (by kernel_rfl) (fun K hK => ?_); go_simp; refine hK _ ?_; clear hK K
       refine wpStill_nil ?_
       go_wp2_with fail
       go_roundw
       case rel => exact ⟨k + 1, by omega, by go_num, HT, HW2⟩
       case measure => simp [intOf]; omega
    ·have h0b : ((os.length : Int) == 0) = false := by rw [beq_eq_false_iff_ne]; omega
     have e1 : (os.length : Int) - 1 = (z : Int) := by omega
     have zlt : (z : Int) < (os.length : Int) := by omega
     have zw : IntKind.i64.wrap (z : Int) = (z : Int) := by rw [IntKind.wrap_i64]; omega
     have HT := hid (hbest.out.skip hnc)
     have hgb : decide (y < zat ps k) = false := decide_eq_false hge
     clear hbest hnc hz
     generalize zat ps k = x at *
     go_wp2_with fail
     refine wp_region_still_lit hmx (by kernel_rfl) ?_
     refine wpStill_wantG (by kernel_rfl) (fun K hK => ?_); go_simp; refine hK _ ?_; clear hK K
     refine wpStill_wantG (by kernel_rfl) (fun K hK => ?_); go_simp; refine hK _ ?_; clear hK K
     refine wpStill_wantG (by kernel_rfl) (fun K hK => ?_); go_simp; refine hK _ ?_; clear hK K
     refine wpStill_wantG (by kernel_rfl) (fun K hK => ?_); go_simp; refine hK _ ?_; clear hK K
     refine wpStill_wantG (by kernel_rfl) (fun K hK => ?_); go_simp; refine hK _ ?_; clear hK K
     refine wpStill_wantG (by kernel_rfl) (fun K hK => ?_); go_simp; refine hK _ ?_; clear hK K
     refine wpStill_wantG (by kernel_rfl) (fun K hK => ?_); go_simp; refine hK _ ?_; clear hK K
     refine wpStill_wantG (by kernel_rfl) (fun K hK => ?_); go_simp; refine hK _ ?_; clear hK K
     refine wpStill_wantG (by kernel_rfl) (fun K hK => ?_); go_simp; refine hK _ ?_; clear hK K
     refine wpStill_wantG (by kernel_rfl) (fun K hK => ?_); go_simp; refine hK _ ?_; clear hK K
     refine wpStill_wantG (by kernel_rfl) (fun K hK => ?_); go_simp; refine hK _ ?_; clear hK K
     refine wpStill_wantG (by kernel_rfl) (fun K hK => ?_); go_simp; refine hK _ ?_; clear hK K
     refine wpStill_wantG (by kernel_rfl) (fun K hK => ?_); go_simp; refine hK _ ?_; clear hK K
     refine wpStill_wantG (by kernel_rfl) (fun K hK => ?_); go_simp; refine hK _ ?_; clear hK K
     refine wpStill_wantG (by kernel_rfl) (fun K hK => ?_); go_simp; refine hK _ ?_; clear hK K
     refine wpStill_wantG (by kernel_rfl) (fun K hK => ?_); go_simp; refine hK _ ?_; clear hK K
     refine wpStill_wantG (by kernel_rfl) (fun K hK => ?_); go_simp; refine hK _ ?_; clear hK K
     refine wpStill_skipG (by kernel_rfl) (fun K hK => ?_); go_simp; refine hK _ ?_; clear hK K
     refine wpStill_skipG (by kernel_rfl) (fun K hK => ?_); go_simp; refine hK _ ?_; clear hK K
     refine wpStill_skipG (by kernel_rfl) (fun K hK => ?_); go_simp; refine hK _ ?_; clear hK K
     refine wpStill_skipG (by kernel_rfl) (fun K hK => ?_); go_simp; refine hK _ ?_; clear hK K
     refine wpStill_skipG (by kernel_rfl) (fun K hK => ?_); go_simp; refine hK _ ?_; clear hK K
     refine wpStill_skipG (by kernel_rfl) (fun K hK => ?_); go_simp; refine hK _ ?_; clear hK K
     refine wpStill_skipG (by kernel_rfl) (fun K hK => ?_); go_simp; refine hK _ ?_; clear hK K
     refine wpStill_skipG (by kernel_rfl) (fun K hK => ?_); go_simp; refine hK _ ?_; clear hK K
     refine wpStill_skipG (by kernel_rfl) (fun K hK => ?_); go_simp; refine hK _ ?_; clear hK K
     refine wpStill_skipG (by kernel_rfl) (fun K hK => ?_); go_simp; refine hK _ ?_; clear hK K
     refine wpStill_skipG (by kernel_rfl) (fun K hK => ?_); go_simp; refine hK _ ?_; clear hK K
     refine wpStill_skipG (by kernel_rfl) (fun K hK => ?_); go_simp; refine hK _ ?_; clear hK K
     refine wpStill_skipG (by kernel_rfl) (fun K hK => ?_); go_simp; refine hK _ ?_; clear hK K
     refine wpStill_wantG (by kernel_rfl) (fun K hK => ?_); go_simp; refine hK _ ?_; clear hK K
     refine wpStill_nil ?_
     go_wp2_with fail
     go_roundw
     case rel => exact ⟨k + 1, by omega, by go_num, HT, HW2⟩
     case measure => simp [intOf]; omega
   ·obtain rfl : k = ps.length := by omega
    have HOW : Hid (wr.ownsRow w.heap.size 3 1 (.slice ao os.length co) os.length (os.map (Value.int .i64))) := by
     obtain ⟨nn, e⟩ := HWQ.out
     unfold Hid
     rw [e]
     exact hown.out
    have HBB : Hid (Below w.heap.size w wr) := hbel.out.trans (HBW.out.mono hbel.out.size)
    clear HWQ
    rcases hbest.out with ⟨rfl, hno⟩ | ⟨m, rfl, hmk, hcm, hmin⟩
    ·have HE : Hid (OnceIs ps os /\ wr.ownsRow w.heap.size 3 1 (.slice ao os.length co) os.length (os.map (Value.int .i64)) /\ Below w.heap.size w wr) := by
      refine ⟨⟨hinv.out.1, fun x => ⟨hinv.out.2.1 x, fun hx => ?_⟩⟩, HOW.out, HBB.out⟩
      rcases hinv.out.2.2 x hx with g | g
      ·exact g
      ·obtain ⟨j, hj, rfl⟩ := mem_zat hx
       exact absurd g (hno j hj)
     clear hno hbest hown hbel hinv
     go_wp2_with fail
     go_ret
     exact ⟨_, os, rfl, HE.out.1, HE.out.2.1, HE.out.2.2⟩
    ·obtain ⟨b2, o2, rfl, hb2, hm2⟩ := HR.out m hmk
     have hm3 : wr.cell? ⟨b2, o2 + m, none⟩ = some (.int .i64 (zat ps m)) := (HBK.out _).trans <| (hbel.out.cell (p := ⟨b2, o2 + m, none⟩) hb2).trans hm2
     have hmlt : (m : Int) < (ps.length : Int) := by omega
     have hmn : ¬ (m : Int) < 0 := by omega
     have HI2 : Hid (Asc (os ++ [zat ps m]) /\ (∀ x, x ∈ os ++ [zat ps m] -> x ∈ ps) /\ ∀ x, x ∈ ps -> x ∈ os ++ [zat ps m] ∨ Cand (os ++ [zat ps m]) x) := by
      refine ⟨asc_snoc hinv.out.1 hcm, fun x hx => ?_, fun x hx => ?_⟩
      ·rcases List.mem_append.1 hx with g | g
       ·exact hinv.out.2.1 x g
       ·rw [List.mem_singleton.1 g]; exact zat_mem hmk
      ·rcases hinv.out.2.2 x hx with g | g
       ·exact .inl (List.mem_append_left _ g)
       ·obtain ⟨j, hj, rfl⟩ := mem_zat hx
        have h1 := hmin j hj g
        by_cases e : zat ps j = zat ps m
        ·exact .inl (List.mem_append_right _ (by rw [e]; exact List.mem_singleton_self _))
        ·refine .inr (fun y hy => ?_)
         rcases List.mem_append.1 hy with k1 | k1
         ·exact g y k1
         ·rw [List.mem_singleton.1 k1]; omega
     have hle2 : (os ++ [zat ps m]).length <= ps.length := asc_le HI2.out.1 HI2.out.2.1
     have hown2 : wr.ownsRow w.heap.size 3 1 (.slice ao os.length co) os.length (os.map (Value.int .i64)) := HOW.out
     have HB2 := HBB
     clear hbest hcm hmin hinv hown hbel hm2
     obtain ⟨w5, rfl⟩ := exE (wr)
     generalize zat ps m = x at *
     go_wp2_with (at_builtin; refine wpList_append_own _ rfl _ _ 22 rfl w.heap.size 3 i0 (.int .i64 0) 1 8 Tryz.underlying22 hi hz0 hz1 hz2 rfl (by decide) _ _ _ rfl (hown2.alloc _) ⟨w5.heap.size, 0, none⟩ 1 1 [.int .i64 x] rfl rfl ?c1 ?c2 ?c3 ?c4 ?c5 ?_)
     case c2 => first | rfl | (intro u hu; simp at hu; subst hu; rfl)
     case c3 => unfold maxLen; omega
     case c4 => omega
     case c5 => have := HB2.out.size; simp; omega
     intro v' w6 hown6 hgrow _
     have HO6 := hid (owns_succ hown6)
     have hs5 := HB2.out.size
     have HB6 : Hid (Below w.heap.size w w6) := (HB2.out.alloc hs5 _).grown hgrow (by simp; omega) (fun k hk => (hown2.lt k hk).1)
     obtain ⟨a6, c6, hv6⟩ := owns_len HO6.out
     subst hv6
     clear hown6 hgrow hown2 HB2
     go_wp2_with fail
     go_roundw
     case rel => exact ⟨os ++ [x], rfl, hle2, HI2, HO6, HB6⟩
     case measure => simp [lenV] at hle2 ⊢; omega
def tri (a b c : Value) : Nat -> Value
 | 0 => a
 | 1 => b
 | _ => c
theorem tri_new (w : World) (t : TypeId) (a b c : Value) : (w.alloc (.cells #[a, b, c] t)).rowIs w.heap.size t 3 (tri a b c) :=
 ⟨#[a, b, c], heap_alloc_new w _, rfl, fun i hi => by
  have : i = 0 ∨ i = 1 ∨ i = 2 := by omega
  rcases this with rfl | rfl | rfl <;> rfl⟩
theorem tri_arr {W : World} {g : Nat} {t : TypeId} {a b c : Value} (h : W.rowIs g t 3 (tri a b c)) : W.heap[g]? = some (.cells #[a, b, c] t (0, 0)) := by
 obtain ⟨cs, h1, h2, h4⟩ := h
 rw [h1]
 have e : cs = #[a, b, c] := by
  apply Array.ext
  ·simpa using h2
  ·intro i hi hi2
   have h0 : i = 0 ∨ i = 1 ∨ i = 2 := by simp at hi2; omega
   have h5 := h4 i (by omega)
   rw [Array.getElem?_eq_getElem hi] at h5
   have h6 := Option.some.inj h5
   rw [h6]
   rcases h0 with rfl | rfl | rfl <;> rfl
 rw [e]
theorem tri_set1 {W : World} {g : Nat} {t : TypeId} {a b c : Value} (h : W.rowIs g t 3 (tri a b c)) (b' : Value) : (W.setCell ⟨g, 1, none⟩ b').rowIs g t 3 (tri a b' c) :=
 (h.set 1 b').congr (fun i hi => by
  have : i = 0 ∨ i = 1 ∨ i = 2 := by omega
  rcases this with rfl | rfl | rfl <;> simp [tri])
theorem tri_set0 {W : World} {g : Nat} {t : TypeId} {a b c : Value} (h : W.rowIs g t 3 (tri a b c)) (a' : Value) : (W.setCell ⟨g, 0, none⟩ a').rowIs g t 3 (tri a' b c) :=
 (h.set 0 a').congr (fun i hi => by
  have : i = 0 ∨ i = 1 ∨ i = 2 := by omega
  rcases this with rfl | rfl | rfl <;> simp [tri])
theorem tri_set2 {W : World} {g : Nat} {t : TypeId} {a b c : Value} (h : W.rowIs g t 3 (tri a b c)) (c' : Value) : (W.setCell ⟨g, 2, none⟩ c').rowIs g t 3 (tri a b c') :=
 (h.set 2 c').congr (fun i hi => by
  have : i = 0 ∨ i = 1 ∨ i = 2 := by omega
  rcases this with rfl | rfl | rfl <;> simp [tri])
def elr (q : Nat) (r : List Int) : List Int := ls (fun j => zat r j % (q : Int)) r.length
def shw (q : Nat) (rows : List (List Int)) (os : List Int) : List (List Int) := os.map (fun x => elr q (rat rows x.toNat))
theorem shw_len (q : Nat) (rows : List (List Int)) (os : List Int) : (shw q rows os).length = os.length := by simp [shw]
theorem shw_snoc (q : Nat) (rows : List (List Int)) {os : List Int} {k : Nat} (h : k < os.length) : shw q rows (os.take (k + 1)) = shw q rows (os.take k) ++ [elr q (rat rows (zat os k).toNat)] := by
 unfold shw
 rw [List.take_add_one, List.getElem?_eq_getElem h, List.map_append]
 simp [zat, h]
theorem rowO {w : World} {O : Nat} {f : Nat -> Value} {n : Nat} (h : w.rowIs O 31 n f) : ∃ c fr, w.heap[O]? = some (.cells c 31 fr) := by
 obtain ⟨c, h1, _⟩ := h
 exact ⟨c, _, h1⟩
theorem ne_O {w : World} {O b : Nat} (hO : ∃ c f, w.heap[O]? = some (.cells c 31 f)) (hb : NotRow w b) : b ≠ O := by
 rintro rfl
 obtain ⟨c, f, h1⟩ := hO
 obtain ⟨c', t, f', h2, h3⟩ := hb
 rw [h1] at h2
 cases h2
 exact h3.2.1 rfl
theorem SlR.onlyO {w w' : World} {O : Nat} {u : Value} {r : List Int} (h : SlR w r u) (hO : ∃ c f, w.heap[O]? = some (.cells c 31 f)) (hs : w.heap.size <= w'.heap.size) (e : ∀ b, b ≠ O -> w'.heap[b]? = w.heap[b]?) : SlR w' r u :=
 h.blocks hs (fun b _ hb => e b (ne_O hO hb))
theorem OwnR.onlyO {base : Nat} {w w' : World} {O : Nat} {u : Value} {rs : List (List Int)} (h : OwnR base w u rs) (hO : ∃ c f, w.heap[O]? = some (.cells c 31 f)) (hs : w.heap.size <= w'.heap.size) (e : ∀ b, b ≠ O -> w'.heap[b]? = w.heap[b]?) : OwnR base w' u rs := by
 obtain ⟨vals, ⟨h0, h1⟩, h2⟩ := h
 refine ⟨vals, ⟨h0, ?_⟩, fun j hj => ?_⟩
 ·rcases h1 with h1 | ⟨g, cap, cur, h3, h4, hg, h5⟩
  ·exact .inl h1
  ·refine .inr ⟨g, cap, cur, h3, h4, (e g ?_).trans hg, h5⟩
   rintro rfl
   obtain ⟨c, f, h6⟩ := hO
   rw [hg] at h6
   injection h6 with h6
   injection h6 with _ h6 _
   exact absurd h6 (by decide)
 ·obtain ⟨x, h3, h4⟩ := h2 j hj
  exact ⟨x, h3, h4.onlyO hO hs e⟩
theorem ropen_any (q n cap cp : Nat) (a ap : Option Addr) (rows : List (List Int)) (ps : List Int) (w : World) (h5 : 5 <= q) (h4 : q <= 2147483647) (hpn : Spo.PowIs q n) (h1 : 1 <= rows.length) (hmr : rows.length <= 65536) (hfit : FitsR rows) (hl : LstR w.heap.size w a cap rows)
  (hps : ps.length <= 17592186044400) (hrp : RowB w.heap.size w ap ps) (hin : ∀ x, x ∈ ps -> 0 <= x /\ x < (rows.length : Int)) :
  Calls Tryz.prog 49 #[.int .i64 q, .slice a rows.length cap, .slice ap ps.length cp] w fun e w' =>
   ∃ os vp vr vn, e = .returned (.agg #[vp, vr, vn]) /\ OnceIs ps os /\ SlR w' os vp /\ OwnR w.heap.size w' vr (shw q rows os) /\ OwnR w.heap.size w' vn (ndf q n rows.length rows os 0) /\ Below w.heap.size w w' := by
 have h3 : 3 <= q := by omega
 have HPN := hid hpn
 have HFR := hid hfit
 have HL := hid hl
 have HIN := hid hin
 have HB0 : Hid (Below w.heap.size w (w.alloc (.cells #[.slice none 0 0, .slice none 0 0, .slice none 0 0] 31))) := (Below.refl _ _).alloc (Nat.le_refl _) _
 have HR0 := hid (tri_new w 31 (.slice none 0 0) (.slice none 0 0) (.slice none 0 0))
 have hs0 : w.heap.size < (w.alloc (.cells #[.slice none 0 0, .slice none 0 0, .slice none 0 0] 31)).heap.size := by simp
 have HP0 := hid ((hrp.below HB0.out).mono HB0.out.size)
 clear hpn hfit hl hin hrp
 go_enter Tryz.func49, Tryz.ntmps49
 go_wp2_with fail
 generalize w.alloc (.cells #[.slice none 0 0, .slice none 0 0, .slice none 0 0] 31) = W0 at *
 refine (ronce_any cp ap ps W0 hps HP0.out).mono ?_
 rintro e w1 ⟨v, os, rfl, hos, hown, hb1⟩
 have HOS := hid hos
 have hol : os.length <= ps.length := asc_le hos.1 (fun x hx => (hos.2 x).1 hx)
 have hol2 : os.length <= rows.length := by
  have := asc_le (ps := (List.range rows.length).map (fun i : Nat => (i : Int))) hos.1 (fun x hx => by
   obtain ⟨e1, e2⟩ := HIN.out x ((hos.2 x).1 hx)
   exact List.mem_map.2 ⟨x.toNat, List.mem_range.2 (by omega), by omega⟩)
  simpa using this
 have HSL := hid (slr_of_owns hown)
 obtain ⟨ao, co, rfl, _⟩ := lst_of_owns hown
 have HB1 : Hid (Below w.heap.size w w1) := HB0.out.trans (hb1.mono HB0.out.size)
 have HR1 := hid (HR0.out.of_block (hb1.block _ hs0))
 have hs1 : w.heap.size < w1.heap.size := Nat.lt_of_lt_of_le hs0 hb1.size
 clear hos hown hb1 HB0 HR0 hs0 HP0
 have HBX : Hid (Below w1.heap.size w1 (w1.alloc (.cells #[.slice ao os.length co, .slice none 0 0, .slice none 0 0] 31))) := (Below.refl _ _).alloc (Nat.le_refl _) _
 have HO2 := hid (tri_new w1 31 (.slice ao os.length co) (.slice none 0 0) (.slice none 0 0))
 have HR2 := hid (HR1.out.of_block (HBX.out.block _ hs1))
 have HSL2 := hid (HSL.out.keep HBX.out)
 have HB2 : Hid (Below w.heap.size w (w1.alloc (.cells #[.slice ao os.length co, .slice none 0 0, .slice none 0 0] 31))) := HB1.out.trans (HBX.out.mono HB1.out.size)
 have hs2 : w1.heap.size < (w1.alloc (.cells #[.slice ao os.length co, .slice none 0 0, .slice none 0 0] 31)).heap.size := by simp
 go_wp2_with fail
 clear HBX HR1 HSL HB1
 generalize w1.alloc (.cells #[.slice ao os.length co, .slice none 0 0, .slice none 0 0] 31) = W2 at *
 obtain ⟨O, hO⟩ := exE (w1.heap.size)
 obtain ⟨R, hR⟩ := exE (w.heap.size)
 have HRW : Hid (R = w.heap.size) := hR
 rw [<- hO] at HO2 hs1 hs2 ⊢
 rw [<- hR] at HR2 hs1 ⊢
 clear hO hR
 go_loopw [9] (fun iv wr => ∃ (k : Nat) (vr : Value), k <= os.length /\ iv = .int .i64 k /\ Hid (wr.rowIs O 31 3 (tri (.slice ao os.length co) vr (.slice none 0 0)) /\ wr.rowIs R 31 3 (tri (.slice none 0 0) (.slice none 0 0) (.slice none 0 0)) /\ SlR wr os (.slice ao os.length co) /\ OwnR W2.heap.size wr vr (shw q rows (os.take k)) /\ Below w.heap.size w wr /\ W2.heap.size <= wr.heap.size))
  (fun iv _ => os.length - (intOf iv).toNat)
 case atStart => exact ⟨0, .slice none 0 0, Nat.zero_le _, rfl, HO2.out, HR2.out, HSL2.out, by rw [List.take_zero]; exact OwnR.nil _ _, HB2.out, Nat.le_refl _⟩
 case round =>
  obtain ⟨k, vr, hk, rfl, hC⟩ := hrel
  obtain ⟨cO, cR, cS, cV, cB, cZ⟩ := hC.out
  by_cases hlt : k < os.length
  ·have hlt2 : (k : Int) < (os.length : Int) := by omega
   have hkw : IntKind.i64.wrap ((k : Int) + 1) = (k : Int) + 1 := by rw [IntKind.wrap_i64]; omega
   obtain ⟨_, _, e1, cL⟩ := cS.lst
   cases e1
   obtain ⟨b1, o1, rfl, _, hc1⟩ := cL.row k hlt
   obtain ⟨hx0, hx1⟩ := HIN.out (zat os k) ((HOS.out.2 _).1 (zat_mem hlt))
   obtain ⟨y, hy⟩ := Int.eq_ofNat_of_zero_le hx0
   have hyl : y < rows.length := by omega
   have hyl2 : (y : Int) < (rows.length : Int) := by omega
   obtain ⟨b2, o2, ak, ck, rfl, hb2, hc2, hlk⟩ := HL.out.row y hyl
   have hd2 := (cB.cell (p := ⟨b2, o2 + y, none⟩) hb2).trans hc2
   have HLK := hid ((hlk.below cB).mono cB.size)
   obtain ⟨hfy, hfl⟩ := HFR.out y hyl
   have HSN : Hid (shw q rows (os.take (k + 1)) = shw q rows (os.take k) ++ [elr q (rat rows y)]) := by
    unfold Hid
    rw [shw_snoc q rows hlt, hy, Int.toNat_natCast]
   rw [hy] at hc1
   have HTL : Hid ((shw q rows (os.take k)).length = k) := by unfold Hid; rw [shw_len, List.length_take]; omega
   have HAL := hid (rall_own q (rat rows y).length ck ak (zat (rat rows y)) wr h3 h4 (by omega) hfy (HLK.out.row.f))
   rw [show ls (fun j => zat (rat rows y) j % (q : Int)) (rat rows y).length = elr q (rat rows y) from rfl] at HAL
   have HC := hid (And.intro cO (And.intro cR (And.intro cS (And.intro cV (And.intro cB cZ)))))
   clear hC cO cR cS cV cB cZ cL hc2 hlk hy hx0 hx1 HLK hfy
   generalize (rat rows y).length = ly at *
   generalize elr q (rat rows y) = E at *
   go_wp2_with fail
   refine HAL.out.mono ?_
   rintro e w3 ⟨v3, rfl, hown3, hb3⟩
   have hS3 := slr_of_owns hown3
   obtain ⟨a3, c3, e3, _⟩ := hS3.lst
   subst e3
   obtain ⟨cO, cR, cS, cV, cB, cZ⟩ := HC.out
   have dO := cO.of_block (hb3.block _ cO.lt)
   have z1 := dO.cell (i := 1) (by omega)
   have H3 := hid (And.intro dO (And.intro (cR.of_block (hb3.block _ cR.lt)) (And.intro (cS.keep hb3) (And.intro (cV.keep hb3) (And.intro (cB.trans (hb3.mono cB.size)) (And.intro (Nat.le_trans cZ hb3.size) hS3))))))
   have hOl : O < w3.heap.size := dO.lt
   clear hown3 hb3 hS3 cO cR cS cV cB cZ dO HC HAL
   go_wp2_with (at_builtin; refine wpList_row1 w3 W2.heap.size rfl _ _ rfl vr _ (shw q rows (os.take k)) E H3.out.2.2.2.1 H3.out.2.2.2.2.2.2 rfl rfl (by rw [HTL.out]; omega) H3.out.2.2.2.2.2.1 ?_)
   intro v4 w4 ho4 hb4 hn4
   obtain ⟨dO, dR, dS, _, dB, dZ, _⟩ := H3.out
   rw [<- HSN.out] at ho4
   have eO := dO.of_block (hb4.block O (by omega))
   have eR := dR.of_block (hb4.block R (by omega))
   have hOw := rowO eO
   have y1 := eO.frozen 1
   have y2 := eO.cell (i := 1) (by omega)
   have hsz4 := hb4.size
   have HE : Hid ((w4.setCell ⟨O, 1, none⟩ v4).rowIs O 31 3 (tri (.slice (some ⟨b1, o1, none⟩) os.length co) v4 (.slice none 0 0)) /\ (w4.setCell ⟨O, 1, none⟩ v4).rowIs R 31 3 (tri (.slice none 0 0) (.slice none 0 0) (.slice none 0 0)) /\ SlR (w4.setCell ⟨O, 1, none⟩ v4) os (.slice (some ⟨b1, o1, none⟩) os.length co) /\ OwnR W2.heap.size (w4.setCell ⟨O, 1, none⟩ v4) v4 (shw q rows (os.take (k + 1))) /\ Below w.heap.size w (w4.setCell ⟨O, 1, none⟩ v4) /\ W2.heap.size <= (w4.setCell ⟨O, 1, none⟩ v4).heap.size) := by
    refine ⟨tri_set1 eO v4, eR.setOther (a := ⟨O, 1, none⟩) (by show R ≠ O; omega) _, (dS.blocks hb4.size hn4).setO hOw, ho4.setO hOw, (dB.trans (hb4.mono HB2.out.size)).setCell (p := ⟨O, 1, none⟩) (by have := HRW.out; show w.heap.size <= O; omega) _, ?_⟩
    simp [World.setCell]
    omega
   obtain ⟨a4, c4, e4, _⟩ := ho4.lst
   subst e4
   clear ho4 hb4 hn4 dO dR dS dB dZ eO eR hOw H3
   go_wp2_with fail
   go_roundw
   case rel => exact ⟨k + 1, _, by omega, by go_num, HE⟩
   case measure => simp [intOf]; omega
  ·obtain rfl : k = os.length := by omega
   rw [List.take_length] at cV
   obtain ⟨ar, cr, e1, _⟩ := cV.lst
   subst e1
   rw [shw_len] at cO
   obtain ⟨_, _, e2, cL⟩ := cS.lst
   cases e2
   have HNO := hid (rnodes_any q n h5 h4 HPN.out co ao os (by omega) rows.length cap a rows 0 wr h1 (Nat.le_refl _) hmr (Int.le_refl _) (by omega) HFR.out ((HL.out.below cB).mono cB.size) cL.row)
   have HC := hid (And.intro cO (And.intro cR (And.intro cS (And.intro cV (And.intro cB cZ)))))
   clear hC cO cR cS cV cB cZ cL
   go_wp2_with fail
   refine HNO.out.mono ?_
   rintro e w5 ⟨vn, rfl, hvn, hb5⟩
   obtain ⟨an', cn, e3, _⟩ := hvn.lst
   subst e3
   obtain ⟨cO, cR, cS, cV, cB, cZ⟩ := HC.out
   have dO := cO.of_block (hb5.block _ cO.lt)
   have dR := cR.of_block (hb5.block _ cR.lt)
   have z1 := dO.cell (i := 2) (by omega)
   have y1 := dO.frozen 2
   have hOw := rowO dO
   have hRw := rowO dR
   have hOR : R ≠ O := by omega
   have hRO : O ≠ R := by omega
   generalize (ndf q n rows.length rows os 0).length = ln at *
   have HA : Hid ((w5.setCell ⟨O, 2, none⟩ (.slice an' ln cn)).heap[O]? = some (.cells #[.slice ao os.length co, .slice ar (shw q rows os).length cr, .slice an' ln cn] 31 (0, 0))) := by
    unfold Hid
    rw [shw_len]
    exact tri_arr (tri_set2 dO _)
   have HRR : Hid ((w5.setCell ⟨O, 2, none⟩ (.slice an' ln cn)).heap[R]? = some (.cells #[.slice none 0 0, .slice none 0 0, .slice none 0 0] 31 (0, 0))) := tri_arr (dR.setOther (a := ⟨O, 2, none⟩) hOR _)
   have HX : Hid (SlR (w5.setCell ⟨O, 2, none⟩ (.slice an' ln cn)) os (.slice ao os.length co) /\ OwnR w.heap.size (w5.setCell ⟨O, 2, none⟩ (.slice an' ln cn)) (.slice ar (shw q rows os).length cr) (shw q rows os) /\ OwnR w.heap.size (w5.setCell ⟨O, 2, none⟩ (.slice an' ln cn)) (.slice an' ln cn) (ndf q n rows.length rows os 0) /\ Below w.heap.size w (w5.setCell ⟨O, 2, none⟩ (.slice an' ln cn))) :=
    ⟨(cS.keep hb5).setO hOw, ((cV.keep hb5).setO hOw).mono (by have := HB2.out.size; exact this), (hvn.setO hOw).mono cB.size, (cB.trans (hb5.mono cB.size)).setCell (p := ⟨O, 2, none⟩) (by have := HRW.out; show w.heap.size <= O; omega) _⟩
   clear hvn hb5 cO cR cS cV cB cZ dO dR hOw HC HNO
   go_wp2_with (first
    | (refine wpList_load_row rfl 31 _ rfl O rfl _ _ _ _ HA.out Tryz.underlying31 rfl (by kernel_rfl) ?_)
    | (refine wpList_store_row rfl 31 _ _ rfl R #[.slice ao os.length co, .slice ar (shw q rows os).length cr, .slice an' ln cn] rfl rfl _ _ HRR.out (by kernel_rfl) rfl (by simp [Value.oneCell']) ?_))
   refine bodyPost_ret (results_cell_row rfl _ _ R 31 #[.slice ao os.length co, .slice ar (shw q rows os).length cr, .slice an' ln cn] (0, 0) _ rfl (setRow_heap _ _ _ _ _ _ HRR.out) Tryz.underlying31 rfl (by kernel_rfl)) rfl ?_
   have hRw2 : ∃ c f, (w5.setCell ⟨O, 2, none⟩ (.slice an' ln cn)).heap[R]? = some (.cells c 31 f) := ⟨_, _, HRR.out⟩
   refine ⟨os, _, _, _, rfl, HOS.out, HX.out.1.onlyO hRw2 (by simp) (fun b hb => setRow_other _ _ _ _ hb), HX.out.2.1.onlyO hRw2 (by simp) (fun b hb => setRow_other _ _ _ _ hb), HX.out.2.2.1.onlyO hRw2 (by simp) (fun b hb => setRow_other _ _ _ _ hb), below_setRow HX.out.2.2.2 (by have := HRW.out; omega) _⟩
def fx (ps : List Int) (x : Int) : Nat := ((List.range ps.length).find? (fun i => zat ps i == x)).getD 0
def upf (q n : Nat) (ps : List Int) (rows nodes : List (List Int)) : Nat -> Int -> Nat -> Nat -> Bool -> List Int × Nat × Bool
 | 0, _, _, t, bad => ([], t, bad)
 | k + 1, first, cnt, t, bad =>
  if smb ps first (first + (cnt : Int)) = false then (if nodes.length <= t ∨ (rat nodes t).length ≠ 4 then ([0, 0, 0, 0], t, true) else (elr q (rat nodes t), t + 1, bad))
  else if cnt = 1 then (digl q n (0 :: rat rows (fx ps first)), t, bad)
  else
   (digl q n (1 :: ((upf q n ps rows nodes k first (lft cnt) t bad).1 ++ (upf q n ps rows nodes k (first + ((lft cnt : Nat) : Int)) (cnt - lft cnt) (upf q n ps rows nodes k first (lft cnt) t bad).2.1 (upf q n ps rows nodes k first (lft cnt) t bad).2.2).1)),
    (upf q n ps rows nodes k (first + ((lft cnt : Nat) : Int)) (cnt - lft cnt) (upf q n ps rows nodes k first (lft cnt) t bad).2.1 (upf q n ps rows nodes k first (lft cnt) t bad).2.2).2)
theorem elr_fits {q : Nat} (h3 : 3 <= q) (h4 : q <= 2147483647) (r : List Int) : Fits (elr q r) := fun j hj => by
 unfold elr at *
 rw [ls_len] at hj
 rw [ls_at _ _ _ hj]
 have := emod_bounds (zat r j) q h3
 omega
def AscN (N : Int) (ps : List Int) : Prop := ∀ j, j < ps.length -> 0 <= zat ps j /\ zat ps j < N /\ (0 < j -> zat ps (j - 1) < zat ps j)
instance (N : Int) (ps : List Int) : Decidable (AscN N ps) := by unfold AscN; infer_instance
def chkf (q n : Nat) (root : List Int) (N : Int) (ps : List Int) (rows nodes : List (List Int)) : Bool :=
 decide (1 <= N /\ N <= 65536 /\ rows.length = ps.length /\ root.length = 4 /\ AscN N ps) &&
  (samb q (upf q n ps rows nodes N.toNat 0 N.toNat 0 false).1 root && !(upf q n ps rows nodes N.toNat 0 N.toNat 0 false).2.2 && (upf q n ps rows nodes N.toNat 0 N.toNat 0 false).2.1 == nodes.length)
theorem chkf_no {q n : Nat} {root : List Int} {N : Int} {ps : List Int} {rows nodes : List (List Int)} (h : ¬ (1 <= N /\ N <= 65536 /\ rows.length = ps.length /\ root.length = 4 /\ AscN N ps)) : chkf q n root N ps rows nodes = false := by
 unfold chkf
 rw [decide_eq_false h]
 rfl
theorem chkf_yes {q n : Nat} {root : List Int} {N : Int} {ps : List Int} {rows nodes : List (List Int)} (h : 1 <= N /\ N <= 65536 /\ rows.length = ps.length /\ root.length = 4 /\ AscN N ps) : chkf q n root N ps rows nodes = (samb q (upf q n ps rows nodes N.toNat 0 N.toNat 0 false).1 root && !(upf q n ps rows nodes N.toNat 0 N.toNat 0 false).2.2 && (upf q n ps rows nodes N.toNat 0 N.toNat 0 false).2.1 == nodes.length) := by
 unfold chkf
 rw [decide_eq_true h]
 rfl
theorem digl_congr {q n : Nat} {l l' : List Int} (hl : l.length = l'.length) (h : ∀ j, j < l.length -> zat l j % (q : Int) = zat l' j % (q : Int)) : digl q n l = digl q n l' := by
 have e : pdf q (zat l) l.length = pdf q (zat l') l'.length := by
  funext j
  unfold pdf
  rw [<- hl]
  split
  ·rename_i hj
   exact h j hj
  ·rfl
 unfold digl
 rw [e, hl]
theorem ls_cong {f g : Nat -> Int} {n : Nat} (h : ∀ j, j < n -> f j = g j) : ls f n = ls g n := by
 unfold ls
 exact List.map_congr_left (fun j hj => h j (List.mem_range.1 hj))
theorem elr_digl {q : Nat} (h3 : 3 <= q) (n : Nat) (l : List Int) : elr q (digl q n l) = digl q n l := by
 unfold elr
 rw [digl_len]
 unfold digl
 refine ls_cong fun j hj => ?_
 rw [ls_at _ _ _ hj]
 have := hst_bounds q n (pdf q (zat l) l.length) (l.length / 4 + 1) j h3
 exact Int.emod_eq_of_lt this.1 this.2
theorem elr_rtf {q : Nat} (h3 : 3 <= q) (n k : Nat) (rows : List (List Int)) (hk : 1 <= k) : elr q (rtf q n k rows) = rtf q n k rows := by
 cases k with
 | zero => omega
 | succ k => simp only [rtf]; split <;> exact elr_digl h3 _ _
theorem leaf_elr {q : Nat} (n : Nat) (r : List Int) (z : Int) : digl q n (z :: elr q r) = digl q n (z :: r) := by
 have hl : (elr q r).length = r.length := by unfold elr; exact ls_len _ _
 refine digl_congr (by simp [hl]) fun j hj => ?_
 cases j with
 | zero => rfl
 | succ j =>
  have hj2 : j < r.length := by simp [hl] at hj; omega
  show zat (elr q r) j % (q : Int) = zat r j % (q : Int)
  unfold elr
  rw [ls_at _ _ _ hj2, Int.emod_emod_of_dvd _ (Int.dvd_refl _)]
theorem rat_shw {q : Nat} {rows : List (List Int)} {os : List Int} {i : Nat} (h : i < os.length) : rat (shw q rows os) i = elr q (rat rows (zat os i).toNat) := by
 show (shw q rows os).getD i [] = _
 unfold shw zat
 rw [List.getD_eq_getElem?_getD, List.getElem?_map, List.getElem?_eq_getElem h]
 rfl
theorem fx_spec {ps : List Int} {x : Int} (h : ∃ j, j < ps.length /\ zat ps j = x) : fx ps x < ps.length /\ zat ps (fx ps x) = x := by
 obtain ⟨j, h1, h2⟩ := h
 unfold fx
 cases e : (List.range ps.length).find? (fun i => zat ps i == x) with
 | none =>
  have := List.find?_eq_none.1 e j (List.mem_range.2 h1)
  simp [h2] at this
 | some i =>
  have h3 := List.find?_some e
  have h4 := List.mem_range.1 (List.mem_of_find?_eq_some e)
  exact ⟨h4, by simpa using h3⟩
theorem up_shown {q : Nat} (h3 : 3 <= q) (n : Nat) (rows : List (List Int)) (os : List Int) (nodes : List (List Int)) : ∀ (k first cnt t : Nat) (bad : Bool), 1 <= cnt -> cnt <= k -> first + cnt <= rows.length -> (∃ post, nodes.drop t = ndf q n k ((rows.drop first).take cnt) os (first : Int) ++ post) ->
  upf q n os (shw q rows os) nodes k (first : Int) cnt t bad = (rtf q n k ((rows.drop first).take cnt), t + (ndf q n k ((rows.drop first).take cnt) os (first : Int)).length, bad)
 | 0, _, _, _, _, h1, h2, _, _ => by omega
 | k + 1, first, cnt, t, bad, h1, h2, h5, hp => by
  have hlen : ((rows.drop first).take cnt).length = cnt := by rw [List.length_take, List.length_drop]; omega
  obtain ⟨post, hp⟩ := hp
  simp only [ndf, hlen] at hp ⊢
  simp only [upf]
  by_cases hs : smb os (first : Int) ((first : Int) + (cnt : Int)) = false
  ·rw [if_pos hs] at hp ⊢
   rw [if_pos hs]
   have e0 : rat nodes t = rtf q n (k + 1) ((rows.drop first).take cnt) := by
    have e : rat (nodes.drop t) 0 = rtf q n (k + 1) ((rows.drop first).take cnt) := by rw [hp]; rfl
    rw [rat_drop] at e
    exact e
   have e1 : t < nodes.length := by
    have e : (nodes.drop t).length = 1 + post.length := by rw [hp]; simp; omega
    rw [List.length_drop] at e
    omega
   rw [if_neg (by rw [e0, rtf_len q n (k + 1) _ (by omega)]; omega), e0, elr_rtf h3 n (k + 1) _ (by omega)]
   rfl
  ·rw [if_neg hs] at hp ⊢
   rw [if_neg hs]
   have hst : smb os (first : Int) ((first : Int) + (cnt : Int)) = true := by simpa using hs
   by_cases hone : cnt = 1
   ·rw [if_pos hone]
    rw [if_pos hone]
    simp only [rtf, hlen]
    rw [if_pos hone]
    obtain ⟨j, g1, g2, g3⟩ := smb_iff.1 hst
    obtain ⟨f1, f2⟩ := fx_spec (ps := os) (x := (first : Int)) ⟨j, g1, by omega⟩
    rw [rat_shw f1, f2, leaf_elr, rat_take (by omega), rat_drop]
    simp
   ·obtain ⟨_, l2, l3⟩ := lft_spec cnt
    have l3' := l3 (by omega)
    rw [if_neg hone] at hp ⊢
    rw [if_neg hone]
    obtain ⟨m, hm⟩ := exE (lft cnt)
    simp only [rtf, hlen]
    rw [if_neg hone]
    rw [<- hm] at hp l2 l3' ⊢
    have t1 : ((rows.drop first).take cnt).take m = (rows.drop first).take m := by rw [List.take_take, Nat.min_eq_left (by omega)]
    have t2 : ((rows.drop first).take cnt).drop m = (rows.drop (first + m)).take (cnt - m) := by rw [List.drop_take, List.drop_drop]
    rw [t1, t2] at hp ⊢
    have c1 : (first : Int) + (m : Int) = ((first + m : Nat) : Int) := by omega
    rw [c1] at hp ⊢
    have i1 := up_shown h3 n rows os nodes k first m t bad (by omega) (by omega) (by omega) ⟨_, by rw [hp, List.append_assoc]⟩
    have i2 := up_shown h3 n rows os nodes k (first + m) (cnt - m) (t + (ndf q n k ((rows.drop first).take m) os (first : Int)).length) bad (by omega) (by omega) (by omega) ⟨post, by
     rw [<- List.drop_drop, hp, List.append_assoc, List.drop_left]⟩
    rw [i1]
    dsimp only
    rw [i2]
    simp [List.length_append, Nat.add_assoc]
theorem chk_shown {q : Nat} (h3 : 3 <= q) (n : Nat) (rows : List (List Int)) (os : List Int) (h1 : 1 <= rows.length) (h2 : rows.length <= 65536) (hos : AscN (rows.length : Int) os) :
  chkf q n (rtf q n rows.length rows) (rows.length : Int) os (shw q rows os) (ndf q n rows.length rows os 0) = true := by
 have e := up_shown h3 n rows os (ndf q n rows.length rows os 0) rows.length 0 rows.length 0 false h1 (Nat.le_refl _) (by omega) ⟨[], by simp⟩
 simp only [List.drop_zero, List.take_length, Nat.zero_add, Int.natCast_zero] at e
 rw [chkf_yes ⟨by omega, by omega, shw_len _ _ _, rtf_len _ _ _ _ h1, hos⟩, Int.toNat_natCast, e]
 rw [samb_true rfl (fun _ _ => rfl)]
 simp
theorem samb_iff {q : Nat} {xs ys : List Int} : samb q xs ys = true ↔ xs.map (· % (q : Int)) = ys.map (· % (q : Int)) := by
 unfold samb
 rw [decide_eq_true_eq]
theorem elr_map (q : Nat) (r : List Int) : elr q r = r.map (· % (q : Int)) := by
 apply List.ext_getElem?
 intro i
 unfold elr ls
 rw [List.getElem?_map, List.getElem?_map]
 by_cases h : i < r.length
 ·rw [List.getElem?_range h, List.getElem?_eq_getElem h]
  simp [zat, h]
 ·rw [List.getElem?_eq_none (by simp; omega), List.getElem?_eq_none (by omega)]
  rfl
theorem upf_red {q : Nat} (h3 : 3 <= q) (n : Nat) (ps : List Int) (rows nodes : List (List Int)) (k : Nat) (first : Int) (cnt t : Nat) (bad : Bool) : elr q (upf q n ps rows nodes k first cnt t bad).1 = (upf q n ps rows nodes k first cnt t bad).1 := by
 cases k with
 | zero => rfl
 | succ k =>
  simp only [upf]
  split
  ·split
   ·rw [elr_map]; simp
   ·rw [elr_map, elr_map, List.map_map]
    exact List.map_congr_left fun x _ => Int.emod_emod_of_dvd _ (Int.dvd_refl _)
  ·split <;> exact elr_digl h3 _ _
end Go.Proofs.YtlhjifpomchnfaaGreatDoor
