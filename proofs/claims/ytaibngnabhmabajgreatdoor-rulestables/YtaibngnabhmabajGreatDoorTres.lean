/- Rows of rows that a call owns; attestsame.Copied, Rows. attestref3, the trees: Nodes. attestref3, the trees: Once. attestref5.Open. attestref3, the trees: Climb's Up. attestref3, the trees: Climb's Up: what lacks. attestref3, the trees: Climb's Up: a node of another length. attestref3, the trees: Climb's Up: a node is taken. attestref3, the trees: Climb's Up: a row that is shown. attestref3, the trees: Climb's Up: the tree of what is shown. attestref3: Check. Trees, plain facts: what is opened is taken. -/
import Derived.Test.YtaibngnabhmabajGreatDoorRefs
import Derived.Test.YtaibngnabhmabajGreatDoorSpgs
import Derived.Deep.Onto
import Derived.OneCell
import Derived.Test.YtaibngnabhmabajGreatDoorBtAQ
import Derived.StillTailTactics
namespace Go.Proofs.YtaibngnabhmabajGreatDoor
open Go.RowKit

/-- a block that is no row of lists or of rows, no Opening, no Folded and no chain of either side -/
def NotRow (w : World) (b : Nat) : Prop := ∃ c t f, w.heap[b]? = some (.cells c t f) ∧ t ≠ 22 ∧ t ≠ 486 ∧ t ≠ 486 ∧ t ≠ 486 ∧ t ≠ 69 ∧ t ≠ 486
/-- a list -/
def SlR (w : World) (r : List Int) (v : Value) : Prop := ∃ a c, v = .slice a r.length c ∧ Lst w.heap.size w a c r ∧ (0 < r.length → ∃ b o, a = some ⟨b, o, none⟩ ∧ NotRow w b)
theorem SlR.blocks {w w' : World} {r : List Int} {v : Value} (h : SlR w r v) (hs : w.heap.size ≤ w'.heap.size) (e : ∀ b, b < w.heap.size → NotRow w b → w'.heap[b]? = w.heap[b]?) : SlR w' r v := by
  obtain ⟨a, c, rfl, hl, hn⟩ := h
  refine ⟨a, c, rfl, ⟨fun k hk => ?_, hl.room, hl.nil⟩, fun h0 => ?_⟩
  · obtain ⟨b, o, rfl, h2, h3⟩ := hl.row k hk
    obtain ⟨b', o', e1, hb⟩ := hn (by omega)
    cases e1
    exact ⟨b, o, rfl, by omega, (World.cell?_of_block (w := w) (a := ⟨b, o + k, none⟩) (e b h2 hb)).trans h3⟩
  · obtain ⟨b, o, rfl, hb⟩ := hn h0
    obtain ⟨b', o', e1, h2, _⟩ := hl.row 0 h0
    cases e1
    obtain ⟨c', t, f, h3, h4⟩ := hb
    exact ⟨b, o, rfl, c', t, f, (e b h2 ⟨c', t, f, h3, h4⟩).trans h3, h4⟩
theorem SlR.keep {w w' : World} {r : List Int} {v : Value} (h : SlR w r v) (e : Below w.heap.size w w') : SlR w' r v := h.blocks e.size (fun b hb _ => e.block b hb)
theorem SlR.one {w : World} {r : List Int} {v : Value} (h : SlR w r v) : v.oneCell' = true := by obtain ⟨a, c, rfl, _⟩ := h; rfl
theorem SlR.lst {w : World} {r : List Int} {v : Value} (h : SlR w r v) : ∃ a c, v = .slice a r.length c ∧ Lst w.heap.size w a c r := by obtain ⟨a, c, h1, h2, _⟩ := h; exact ⟨a, c, h1, h2⟩
theorem slr_of_owns {w : World} {base : Nat} {v : Value} {zs : List Int} (h : w.ownsRow base 3 1 v zs.length (zs.map (Value.int .i64))) : SlR w zs v := by
  obtain ⟨a, c, rfl, hl⟩ := lst_of_owns h
  refine ⟨a, c, rfl, hl, fun h0 => ?_⟩
  rcases h.2 with ⟨_, h1⟩ | ⟨g, cap, cur, hv, _, hg, _⟩
  · omega
  · injection hv with e1 _ _
    exact ⟨g, 0, e1, cur, 3, (0, 0), hg, by decide, by decide, by decide, by decide, by decide, by decide⟩

/-- rows of rows of the call's own -/
def OwnR (base : Nat) (w : World) (v : Value) (rs : List (List Int)) : Prop := ∃ vals : List Value, w.ownsRow base 22 1 v rs.length vals ∧ ∀ j, j < rs.length → ∃ u, vals[j]? = some u ∧ SlR w (rat rs j) u
theorem gb_of_below {w w' : World} (e : Below w.heap.size w w') : w.grownBy w' none := ⟨e.os, e.tape, e.output, e.size, fun k hk _ => e.block k hk⟩
theorem OwnR.keep {base : Nat} {w w' : World} {v : Value} {rs : List (List Int)} (h : OwnR base w v rs) (e : Below w.heap.size w w') : OwnR base w' v rs := by
  obtain ⟨vals, h1, h2⟩ := h
  refine ⟨vals, h1.kept (gb_of_below e) ?_, fun j hj => ?_⟩
  · cases v.ownBlock with
    | none => exact .inl rfl
    | some k => exact .inr (by simp)
  · obtain ⟨u, h3, h4⟩ := h2 j hj
    exact ⟨u, h3, h4.keep e⟩
theorem OwnR.nil (base : Nat) (w : World) : OwnR base w (.slice none 0 0) [] := ⟨[], World.ownsRow_nil _ _ _ _, fun j hj => by simp at hj⟩
theorem OwnR.lst {base : Nat} {w : World} {v : Value} {rs : List (List Int)} (h : OwnR base w v rs) : ∃ a c, v = .slice a rs.length c ∧ LstR w.heap.size w a c rs := by
  obtain ⟨vals, h1, h2⟩ := h
  rcases h1.2 with ⟨rfl, h0⟩ | ⟨g, cap, cur, rfl, hb, hg, hn, hm, hs, ht⟩
  · exact ⟨none, 0, by rw [h0], fun k hk => by omega, by omega, fun _ => rfl⟩
  · refine ⟨some ⟨g, 0, none⟩, cap, rfl, fun k hk => ?_, hn, fun e => by cases e⟩
    obtain ⟨u, h3, h4⟩ := h2 k hk
    obtain ⟨a, c, rfl, hl⟩ := h4.lst
    refine ⟨g, 0, a, c, rfl, (Array.getElem?_eq_some_iff.1 hg).1, ?_, hl⟩
    rw [Nat.zero_add, h1.cellAt k (by omega), h3]
theorem OwnR.mono {base base' : Nat} {w : World} {v : Value} {rs : List (List Int)} (h : OwnR base w v rs) (e : base' ≤ base) : OwnR base' w v rs := by
  obtain ⟨vals, h1, h2⟩ := h
  exact ⟨vals, World.ownsRow.mono h1 e, h2⟩
theorem OwnR.len {base : Nat} {w : World} {v : Value} {rs : List (List Int)} (h : OwnR base w v rs) : lenV v = rs.length := by obtain ⟨a, c, rfl, _⟩ := h.lst; rfl
theorem OwnR.own {base : Nat} {w : World} {v : Value} {rs : List (List Int)} (h : OwnR base w v rs) : ∀ k, v.ownBlock = some k → base ≤ k ∧ k < w.heap.size ∧ ¬ NotRow w k := fun k hk => by
  obtain ⟨vals, h1, _⟩ := h
  refine ⟨(h1.lt k hk).1, (h1.lt k hk).2, ?_⟩
  rintro ⟨c, t, f, h3, h4⟩
  rcases h1.2 with ⟨rfl, _⟩ | ⟨g, cap, cur, rfl, hb, hg, _⟩
  · cases hk
  · cases hk
    rw [hg] at h3
    cases h3
    exact h4.1 rfl

theorem rat_app (rs ts : List (List Int)) (j : Nat) : rat (rs ++ ts) j = if j < rs.length then rat rs j else rat ts (j - rs.length) := by
  unfold rat
  by_cases h : j < rs.length
  · rw [if_pos h]; simp [List.getElem?_append_left h]
  · rw [if_neg h]; simp [List.getElem?_append_right (show rs.length ≤ j by omega)]

/-- append(out, l...) where out is the call's own -/
theorem wpList_rows {ops : Array Oper} {rest : List Oper} {o : Oper} {act : Act} {Q : Exit → Act → World → Prop} (W : World) (base : Nat) (hgd : o.guard = none) (s x : Operand)
    (ho : o.op = .call { callee := .builtin .append, args := #[s, x], argTypes := #[69, 69] }) (v : Value) (rs ts : List (List Int))
    (hown : OwnR base W v rs) (hs : act.eval s = v) (ad : Addr) (m cap : Nat) (hm : m = ts.length) (hx : act.eval x = .slice (some ad) m cap) (us : List Value) (hul : us.length = ts.length) (huc : ∀ j u, us[j]? = some u → W.cell? (ad.add j) = some u)
    (hus : ∀ j, j < ts.length → ∃ u, us[j]? = some u ∧ SlR W (rat ts j) u) (hlen : rs.length + ts.length ≤ 5864062014805) (hbase : base ≤ W.heap.size)
    (h : ∀ v' w2, OwnR base w2 v' (rs ++ ts) → Below base W w2 → (∀ b, b < W.heap.size → NotRow W b → w2.heap[b]? = W.heap[b]?) → wpList Tryz.prog ops Q rest (act.put o.dst v') w2) :
    wpList Tryz.prog ops Q (o :: rest) act W := by
  subst hm
  obtain ⟨i0, hi, hz0, hz1, hz2⟩ := info_parts Tryz.infoSl
  have howb := hown.own
  obtain ⟨vals, h1, h2⟩ := hown
  have hvl : vals.length = rs.length := by have := h1.1; omega
  refine wpList_append_own _ hgd s x 69 ho base 22 i0 (.slice none 0 0) 1 24 Tryz.underlying69 hi hz0 hz1 hz2 rfl (by decide) _ _ _ hs h1 ad ts.length cap us hx (by omega) huc ?_ (by unfold maxLen; omega) (by omega) hbase ?_
  · intro t ht
    obtain ⟨j, hj, rfl⟩ := List.getElem_of_mem ht
    obtain ⟨u, e1, e2⟩ := hus j (by omega)
    rw [List.getElem?_eq_getElem hj] at e1
    cases e1
    exact e2.one
  · intro v' w2 hown2 hgrow _
    have hB : Below base W w2 := (Below.refl base W).grown hgrow hbase (fun k hk => (howb k hk).1)
    have hN : ∀ b, b < W.heap.size → NotRow W b → w2.heap[b]? = W.heap[b]? := fun b hb hn => hgrow.block b hb (fun e => (howb b e.symm).2.2 hn)
    refine h v' w2 ⟨vals ++ us, by rw [List.length_append]; exact hown2, fun j hj => ?_⟩ hB hN
    rw [List.length_append] at hj
    rw [rat_app rs ts j]
    by_cases hjr : j < rs.length
    · rw [if_pos hjr, List.getElem?_append_left (by omega)]
      obtain ⟨u, e1, e2⟩ := h2 j hjr
      exact ⟨u, e1, e2.blocks hgrow.size hN⟩
    · rw [if_neg hjr, List.getElem?_append_right (by omega), hvl]
      obtain ⟨u, e1, e2⟩ := hus (j - rs.length) (by omega)
      exact ⟨u, e1, e2.blocks hgrow.size hN⟩

/-- append(out, c) -/
theorem wpList_row1 {ops : Array Oper} {rest : List Oper} {o : Oper} {act : Act} {Q : Exit → Act → World → Prop} (W : World) (base : Nat) (hgd : o.guard = none) (s x : Operand)
    (ho : o.op = .call { callee := .builtin .append, args := #[s, x], argTypes := #[69, 69] }) (v u : Value) (rs : List (List Int)) (r : List Int)
    (hown : OwnR base W v rs) (hu : SlR W r u) (hs : act.eval s = v) (hx : act.eval x = .slice (some ⟨W.heap.size, 0, none⟩) 1 1) (hlen : rs.length + 1 ≤ 5864062014805) (hbase : base ≤ W.heap.size)
    (h : ∀ v' w2, OwnR base w2 v' (rs ++ [r]) → Below base W w2 → (∀ b, b < W.heap.size → NotRow W b → w2.heap[b]? = W.heap[b]?) → wpList Tryz.prog ops Q rest (act.put o.dst v') w2) :
    wpList Tryz.prog ops Q (o :: rest) act (W.alloc (.cells #[u] 22)) := by
  have hbw : Below W.heap.size W (W.alloc (.cells #[u] 22)) := (Below.refl _ _).alloc (Nat.le_refl _) _
  refine wpList_rows (W.alloc (.cells #[u] 22)) base hgd s x ho v rs [r] (hown.keep hbw) hs ⟨W.heap.size, 0, none⟩ 1 1 rfl hx [u] rfl ?_ ?_ hlen (by simp; omega) ?_
  · intro j t hj
    match j, hj with
    | 0, hj => simp at hj; subst hj; simp [Addr.add]
  · intro j hj
    obtain rfl : j = 0 := by simp at hj; exact hj
    exact ⟨u, rfl, hu.keep hbw⟩
  · intro v' w2 h1 h2 h3
    refine h v' w2 h1 ((hbw.mono hbase).trans h2) (fun b hb hn => ?_)
    have e := hbw.block b hb
    obtain ⟨c, t, f, h4, h5⟩ := hn
    exact (h3 b (by simp; omega) ⟨c, t, f, e.trans h4, h5⟩).trans e

/-- append([]int{}, l...) -/
theorem wpList_copyS {ops : Array Oper} {rest : List Oper} {o : Oper} {act : Act} {Q : Exit → Act → World → Prop} (w1 : World) (hgd : o.guard = none) (s x : Operand)
    (ho : o.op = .call { callee := .builtin .append, args := #[s, x], argTypes := #[22, 22] })
    (hs : act.eval s = .slice (some ⟨w1.heap.size, 0, none⟩) 0 0) (av : Option Addr) (cap : Nat) (zs : List Int) (hx : act.eval x = .slice av zs.length cap)
    (hlen : zs.length ≤ 17592186044416) (hl : Lst w1.heap.size w1 av cap zs)
    (h : ∀ v' w2, SlR w2 zs v' → Below w1.heap.size w1 w2 → wpList Tryz.prog ops Q rest (act.put o.dst v') w2) :
    wpList Tryz.prog ops Q (o :: rest) act (w1.alloc (.cells #[] 3)) := by
  obtain ⟨i0, hi, hz0, hz1, hz2⟩ := info_parts Tryz.infoInt
  have hown : (w1.alloc (.cells #[] 3)).ownsRow w1.heap.size 3 1 (.slice (some ⟨w1.heap.size, 0, none⟩) 0 0) 0 [] := World.ownsRow_made (size := 1) w1 #[] 0 (Nat.le_refl _) (by unfold maxLen; omega) (by simp)
  have hb0 : Below w1.heap.size w1 (w1.alloc (.cells #[] 3)) := (Below.refl _ _).alloc (Nat.le_refl _) _
  cases av with
  | none =>
    have hc := hl.nil rfl
    have hr := hl.room
    obtain rfl : cap = 0 := hc
    obtain rfl : zs = [] := List.length_eq_zero_iff.1 (by omega)
    refine wpList_append_own_none hgd s x 22 ho w1.heap.size 3 i0 1 Tryz.underlying22 hi _ _ _ hs hown hx ?_
    exact h _ _ (slr_of_owns (zs := []) hown) hb0
  | some ad =>
    refine wpList_append_own _ hgd s x 22 ho w1.heap.size 3 i0 (.int .i64 0) 1 8 Tryz.underlying22 hi hz0 hz1 hz2 rfl (by decide) _ _ _ hs hown ad zs.length cap (zs.map (Value.int .i64)) hx (by simp) ?_ ?_ (by unfold maxLen; omega) (by omega) (by simp) ?_
    · intro j u hu
      have hj : j < zs.length := by
        rcases Nat.lt_or_ge j zs.length with g | g
        · exact g
        · simp [g] at hu
      obtain ⟨b, off, h1, h2, h5⟩ := hl.row j hj
      cases h1
      have hadd : (⟨b, off, none⟩ : Addr).add j = ⟨b, off + j, none⟩ := by unfold Addr.add; split <;> simp_all
      rw [hadd, World.cell?_alloc_lt _ _ ⟨b, off + j, none⟩ h2]
      refine h5.trans ?_
      simp [zat, hj] at hu ⊢
      exact hu
    · intro u hu; obtain ⟨y, _, rfl⟩ := List.mem_map.1 hu; rfl
    · intro v' w2 hown2 hgrow _
      rw [Nat.zero_add, List.nil_append] at hown2
      exact h v' w2 (slr_of_owns hown2) (hb0.grown hgrow (by simp) (fun k hk => (hown.lt k hk).1))

theorem take_succ_rat {rows : List (List Int)} {k : Nat} (h : k < rows.length) : rows.take (k + 1) = rows.take k ++ [rat rows k] := by
  rw [List.take_add_one, List.getElem?_eq_getElem h]
  simp [rat, h]

/-- are two rows of rows the same? -/
theorem take_eq_rows {as' bs : List (List Int)} {k : Nat} (ha : k < as'.length) (hb : k < bs.length) (h : as'.take k = bs.take k) (e : rat as' k = rat bs k) : as'.take (k + 1) = bs.take (k + 1) := by
  rw [take_succ_rat ha, take_succ_rat hb, h, e]

set_option maxRecDepth 100000 in
set_option maxHeartbeats 1000000 in
theorem srows_any (c1 c2 : Nat) (a1 a2 : Option Addr) (xs ys : List (List Int)) (n1 n2 : Nat) (w : World) (hx : xs.length ≤ 9223372036854775807) (_hy : ys.length ≤ 9223372036854775807) (hfx : ∀ k, k < xs.length → (rat xs k).length ≤ 9223372036854775807) (hfy : ∀ k, k < ys.length → (rat ys k).length ≤ 9223372036854775807)
    (hl1 : LstR n1 w a1 c1 xs) (hl2 : LstR n2 w a2 c2 ys) :
    Calls Tryz.prog 26 #[.slice a1 xs.length c1, .slice a2 ys.length c2] w fun e w' => e = .returned (.bool (decide (xs = ys))) ∧ ∃ n, w' = w.drewN n := by
  have HL1 := hid hl1
  have HL2 := hid hl2
  have HFX := hid hfx
  have HFY := hid hfy
  clear hl1 hl2 hfx hfy
  by_cases hl : xs.length = ys.length
  · have HL := hid hl
    rw [← hl]
    clear hl
    go_enter Tryz.func26, Tryz.ntmps26
    go_wp2_with fail
    go_loopw [5] (fun i wr => ∃ k n : Nat, k ≤ xs.length ∧ i = .int .i64 k ∧ Hid (xs.take k = ys.take k) ∧ Hid (wr = w.drewN n)) (fun i _ => xs.length - (intOf i).toNat)
    case atStart => exact ⟨0, 0, Nat.zero_le _, rfl, hid rfl, rfl⟩
    case round =>
      obtain ⟨k, n, hk, rfl, hT, hw⟩ := hrel
      by_cases hlt : k < xs.length
      · have hlt2 : (k : Int) < (xs.length : Int) := by omega
        have hkw : IntKind.i64.wrap ((k : Int) + 1) = (k : Int) + 1 := by rw [IntKind.wrap_i64]; omega
        have hlty : k < ys.length := by have := HL.out; omega
        obtain ⟨b1, o1, ak, ck, rfl, _, hc1, hr1⟩ := HL1.out.row k hlt
        obtain ⟨b2, o2, bk, dk, rfl, _, hc2, hr2⟩ := HL2.out.row k hlty
        have hd1 : wr.cell? ⟨b1, o1 + k, none⟩ = some (.slice ak (rat xs k).length ck) := by rw [hw.out]; exact hc1
        have hd2 : wr.cell? ⟨b2, o2 + k, none⟩ = some (.slice bk (rat ys k).length dk) := by rw [hw.out]; exact hc2
        have HI : Hid (∀ m : Nat, Calls Tryz.prog 57 #[.slice ak (rat xs k).length ck, .slice bk (rat ys k).length dk] (wr.drewN m) fun e w' => e = .returned (.bool (decide (rat xs k = rat ys k))) ∧ ∃ n, w' = (wr.drewN m).drewN n) := fun m => by
          have e : wr.drewN m = w.drewN (n + m) := by rw [hw.out]; simp [World.drewN, Nat.add_assoc]
          refine ints_any (rat xs k) (rat ys k) _ _ (wr.drewN m) (rowZ_of_B ck (n0 := n1) ?_) (rowZ_of_B dk (n0 := n2) ?_) (HFX.out k hlt) (HFY.out k hlty)
          · rw [e]; exact hr1.row
          · rw [e]; exact hr2.row
        have HS := hid (fun h => take_eq_rows hlt hlty hT.out h)
        have HNE : Hid (rat xs k ≠ rat ys k → ¬ xs = ys) := fun h e => h (by rw [e])
        have HDN : Hid (∀ m : Nat, ∃ n, wr.drewN m = w.drewN n) := fun m => ⟨n + m, by rw [hw.out]; simp [World.drewN, Nat.add_assoc]⟩
        clear hc1 hc2 hr1 hr2 hT hw
        by_cases hxy : rat xs k = rat ys k
        · have HS2 := hid (HS.out hxy)
          rw [decide_eq_true hxy] at HI
          clear hxy HS HNE HL1 HL2 HFX HFY
          generalize (rat xs k).length = l1 at *
          generalize (rat ys k).length = l2 at *
          go_wp2_with fail
          go_quiet (first
            | (go_at_call 57; exact Calls.quiet_of (HI.out _)))
          go_wp2_with fail
          obtain ⟨n', hn'⟩ := HDN.out nq
          go_roundw
          case rel => exact ⟨k + 1, n', by omega, by go_num, HS2, hn'⟩
          case measure => simp [intOf]; omega
        · have HE := hid (HNE.out hxy)
          rw [decide_eq_false hxy] at HI
          clear hxy HS HNE HL1 HL2 HFX HFY
          generalize (rat xs k).length = l1 at *
          generalize (rat ys k).length = l2 at *
          go_wp2_with fail
          go_quiet (first
            | (go_at_call 57; exact Calls.quiet_of (HI.out _)))
          go_wp2_with fail
          go_ret
          obtain ⟨n', hn'⟩ := HDN.out nq
          exact ⟨ret_bool (decide_eq_false HE.out).symm, n', hn'⟩
      · obtain rfl : k = xs.length := by omega
        have HE : Hid (xs = ys) := by
          have := hT.out
          rw [List.take_length, HL.out, List.take_length] at this
          exact this
        clear hT
        go_wp2_with fail
        go_ret
        exact ⟨ret_bool (decide_eq_true HE.out).symm, n, hw.out⟩
  · have hne : ((xs.length : Int) != (ys.length : Int)) = true := by rw [bne_iff_ne]; omega
    have HE : Hid (¬ xs = ys) := fun e => hl (by rw [e])
    clear hl HL1 HL2 HFX HFY
    go_enter Tryz.func26, Tryz.ntmps26
    go_wp2_with fail
    go_ret
    exact ⟨ret_bool (decide_eq_false HE.out).symm, 0, rfl⟩

end Go.Proofs.YtaibngnabhmabajGreatDoor

namespace Go.Proofs.YtaibngnabhmabajGreatDoor
open Go.RowKit

theorem LstD.slr {w : World} {g N : Nat} {l : List Int} (h : LstD w g N l) : SlR w l (.slice (some ⟨g, 0, none⟩) l.length N) := by
  obtain ⟨h1, c, f, h2⟩ := h
  exact ⟨_, _, rfl, h1, fun _ => ⟨g, 0, rfl, c, 3, f, h2, by decide, by decide, by decide, by decide, by decide, by decide⟩⟩

/-- [][]int{r} -/
theorem own_one {w : World} {r : List Int} {u : Value} (h : SlR w r u) : OwnR w.heap.size (w.alloc (.cells #[u] 22)) (.slice (some ⟨w.heap.size, 0, none⟩) 1 1) [r] := by
  have hb : Below w.heap.size w (w.alloc (.cells #[u] 22)) := (Below.refl _ _).alloc (Nat.le_refl _) _
  refine ⟨[u], ⟨by simp, .inr ⟨w.heap.size, 1, #[u], rfl, Nat.le_refl _, heap_alloc_new w _, Nat.le_refl _, by unfold maxLen; omega, rfl, by simp⟩⟩, fun j hj => ?_⟩
  obtain rfl : j = 0 := by simp at hj; exact hj
  exact ⟨u, rfl, h.keep hb⟩

/-- append(a, b...) of two that the call owns -/
theorem wpList_rowsR {ops : Array Oper} {rest : List Oper} {o : Oper} {act : Act} {Q : Exit → Act → World → Prop} (W : World) (base base2 : Nat) (hgd : o.guard = none) (s x : Operand)
    (ho : o.op = .call { callee := .builtin .append, args := #[s, x], argTypes := #[69, 69] }) (v vb : Value) (rs ts : List (List Int))
    (hown : OwnR base W v rs) (hob : OwnR base2 W vb ts) (hs : act.eval s = v) (hx : act.eval x = vb) (hlen : rs.length + ts.length ≤ 5864062014805) (hbase : base ≤ W.heap.size)
    (h : ∀ v' w2, OwnR base w2 v' (rs ++ ts) → Below base W w2 → wpList Tryz.prog ops Q rest (act.put o.dst v') w2) :
    wpList Tryz.prog ops Q (o :: rest) act W := by
  obtain ⟨i0, hi, hz0, hz1, hz2⟩ := info_parts Tryz.infoSl
  have hob' := hob
  obtain ⟨us, h1, h2⟩ := hob
  rcases h1.2 with ⟨rfl, h0⟩ | ⟨g, cap, cur, rfl, hb, hg, hn, hm, hsz, ht⟩
  · obtain rfl : ts = [] := List.length_eq_zero_iff.1 h0
    have hown' := hown
    obtain ⟨vals, h3, _⟩ := hown
    refine wpList_append_own_none hgd s x 69 ho base 22 i0 1 Tryz.underlying69 hi _ _ _ hs h3 hx ?_
    rw [List.append_nil] at h
    exact h v W hown' (Below.refl _ _)
  · refine wpList_rows W base hgd s x ho v rs ts hown hs ⟨g, 0, none⟩ ts.length cap rfl hx us (by have := h1.1; omega) (fun j u hu => ?_) h2 hlen hbase (fun v' w2 k1 k2 _ => h v' w2 k1 k2)
    have hj : j < ts.length := by
      have := (List.getElem?_eq_some_iff.1 hu).1
      have := h1.1
      omega
    have hadd : (⟨g, 0, none⟩ : Addr).add j = ⟨g, j, none⟩ := by unfold Addr.add; split <;> simp_all
    rw [hadd, h1.cellAt j (by omega), hu]

/-- what stands for all that is not shown, with fuel -/
def ndf (q n : Nat) : Nat → List (List Int) → List Int → Int → List (List Int)
  | 0, _, _, _ => []
  | k + 1, rows, ps, first => if smb ps first (first + (rows.length : Int)) = false then [rtf q n (k + 1) rows] else if rows.length = 1 then [] else
    ndf q n k (rows.take (lft rows.length)) ps first ++ ndf q n k (rows.drop (lft rows.length)) ps (first + ((lft rows.length : Nat) : Int))
theorem ndf_len (q n : Nat) : ∀ (k : Nat) (rows : List (List Int)) (ps : List Int) (first : Int), 1 ≤ rows.length → (ndf q n k rows ps first).length ≤ rows.length
  | 0, _, _, _, _ => by simp [ndf]
  | k + 1, rows, ps, first, h => by
    simp only [ndf]
    split
    · simpa using h
    · split
      · simp
      · rename_i h1
        obtain ⟨_, l2, l3⟩ := lft_spec rows.length
        have l3' := l3 (by omega)
        have a1 := ndf_len q n k (rows.take (lft rows.length)) ps first (by rw [List.length_take]; omega)
        have a2 := ndf_len q n k (rows.drop (lft rows.length)) ps (first + ((lft rows.length : Nat) : Int)) (by rw [List.length_drop]; omega)
        rw [List.length_take] at a1
        rw [List.length_drop] at a2
        rw [List.length_append]
        omega

end Go.Proofs.YtaibngnabhmabajGreatDoor

namespace Go.Proofs.YtaibngnabhmabajGreatDoor
open Go.RowKit

theorem wpStill_skipG {P : Program} {ops : Array Oper} {w : World} {Q : Act → Prop} {a : Act} {o : Oper} {rest : List Oper} (hw : Region.wanted o (yielded ops a.tmps) = false)
    (h : ∀ K : Act → Prop, (∀ a, wpStill P ops w Q rest a → K a) → K (a.put o.dst undef)) : wpStill P ops w Q (o :: rest) a := by
  refine wpStill_step (fun K hK => ?_)
  rw [hw]
  exact h K hK
theorem wpStill_wantG {P : Program} {ops : Array Oper} {w : World} {Q : Act → Prop} {a : Act} {o : Oper} {rest : List Oper} (hw : Region.wanted o (yielded ops a.tmps) = true)
    (h : ∀ K : Act → Prop, (∀ a, wpStill P ops w Q rest a → K a) → o.still P a w K) : wpStill P ops w Q (o :: rest) a := by
  refine wpStill_step (fun K hK => ?_)
  rw [hw]
  exact h K hK

attribute [local irreducible] wpStill

end Go.Proofs.YtaibngnabhmabajGreatDoor

namespace Go.Proofs.YtaibngnabhmabajGreatDoor
open Go.RowKit

/-- three cells -/
def tri (a b c : Value) : Nat → Value
  | 0 => a
  | 1 => b
  | _ => c
theorem tri_new (w : World) (t : TypeId) (a b c : Value) : (w.alloc (.cells #[a, b, c] t)).rowIs w.heap.size t 3 (tri a b c) :=
  ⟨#[a, b, c], heap_alloc_new w _, rfl, fun i hi => by
    have : i = 0 ∨ i = 1 ∨ i = 2 := by omega
    rcases this with rfl | rfl | rfl <;> rfl⟩
theorem tri_arr {W : World} {g : Nat} {t : TypeId} {a b c : Value} (h : W.rowIs g t 3 (tri a b c)) : W.heap[g]? = some (.cells #[a, b, c] t (0, 0)) := by
  obtain ⟨cs, h1, h2, h4⟩ := h
  rw [h1]
  have e : cs = #[a, b, c] := by
    apply Array.ext
    · simpa using h2
    · intro i hi hi2
      have h0 : i = 0 ∨ i = 1 ∨ i = 2 := by simp at hi2; omega
      have h5 := h4 i (by omega)
      rw [Array.getElem?_eq_getElem hi] at h5
      have h6 := Option.some.inj h5
      rw [h6]
      rcases h0 with rfl | rfl | rfl <;> rfl
  rw [e]
theorem tri_set1 {W : World} {g : Nat} {t : TypeId} {a b c : Value} (h : W.rowIs g t 3 (tri a b c)) (b' : Value) : (W.setCell ⟨g, 1, none⟩ b').rowIs g t 3 (tri a b' c) :=
  (h.set 1 b').congr (fun i hi => by
    have : i = 0 ∨ i = 1 ∨ i = 2 := by omega
    rcases this with rfl | rfl | rfl <;> simp [tri])
theorem tri_set0 {W : World} {g : Nat} {t : TypeId} {a b c : Value} (h : W.rowIs g t 3 (tri a b c)) (a' : Value) : (W.setCell ⟨g, 0, none⟩ a').rowIs g t 3 (tri a' b c) :=
  (h.set 0 a').congr (fun i hi => by
    have : i = 0 ∨ i = 1 ∨ i = 2 := by omega
    rcases this with rfl | rfl | rfl <;> simp [tri])
theorem tri_set2 {W : World} {g : Nat} {t : TypeId} {a b c : Value} (h : W.rowIs g t 3 (tri a b c)) (c' : Value) : (W.setCell ⟨g, 2, none⟩ c').rowIs g t 3 (tri a b c') :=
  (h.set 2 c').congr (fun i hi => by
    have : i = 0 ∨ i = 1 ∨ i = 2 := by omega
    rcases this with rfl | rfl | rfl <;> simp [tri])

/-- a list's elements -/
def elr (q : Nat) (r : List Int) : List Int := ls (fun j => zat r j % (q : Int)) r.length
/-- the rows that are shown -/
def shw (q : Nat) (rows : List (List Int)) (os : List Int) : List (List Int) := os.map (fun x => elr q (rat rows x.toNat))
theorem shw_len (q : Nat) (rows : List (List Int)) (os : List Int) : (shw q rows os).length = os.length := by simp [shw]
theorem shw_snoc (q : Nat) (rows : List (List Int)) {os : List Int} {k : Nat} (h : k < os.length) : shw q rows (os.take (k + 1)) = shw q rows (os.take k) ++ [elr q (rat rows (zat os k).toNat)] := by
  unfold shw
  rw [List.take_add_one, List.getElem?_eq_getElem h, List.map_append]
  simp [zat, h]

end Go.Proofs.YtaibngnabhmabajGreatDoor

namespace Go.Proofs.YtaibngnabhmabajGreatDoor
open Go.RowKit

/-- six cells -/
def six (a b c d e f : Value) : Nat → Value
  | 0 => a
  | 1 => b
  | 2 => c
  | 3 => d
  | 4 => e
  | _ => f
theorem six_set4 {W : World} {g : Nat} {t : TypeId} {a b c d e f : Value} (h : W.rowIs g t 6 (six a b c d e f)) (x : Value) : (W.setCell ⟨g, 4, none⟩ x).rowIs g t 6 (six a b c d x f) :=
  (h.set 4 x).congr (fun i hi => by
    have : i = 0 ∨ i = 1 ∨ i = 2 ∨ i = 3 ∨ i = 4 ∨ i = 5 := by omega
    rcases this with rfl | rfl | rfl | rfl | rfl | rfl <;> simp [six])
theorem six_set5 {W : World} {g : Nat} {t : TypeId} {a b c d e f : Value} (h : W.rowIs g t 6 (six a b c d e f)) (x : Value) : (W.setCell ⟨g, 5, none⟩ x).rowIs g t 6 (six a b c d e x) :=
  (h.set 5 x).congr (fun i hi => by
    have : i = 0 ∨ i = 1 ∨ i = 2 ∨ i = 3 ∨ i = 4 ∨ i = 5 := by omega
    rcases this with rfl | rfl | rfl | rfl | rfl | rfl <;> simp [six])

/-- where a place stands -/
def fx (ps : List Int) (x : Int) : Nat := ((List.range ps.length).find? (fun i => zat ps i == x)).getD 0
theorem fx_eq {ps : List Int} {x : Int} {i : Nat} (hi : i < ps.length) (h : zat ps i = x) (hn : ∀ j, j < i → zat ps j ≠ x) : fx ps x = i := by
  unfold fx
  rw [(List.find?_range_eq_some (i := i)).2 ⟨by simp [h], List.mem_range.2 hi, fun j hj => by simp [hn j hj]⟩]
  rfl

/-- the digest of cnt rows, of what is shown: what it is, how many nodes are taken, whether one lacked -/
def upf (q n : Nat) (ps : List Int) (rows nodes : List (List Int)) : Nat → Int → Nat → Nat → Bool → List Int × Nat × Bool
  | 0, _, _, t, bad => ([], t, bad)
  | k + 1, first, cnt, t, bad =>
    if smb ps first (first + (cnt : Int)) = false then (if nodes.length ≤ t ∨ (rat nodes t).length ≠ 4 then ([0, 0, 0, 0], t, true) else (elr q (rat nodes t), t + 1, bad))
    else if cnt = 1 then (digl q n (0 :: rat rows (fx ps first)), t, bad)
    else
      (digl q n (1 :: ((upf q n ps rows nodes k first (lft cnt) t bad).1 ++ (upf q n ps rows nodes k (first + ((lft cnt : Nat) : Int)) (cnt - lft cnt) (upf q n ps rows nodes k first (lft cnt) t bad).2.1 (upf q n ps rows nodes k first (lft cnt) t bad).2.2).1)),
        (upf q n ps rows nodes k (first + ((lft cnt : Nat) : Int)) (cnt - lft cnt) (upf q n ps rows nodes k first (lft cnt) t bad).2.1 (upf q n ps rows nodes k first (lft cnt) t bad).2.2).2)
theorem upf_len (q n : Nat) (ps : List Int) (rows nodes : List (List Int)) (k : Nat) (first : Int) (cnt t : Nat) (bad : Bool) (hk : 1 ≤ k) : (upf q n ps rows nodes k first cnt t bad).1.length = 4 := by
  cases k with
  | zero => omega
  | succ k =>
    simp only [upf]
    split
    · split
      · rfl
      · rename_i h
        show (elr q (rat nodes t)).length = 4
        unfold elr
        rw [ls_len]
        exact Classical.byContradiction fun e => h (.inr e)
    · split
      · exact digl_len _ _ _
      · exact digl_len _ _ _
theorem elr_fits {q : Nat} (h3 : 3 ≤ q) (h4 : q ≤ 2147483647) (r : List Int) : Fits (elr q r) := fun j hj => by
  unfold elr at *
  rw [ls_len] at hj
  rw [ls_at _ _ _ hj]
  have := emod_bounds (zat r j) q h3
  omega
theorem upf_fits {q : Nat} (h3 : 3 ≤ q) (h4 : q ≤ 2147483647) (n : Nat) (ps : List Int) (rows nodes : List (List Int)) (k : Nat) (first : Int) (cnt t : Nat) (bad : Bool) : Fits (upf q n ps rows nodes k first cnt t bad).1 := by
  cases k with
  | zero => intro j hj; simp [upf] at hj
  | succ k =>
    simp only [upf]
    split
    · split
      · intro j hj
        have : j = 0 ∨ j = 1 ∨ j = 2 ∨ j = 3 := by simp at hj; omega
        rcases this with rfl | rfl | rfl | rfl <;> simp [zat]
      · exact elr_fits h3 h4 _
    · split
      · exact digl_fits h3 h4 _ _
      · exact digl_fits h3 h4 _ _

theorem LstD.gb {w w' : World} {g N C : Nat} {l : List Int} (h : LstD w g N l) (e : w.grownBy w' (some C)) (hne : g ≠ C) : LstD w' g N l := by
  obtain ⟨h1, c, f, h2⟩ := h
  have hg : g < w.heap.size := (Array.getElem?_eq_some_iff.1 h2).1
  have hb := gb_blk e hg hne
  refine ⟨⟨fun k hk => ?_, h1.room, h1.nil⟩, c, f, hb.trans h2⟩
  obtain ⟨b, o, e1, e2, e3⟩ := h1.row k hk
  cases e1
  exact ⟨g, 0, rfl, Nat.lt_of_lt_of_le hg e.size, (World.cell?_of_block (w := w) (a := ⟨g, 0 + k, none⟩) hb).trans e3⟩

theorem upf_t (q n : Nat) (ps : List Int) (rows nodes : List (List Int)) (T : Nat) (hT : nodes.length ≤ T) : ∀ (k : Nat) (first : Int) (cnt t : Nat) (bad : Bool), t ≤ T → (upf q n ps rows nodes k first cnt t bad).2.1 ≤ T
  | 0, _, _, t, _, h => by simpa [upf] using h
  | k + 1, first, cnt, t, bad, h => by
    simp only [upf]
    split
    · split
      · exact h
      · rename_i h2
        show t + 1 ≤ T
        have : ¬ nodes.length ≤ t := fun e => h2 (.inl e)
        omega
    · split
      · exact h
      · exact upf_t q n ps rows nodes T hT k _ _ _ _ (upf_t q n ps rows nodes T hT k _ _ _ _ h)

theorem zero_dig (W : World) : LstD (W.alloc (.cells #[.int .i64 0, .int .i64 0, .int .i64 0, .int .i64 0] 3)).drew W.heap.size 4 [0, 0, 0, 0] := by
  refine ⟨⟨fun j hj => ?_, by simp, fun e => by cases e⟩, _, _, heap_alloc_new W _⟩
  refine ⟨W.heap.size, 0, rfl, by show W.heap.size < (W.alloc _).heap.size; simp, ?_⟩
  show (W.alloc (.cells #[.int .i64 0, .int .i64 0, .int .i64 0, .int .i64 0] 3)).cell? _ = _
  have : j = 0 ∨ j = 1 ∨ j = 2 ∨ j = 3 := by simp at hj; omega
  rcases this with rfl | rfl | rfl | rfl <;> simp [zat]
theorem below_of_gb {C n0 : Nat} {w w' : World} (h : w.grownBy w' (some C)) (hn : n0 ≤ C) (hC : C < w.heap.size) : Below n0 w w' := ⟨h.os, h.tape, h.output, h.size, fun k hk => gb_blk h (by omega) (by omega)⟩

end Go.Proofs.YtaibngnabhmabajGreatDoor

namespace Go.Proofs.YtaibngnabhmabajGreatDoor
open Go.RowKit

attribute [local irreducible] wpStill

end Go.Proofs.YtaibngnabhmabajGreatDoor

namespace Go.Proofs.YtaibngnabhmabajGreatDoor
open Go.RowKit

attribute [local irreducible] wpStill

end Go.Proofs.YtaibngnabhmabajGreatDoor

namespace Go.Proofs.YtaibngnabhmabajGreatDoor
open Go.RowKit

attribute [local irreducible] wpStill

end Go.Proofs.YtaibngnabhmabajGreatDoor

namespace Go.Proofs.YtaibngnabhmabajGreatDoor
open Go.RowKit

attribute [local irreducible] wpStill

end Go.Proofs.YtaibngnabhmabajGreatDoor

namespace Go.Proofs.YtaibngnabhmabajGreatDoor
open Go.RowKit

attribute [local irreducible] wpStill

end Go.Proofs.YtaibngnabhmabajGreatDoor

namespace Go.Proofs.YtaibngnabhmabajGreatDoor
open Go.RowKit

/-- places ascending below N -/
def AscN (N : Int) (ps : List Int) : Prop := ∀ j, j < ps.length → 0 ≤ zat ps j ∧ zat ps j < N ∧ (0 < j → zat ps (j - 1) < zat ps j)
instance (N : Int) (ps : List Int) : Decidable (AscN N ps) := by unfold AscN; infer_instance

/-- what Check answers -/
def chkf (q n : Nat) (root : List Int) (N : Int) (ps : List Int) (rows nodes : List (List Int)) : Bool :=
  decide (1 ≤ N ∧ N ≤ 65536 ∧ rows.length = ps.length ∧ root.length = 4 ∧ AscN N ps) &&
    (samb q (upf q n ps rows nodes N.toNat 0 N.toNat 0 false).1 root && !(upf q n ps rows nodes N.toNat 0 N.toNat 0 false).2.2 && (upf q n ps rows nodes N.toNat 0 N.toNat 0 false).2.1 == nodes.length)
theorem chkf_no {q n : Nat} {root : List Int} {N : Int} {ps : List Int} {rows nodes : List (List Int)} (h : ¬ (1 ≤ N ∧ N ≤ 65536 ∧ rows.length = ps.length ∧ root.length = 4 ∧ AscN N ps)) : chkf q n root N ps rows nodes = false := by
  unfold chkf
  rw [decide_eq_false h]
  rfl
theorem chkf_yes {q n : Nat} {root : List Int} {N : Int} {ps : List Int} {rows nodes : List (List Int)} (h : 1 ≤ N ∧ N ≤ 65536 ∧ rows.length = ps.length ∧ root.length = 4 ∧ AscN N ps) : chkf q n root N ps rows nodes = (samb q (upf q n ps rows nodes N.toNat 0 N.toNat 0 false).1 root && !(upf q n ps rows nodes N.toNat 0 N.toNat 0 false).2.2 && (upf q n ps rows nodes N.toNat 0 N.toNat 0 false).2.1 == nodes.length) := by
  unfold chkf
  rw [decide_eq_true h]
  rfl

theorem six_new (w : World) (t : TypeId) (a b c d e f : Value) : (w.alloc (.cells #[a, b, c, d, e, f] t)).rowIs w.heap.size t 6 (six a b c d e f) :=
  ⟨#[a, b, c, d, e, f], heap_alloc_new w _, rfl, fun i hi => by
    have : i = 0 ∨ i = 1 ∨ i = 2 ∨ i = 3 ∨ i = 4 ∨ i = 5 := by omega
    rcases this with rfl | rfl | rfl | rfl | rfl | rfl <;> rfl⟩

attribute [local irreducible] wpStill

end Go.Proofs.YtaibngnabhmabajGreatDoor

namespace Go.Proofs.YtaibngnabhmabajGreatDoor
open Go.RowKit

theorem digl_congr {q n : Nat} {l l' : List Int} (hl : l.length = l'.length) (h : ∀ j, j < l.length → zat l j % (q : Int) = zat l' j % (q : Int)) : digl q n l = digl q n l' := by
  have e : pdf q (zat l) l.length = pdf q (zat l') l'.length := by
    funext j
    unfold pdf
    rw [← hl]
    split
    · rename_i hj
      exact h j hj
    · rfl
  unfold digl
  rw [e, hl]
theorem ls_cong {f g : Nat → Int} {n : Nat} (h : ∀ j, j < n → f j = g j) : ls f n = ls g n := by
  unfold ls
  exact List.map_congr_left (fun j hj => h j (List.mem_range.1 hj))
theorem elr_digl {q : Nat} (h3 : 3 ≤ q) (n : Nat) (l : List Int) : elr q (digl q n l) = digl q n l := by
  unfold elr
  rw [digl_len]
  unfold digl
  refine ls_cong fun j hj => ?_
  rw [ls_at _ _ _ hj]
  have := hst_bounds q n (pdf q (zat l) l.length) (l.length / 4 + 1) j h3
  exact Int.emod_eq_of_lt this.1 this.2
theorem elr_rtf {q : Nat} (h3 : 3 ≤ q) (n k : Nat) (rows : List (List Int)) (hk : 1 ≤ k) : elr q (rtf q n k rows) = rtf q n k rows := by
  cases k with
  | zero => omega
  | succ k => simp only [rtf]; split <;> exact elr_digl h3 _ _
theorem leaf_elr {q : Nat} (n : Nat) (r : List Int) (z : Int) : digl q n (z :: elr q r) = digl q n (z :: r) := by
  have hl : (elr q r).length = r.length := by unfold elr; exact ls_len _ _
  refine digl_congr (by simp [hl]) fun j hj => ?_
  cases j with
  | zero => rfl
  | succ j =>
    have hj2 : j < r.length := by simp [hl] at hj; omega
    show zat (elr q r) j % (q : Int) = zat r j % (q : Int)
    unfold elr
    rw [ls_at _ _ _ hj2, Int.emod_emod_of_dvd _ (Int.dvd_refl _)]
theorem rat_append_left {a b : List (List Int)} {i : Nat} (h : i < a.length) : rat (a ++ b) i = rat a i := by
  unfold rat
  rw [List.getD_eq_getElem?_getD, List.getD_eq_getElem?_getD, List.getElem?_append_left h]
theorem rat_shw {q : Nat} {rows : List (List Int)} {os : List Int} {i : Nat} (h : i < os.length) : rat (shw q rows os) i = elr q (rat rows (zat os i).toNat) := by
  show (shw q rows os).getD i [] = _
  unfold shw zat
  rw [List.getD_eq_getElem?_getD, List.getElem?_map, List.getElem?_eq_getElem h]
  rfl
theorem fx_spec {ps : List Int} {x : Int} (h : ∃ j, j < ps.length ∧ zat ps j = x) : fx ps x < ps.length ∧ zat ps (fx ps x) = x := by
  obtain ⟨j, h1, h2⟩ := h
  unfold fx
  cases e : (List.range ps.length).find? (fun i => zat ps i == x) with
  | none =>
    have := List.find?_eq_none.1 e j (List.mem_range.2 h1)
    simp [h2] at this
  | some i =>
    have h3 := List.find?_some e
    have h4 := List.mem_range.1 (List.mem_of_find?_eq_some e)
    exact ⟨h4, by simpa using h3⟩

theorem up_shown {q : Nat} (h3 : 3 ≤ q) (n : Nat) (rows : List (List Int)) (os : List Int) (nodes : List (List Int)) : ∀ (k first cnt t : Nat) (bad : Bool), 1 ≤ cnt → cnt ≤ k → first + cnt ≤ rows.length → (∃ post, nodes.drop t = ndf q n k ((rows.drop first).take cnt) os (first : Int) ++ post) →
    upf q n os (shw q rows os) nodes k (first : Int) cnt t bad = (rtf q n k ((rows.drop first).take cnt), t + (ndf q n k ((rows.drop first).take cnt) os (first : Int)).length, bad)
  | 0, _, _, _, _, h1, h2, _, _ => by omega
  | k + 1, first, cnt, t, bad, h1, h2, h5, hp => by
    have hlen : ((rows.drop first).take cnt).length = cnt := by rw [List.length_take, List.length_drop]; omega
    obtain ⟨post, hp⟩ := hp
    simp only [ndf, hlen] at hp ⊢
    simp only [upf]
    by_cases hs : smb os (first : Int) ((first : Int) + (cnt : Int)) = false
    · rw [if_pos hs] at hp ⊢
      rw [if_pos hs]
      have e0 : rat nodes t = rtf q n (k + 1) ((rows.drop first).take cnt) := by
        have e : rat (nodes.drop t) 0 = rtf q n (k + 1) ((rows.drop first).take cnt) := by rw [hp]; rfl
        rw [rat_drop] at e
        exact e
      have e1 : t < nodes.length := by
        have e : (nodes.drop t).length = 1 + post.length := by rw [hp]; simp; omega
        rw [List.length_drop] at e
        omega
      rw [if_neg (by rw [e0, rtf_len q n (k + 1) _ (by omega)]; omega), e0, elr_rtf h3 n (k + 1) _ (by omega)]
      rfl
    · rw [if_neg hs] at hp ⊢
      rw [if_neg hs]
      have hst : smb os (first : Int) ((first : Int) + (cnt : Int)) = true := by simpa using hs
      by_cases hone : cnt = 1
      · rw [if_pos hone]
        rw [if_pos hone]
        simp only [rtf, hlen]
        rw [if_pos hone]
        obtain ⟨j, g1, g2, g3⟩ := smb_iff.1 hst
        obtain ⟨f1, f2⟩ := fx_spec (ps := os) (x := (first : Int)) ⟨j, g1, by omega⟩
        rw [rat_shw f1, f2, leaf_elr, rat_take (by omega), rat_drop]
        simp
      · obtain ⟨_, l2, l3⟩ := lft_spec cnt
        have l3' := l3 (by omega)
        rw [if_neg hone] at hp ⊢
        rw [if_neg hone]
        obtain ⟨m, hm⟩ : ∃ m, m = lft cnt := ⟨_, rfl⟩
        simp only [rtf, hlen]
        rw [if_neg hone]
        rw [← hm] at hp l2 l3' ⊢
        have t1 : ((rows.drop first).take cnt).take m = (rows.drop first).take m := by rw [List.take_take, Nat.min_eq_left (by omega)]
        have t2 : ((rows.drop first).take cnt).drop m = (rows.drop (first + m)).take (cnt - m) := by rw [List.drop_take, List.drop_drop]
        rw [t1, t2] at hp ⊢
        have c1 : (first : Int) + (m : Int) = ((first + m : Nat) : Int) := by omega
        rw [c1] at hp ⊢
        have i1 := up_shown h3 n rows os nodes k first m t bad (by omega) (by omega) (by omega) ⟨_, by rw [hp, List.append_assoc]⟩
        have i2 := up_shown h3 n rows os nodes k (first + m) (cnt - m) (t + (ndf q n k ((rows.drop first).take m) os (first : Int)).length) bad (by omega) (by omega) (by omega) ⟨post, by
          rw [← List.drop_drop, hp, List.append_assoc, List.drop_left]⟩
        rw [i1]
        dsimp only
        rw [i2]
        simp [List.length_append, Nat.add_assoc]

/-- what is opened is taken -/
theorem chk_shown {q : Nat} (h3 : 3 ≤ q) (n : Nat) (rows : List (List Int)) (os : List Int) (h1 : 1 ≤ rows.length) (h2 : rows.length ≤ 65536) (hos : AscN (rows.length : Int) os) :
    chkf q n (rtf q n rows.length rows) (rows.length : Int) os (shw q rows os) (ndf q n rows.length rows os 0) = true := by
  have e := up_shown h3 n rows os (ndf q n rows.length rows os 0) rows.length 0 rows.length 0 false h1 (Nat.le_refl _) (by omega) ⟨[], by simp⟩
  simp only [List.drop_zero, List.take_length, Nat.zero_add, Int.natCast_zero] at e
  rw [chkf_yes ⟨by omega, by omega, shw_len _ _ _, rtf_len _ _ _ _ h1, hos⟩, Int.toNat_natCast, e]
  rw [samb_true rfl (fun _ _ => rfl)]
  simp

/-! ## alike as elements -/
theorem samb_iff {q : Nat} {xs ys : List Int} : samb q xs ys = true ↔ xs.map (· % (q : Int)) = ys.map (· % (q : Int)) := by
  unfold samb
  rw [decide_eq_true_eq]
theorem samb_cons {q : Nat} {z : Int} {xs ys : List Int} : samb q (z :: xs) (z :: ys) = samb q xs ys := by
  rw [Bool.eq_iff_iff, samb_iff, samb_iff]
  simp
theorem elr_map (q : Nat) (r : List Int) : elr q r = r.map (· % (q : Int)) := by
  apply List.ext_getElem?
  intro i
  unfold elr ls
  rw [List.getElem?_map, List.getElem?_map]
  by_cases h : i < r.length
  · rw [List.getElem?_range h, List.getElem?_eq_getElem h]
    simp [zat, h]
  · rw [List.getElem?_eq_none (by simp; omega), List.getElem?_eq_none (by omega)]
    rfl
theorem upf_red {q : Nat} (h3 : 3 ≤ q) (n : Nat) (ps : List Int) (rows nodes : List (List Int)) (k : Nat) (first : Int) (cnt t : Nat) (bad : Bool) : elr q (upf q n ps rows nodes k first cnt t bad).1 = (upf q n ps rows nodes k first cnt t bad).1 := by
  cases k with
  | zero => rfl
  | succ k =>
    simp only [upf]
    split
    · split
      · rw [elr_map]; simp
      · rw [elr_map, elr_map, List.map_map]
        exact List.map_congr_left fun x _ => Int.emod_emod_of_dvd _ (Int.dvd_refl _)
    · split <;> exact elr_digl h3 _ _
/-- two digests side by side, alike: each is the other's -/
theorem samb_two {q : Nat} {z : Int} {a1 b1 a2 b2 : List Int} (h : samb q (z :: (a1 ++ b1)) (z :: (a2 ++ b2)) = true) (hl : a1.length = a2.length) (ra1 : elr q a1 = a1) (rb1 : elr q b1 = b1) (ra2 : elr q a2 = a2) (rb2 : elr q b2 = b2) : a1 = a2 ∧ b1 = b2 := by
  rw [samb_cons, samb_iff, List.map_append, List.map_append, ← elr_map, ← elr_map, ← elr_map, ← elr_map, ra1, rb1, ra2, rb2] at h
  exact List.append_inj h hl
/-- of the way to a place that both show: if all lists on it are alike, so are the rows -/
theorem up_alike {q : Nat} (h3 : 3 ≤ q) (n : Nat) (ps1 ps2 : List Int) (rows1 rows2 nodes1 nodes2 : List (List Int)) (x : Int) (hx1 : ∃ j, j < ps1.length ∧ zat ps1 j = x) (hx2 : ∃ j, j < ps2.length ∧ zat ps2 j = x) (hno : ∀ l l', digl q n l = digl q n l' → samb q l l' = true) :
    ∀ (k : Nat) (first : Int) (cnt t1 t2 : Nat) (b1 b2 : Bool), 1 ≤ cnt → cnt ≤ k → first ≤ x → x < first + (cnt : Int) → (upf q n ps1 rows1 nodes1 k first cnt t1 b1).1 = (upf q n ps2 rows2 nodes2 k first cnt t2 b2).1 → samb q (rat rows1 (fx ps1 x)) (rat rows2 (fx ps2 x)) = true
  | 0, _, _, _, _, _, _, h1, h2, _, _, _ => by omega
  | k + 1, first, cnt, t1, t2, b1, b2, h1, h2, h4, h5, h => by
    have s1 : smb ps1 first (first + (cnt : Int)) ≠ false := by
      obtain ⟨j, e1, e2⟩ := hx1
      rw [smb_iff.2 ⟨j, e1, by omega, by omega⟩]
      simp
    have s2 : smb ps2 first (first + (cnt : Int)) ≠ false := by
      obtain ⟨j, e1, e2⟩ := hx2
      rw [smb_iff.2 ⟨j, e1, by omega, by omega⟩]
      simp
    simp only [upf] at h
    rw [if_neg s1, if_neg s2] at h
    by_cases hone : cnt = 1
    · rw [if_pos hone, if_pos hone] at h
      have e := hno _ _ h
      rw [samb_cons, show first = x by omega] at e
      exact e
    · rw [if_neg hone, if_neg hone] at h
      obtain ⟨_, l2, l3⟩ := lft_spec cnt
      have l3' := l3 (by omega)
      obtain ⟨m, hm⟩ : ∃ m, m = lft cnt := ⟨_, rfl⟩
      rw [← hm] at h l2 l3'
      obtain ⟨eA, eB⟩ := samb_two (hno _ _ h) (by rw [upf_len _ _ _ _ _ _ _ _ _ _ (by omega), upf_len _ _ _ _ _ _ _ _ _ _ (by omega)]) (upf_red h3 ..) (upf_red h3 ..) (upf_red h3 ..) (upf_red h3 ..)
      by_cases hc : x < first + (m : Int)
      · exact up_alike h3 n ps1 ps2 rows1 rows2 nodes1 nodes2 x hx1 hx2 hno k first m _ _ _ _ (by omega) (by omega) h4 hc eA
      · exact up_alike h3 n ps1 ps2 rows1 rows2 nodes1 nodes2 x hx1 hx2 hno k (first + (m : Int)) (cnt - m) _ _ _ _ (by omega) (by omega) (by omega) (by omega) eB

end Go.Proofs.YtaibngnabhmabajGreatDoor
