/- Rows of rows that a call owns; attestsame.Copied, Rows. attestref3, the trees: Nodes. attestref3, the trees: Once. attestref5.Open. attestref3, the trees: Climb's Up. attestref3, the trees: Climb's Up: what lacks. attestref3, the trees: Climb's Up: a node of another length. attestref3, the trees: Climb's Up: a node is taken. attestref3, the trees: Climb's Up: a row that is shown. attestref3, the trees: Climb's Up: the tree of what is shown. attestref3: Check. Trees, plain facts: what is opened is taken. -/
import Derived.Test.YtcajofdmadpmoaaDoorRefs
import Derived.Test.YtcajofdmadpmoaaDoorSpgs
import Derived.Deep.Onto
import Derived.OneCell
import Derived.Test.YtcajofdmadpmoaaDoorSpgH
import Derived.StillTailTactics
namespace Go.Proofs.YtcajofdmadpmoaaDoor
open Go.RowKit

/-- a block that is no row of lists or of rows, no Opening, no Folded and no chain of either side -/
def NotRow (w : World) (b : Nat) : Prop := ∃ c t f, w.heap[b]? = some (.cells c t f) ∧ t ≠ 22 ∧ t ≠ 28 ∧ t ≠ 239 ∧ t ≠ 239 ∧ t ≠ 23 ∧ t ≠ 26
/-- a list -/
def SlR (w : World) (r : List Int) (v : Value) : Prop := ∃ a c, v = .slice a r.length c ∧ Lst w.heap.size w a c r ∧ (0 < r.length → ∃ b o, a = some ⟨b, o, none⟩ ∧ NotRow w b)
theorem SlR.blocks {w w' : World} {r : List Int} {v : Value} (h : SlR w r v) (hs : w.heap.size ≤ w'.heap.size) (e : ∀ b, b < w.heap.size → NotRow w b → w'.heap[b]? = w.heap[b]?) : SlR w' r v := by
  obtain ⟨a, c, rfl, hl, hn⟩ := h
  refine ⟨a, c, rfl, ⟨fun k hk => ?_, hl.room, hl.nil⟩, fun h0 => ?_⟩
  · obtain ⟨b, o, rfl, h2, h3⟩ := hl.row k hk
    obtain ⟨b', o', e1, hb⟩ := hn (by omega)
    cases e1
    exact ⟨b, o, rfl, by omega, (World.cell?_of_block (w := w) (a := ⟨b, o + k, none⟩) (e b h2 hb)).trans h3⟩
  · obtain ⟨b, o, rfl, hb⟩ := hn h0
    obtain ⟨b', o', e1, h2, _⟩ := hl.row 0 h0
    cases e1
    obtain ⟨c', t, f, h3, h4⟩ := hb
    exact ⟨b, o, rfl, c', t, f, (e b h2 ⟨c', t, f, h3, h4⟩).trans h3, h4⟩
theorem SlR.keep {w w' : World} {r : List Int} {v : Value} (h : SlR w r v) (e : Below w.heap.size w w') : SlR w' r v := h.blocks e.size (fun b hb _ => e.block b hb)
theorem SlR.one {w : World} {r : List Int} {v : Value} (h : SlR w r v) : v.oneCell' = true := by obtain ⟨a, c, rfl, _⟩ := h; rfl
theorem SlR.lst {w : World} {r : List Int} {v : Value} (h : SlR w r v) : ∃ a c, v = .slice a r.length c ∧ Lst w.heap.size w a c r := by obtain ⟨a, c, h1, h2, _⟩ := h; exact ⟨a, c, h1, h2⟩
/-- rows of rows of the call's own -/
def OwnR (base : Nat) (w : World) (v : Value) (rs : List (List Int)) : Prop := ∃ vals : List Value, w.ownsRow base 22 1 v rs.length vals ∧ ∀ j, j < rs.length → ∃ u, vals[j]? = some u ∧ SlR w (rat rs j) u
theorem gb_of_below {w w' : World} (e : Below w.heap.size w w') : w.grownBy w' none := ⟨e.os, e.tape, e.output, e.size, fun k hk _ => e.block k hk⟩
theorem OwnR.keep {base : Nat} {w w' : World} {v : Value} {rs : List (List Int)} (h : OwnR base w v rs) (e : Below w.heap.size w w') : OwnR base w' v rs := by
  obtain ⟨vals, h1, h2⟩ := h
  refine ⟨vals, h1.kept (gb_of_below e) ?_, fun j hj => ?_⟩
  · cases v.ownBlock with
    | none => exact .inl rfl
    | some k => exact .inr (by simp)
  · obtain ⟨u, h3, h4⟩ := h2 j hj
    exact ⟨u, h3, h4.keep e⟩
theorem OwnR.nil (base : Nat) (w : World) : OwnR base w (.slice none 0 0) [] := ⟨[], World.ownsRow_nil _ _ _ _, fun j hj => by simp at hj⟩
theorem OwnR.lst {base : Nat} {w : World} {v : Value} {rs : List (List Int)} (h : OwnR base w v rs) : ∃ a c, v = .slice a rs.length c ∧ LstR w.heap.size w a c rs := by
  obtain ⟨vals, h1, h2⟩ := h
  rcases h1.2 with ⟨rfl, h0⟩ | ⟨g, cap, cur, rfl, hb, hg, hn, hm, hs, ht⟩
  · exact ⟨none, 0, by rw [h0], fun k hk => by omega, by omega, fun _ => rfl⟩
  · refine ⟨some ⟨g, 0, none⟩, cap, rfl, fun k hk => ?_, hn, fun e => by cases e⟩
    obtain ⟨u, h3, h4⟩ := h2 k hk
    obtain ⟨a, c, rfl, hl⟩ := h4.lst
    refine ⟨g, 0, a, c, rfl, (Array.getElem?_eq_some_iff.1 hg).1, ?_, hl⟩
    rw [Nat.zero_add, h1.cellAt k (by omega), h3]
theorem OwnR.mono {base base' : Nat} {w : World} {v : Value} {rs : List (List Int)} (h : OwnR base w v rs) (e : base' ≤ base) : OwnR base' w v rs := by
  obtain ⟨vals, h1, h2⟩ := h
  exact ⟨vals, World.ownsRow.mono h1 e, h2⟩
theorem OwnR.len {base : Nat} {w : World} {v : Value} {rs : List (List Int)} (h : OwnR base w v rs) : lenV v = rs.length := by obtain ⟨a, c, rfl, _⟩ := h.lst; rfl
theorem OwnR.own {base : Nat} {w : World} {v : Value} {rs : List (List Int)} (h : OwnR base w v rs) : ∀ k, v.ownBlock = some k → base ≤ k ∧ k < w.heap.size ∧ ¬ NotRow w k := fun k hk => by
  obtain ⟨vals, h1, _⟩ := h
  refine ⟨(h1.lt k hk).1, (h1.lt k hk).2, ?_⟩
  rintro ⟨c, t, f, h3, h4⟩
  rcases h1.2 with ⟨rfl, _⟩ | ⟨g, cap, cur, rfl, hb, hg, _⟩
  · cases hk
  · cases hk
    rw [hg] at h3
    cases h3
    exact h4.1 rfl

theorem rat_app (rs ts : List (List Int)) (j : Nat) : rat (rs ++ ts) j = if j < rs.length then rat rs j else rat ts (j - rs.length) := by
  unfold rat
  by_cases h : j < rs.length
  · rw [if_pos h]; simp [List.getElem?_append_left h]
  · rw [if_neg h]; simp [List.getElem?_append_right (show rs.length ≤ j by omega)]

theorem take_succ_rat {rows : List (List Int)} {k : Nat} (h : k < rows.length) : rows.take (k + 1) = rows.take k ++ [rat rows k] := by
  rw [List.take_add_one, List.getElem?_eq_getElem h]
  simp [rat, h]

/-- are two rows of rows the same? -/
theorem take_eq_rows {as' bs : List (List Int)} {k : Nat} (ha : k < as'.length) (hb : k < bs.length) (h : as'.take k = bs.take k) (e : rat as' k = rat bs k) : as'.take (k + 1) = bs.take (k + 1) := by
  rw [take_succ_rat ha, take_succ_rat hb, h, e]

set_option maxRecDepth 100000 in
set_option maxHeartbeats 1000000 in
theorem srows_any (c1 c2 : Nat) (a1 a2 : Option Addr) (xs ys : List (List Int)) (n1 n2 : Nat) (w : World) (hx : xs.length ≤ 9223372036854775807) (_hy : ys.length ≤ 9223372036854775807) (hfx : ∀ k, k < xs.length → (rat xs k).length ≤ 9223372036854775807) (hfy : ∀ k, k < ys.length → (rat ys k).length ≤ 9223372036854775807)
    (hl1 : LstR n1 w a1 c1 xs) (hl2 : LstR n2 w a2 c2 ys) :
    Calls Tryd.prog 37 #[.slice a1 xs.length c1, .slice a2 ys.length c2] w fun e w' => e = .returned (.bool (decide (xs = ys))) ∧ ∃ n, w' = w.drewN n := by
  have HL1 := hid hl1
  have HL2 := hid hl2
  have HFX := hid hfx
  have HFY := hid hfy
  clear hl1 hl2 hfx hfy
  by_cases hl : xs.length = ys.length
  · have HL := hid hl
    rw [← hl]
    clear hl
    go_enter Tryd.func37, Tryd.ntmps37
    go_wp2_with fail
    go_loopw [5] (fun i wr => ∃ k n : Nat, k ≤ xs.length ∧ i = .int .i64 k ∧ Hid (xs.take k = ys.take k) ∧ Hid (wr = w.drewN n)) (fun i _ => xs.length - (intOf i).toNat)
    case atStart => exact ⟨0, 0, Nat.zero_le _, rfl, hid rfl, rfl⟩
    case round =>
      obtain ⟨k, n, hk, rfl, hT, hw⟩ := hrel
      by_cases hlt : k < xs.length
      · have hlt2 : (k : Int) < (xs.length : Int) := by omega
        have hkw : IntKind.i64.wrap ((k : Int) + 1) = (k : Int) + 1 := by rw [IntKind.wrap_i64]; omega
        have hlty : k < ys.length := by have := HL.out; omega
        obtain ⟨b1, o1, ak, ck, rfl, _, hc1, hr1⟩ := HL1.out.row k hlt
        obtain ⟨b2, o2, bk, dk, rfl, _, hc2, hr2⟩ := HL2.out.row k hlty
        have hd1 : wr.cell? ⟨b1, o1 + k, none⟩ = some (.slice ak (rat xs k).length ck) := by rw [hw.out]; exact hc1
        have hd2 : wr.cell? ⟨b2, o2 + k, none⟩ = some (.slice bk (rat ys k).length dk) := by rw [hw.out]; exact hc2
        have HI : Hid (∀ m : Nat, Calls Tryd.prog 22 #[.slice ak (rat xs k).length ck, .slice bk (rat ys k).length dk] (wr.drewN m) fun e w' => e = .returned (.bool (decide (rat xs k = rat ys k))) ∧ ∃ n, w' = (wr.drewN m).drewN n) := fun m => by
          have e : wr.drewN m = w.drewN (n + m) := by rw [hw.out]; simp [World.drewN, Nat.add_assoc]
          refine ints_any (rat xs k) (rat ys k) _ _ (wr.drewN m) (rowZ_of_B ck (n0 := n1) ?_) (rowZ_of_B dk (n0 := n2) ?_) (HFX.out k hlt) (HFY.out k hlty)
          · rw [e]; exact hr1.row
          · rw [e]; exact hr2.row
        have HS := hid (fun h => take_eq_rows hlt hlty hT.out h)
        have HNE : Hid (rat xs k ≠ rat ys k → ¬ xs = ys) := fun h e => h (by rw [e])
        have HDN : Hid (∀ m : Nat, ∃ n, wr.drewN m = w.drewN n) := fun m => ⟨n + m, by rw [hw.out]; simp [World.drewN, Nat.add_assoc]⟩
        clear hc1 hc2 hr1 hr2 hT hw
        by_cases hxy : rat xs k = rat ys k
        · have HS2 := hid (HS.out hxy)
          rw [decide_eq_true hxy] at HI
          clear hxy HS HNE HL1 HL2 HFX HFY
          generalize (rat xs k).length = l1 at *
          generalize (rat ys k).length = l2 at *
          go_wp2_with fail
          go_quiet (first
            | (go_at_call 22; exact Calls.quiet_of (HI.out _)))
          go_wp2_with fail
          obtain ⟨n', hn'⟩ := HDN.out nq
          go_roundw
          case rel => exact ⟨k + 1, n', by omega, by go_num, HS2, hn'⟩
          case measure => simp [intOf]; omega
        · have HE := hid (HNE.out hxy)
          rw [decide_eq_false hxy] at HI
          clear hxy HS HNE HL1 HL2 HFX HFY
          generalize (rat xs k).length = l1 at *
          generalize (rat ys k).length = l2 at *
          go_wp2_with fail
          go_quiet (first
            | (go_at_call 22; exact Calls.quiet_of (HI.out _)))
          go_wp2_with fail
          go_ret
          obtain ⟨n', hn'⟩ := HDN.out nq
          exact ⟨ret_bool (decide_eq_false HE.out).symm, n', hn'⟩
      · obtain rfl : k = xs.length := by omega
        have HE : Hid (xs = ys) := by
          have := hT.out
          rw [List.take_length, HL.out, List.take_length] at this
          exact this
        clear hT
        go_wp2_with fail
        go_ret
        exact ⟨ret_bool (decide_eq_true HE.out).symm, n, hw.out⟩
  · have hne : ((xs.length : Int) != (ys.length : Int)) = true := by rw [bne_iff_ne]; omega
    have HE : Hid (¬ xs = ys) := fun e => hl (by rw [e])
    clear hl HL1 HL2 HFX HFY
    go_enter Tryd.func37, Tryd.ntmps37
    go_wp2_with fail
    go_ret
    exact ⟨ret_bool (decide_eq_false HE.out).symm, 0, rfl⟩

end Go.Proofs.YtcajofdmadpmoaaDoor

namespace Go.Proofs.YtcajofdmadpmoaaDoor
open Go.RowKit

end Go.Proofs.YtcajofdmadpmoaaDoor

namespace Go.Proofs.YtcajofdmadpmoaaDoor
open Go.RowKit

attribute [local irreducible] wpStill

end Go.Proofs.YtcajofdmadpmoaaDoor

namespace Go.Proofs.YtcajofdmadpmoaaDoor
open Go.RowKit

/-- three cells -/
def tri (a b c : Value) : Nat → Value
  | 0 => a
  | 1 => b
  | _ => c
theorem tri_arr {W : World} {g : Nat} {t : TypeId} {a b c : Value} (h : W.rowIs g t 3 (tri a b c)) : W.heap[g]? = some (.cells #[a, b, c] t (0, 0)) := by
  obtain ⟨cs, h1, h2, h4⟩ := h
  rw [h1]
  have e : cs = #[a, b, c] := by
    apply Array.ext
    · simpa using h2
    · intro i hi hi2
      have h0 : i = 0 ∨ i = 1 ∨ i = 2 := by simp at hi2; omega
      have h5 := h4 i (by omega)
      rw [Array.getElem?_eq_getElem hi] at h5
      have h6 := Option.some.inj h5
      rw [h6]
      rcases h0 with rfl | rfl | rfl <;> rfl
  rw [e]
theorem tri_set2 {W : World} {g : Nat} {t : TypeId} {a b c : Value} (h : W.rowIs g t 3 (tri a b c)) (c' : Value) : (W.setCell ⟨g, 2, none⟩ c').rowIs g t 3 (tri a b c') :=
  (h.set 2 c').congr (fun i hi => by
    have : i = 0 ∨ i = 1 ∨ i = 2 := by omega
    rcases this with rfl | rfl | rfl <;> simp [tri])

end Go.Proofs.YtcajofdmadpmoaaDoor

namespace Go.Proofs.YtcajofdmadpmoaaDoor
open Go.RowKit

theorem LstD.gb {w w' : World} {g N C : Nat} {l : List Int} (h : LstD w g N l) (e : w.grownBy w' (some C)) (hne : g ≠ C) : LstD w' g N l := by
  obtain ⟨h1, c, f, h2⟩ := h
  have hg : g < w.heap.size := (Array.getElem?_eq_some_iff.1 h2).1
  have hb := gb_blk e hg hne
  refine ⟨⟨fun k hk => ?_, h1.room, h1.nil⟩, c, f, hb.trans h2⟩
  obtain ⟨b, o, e1, e2, e3⟩ := h1.row k hk
  cases e1
  exact ⟨g, 0, rfl, Nat.lt_of_lt_of_le hg e.size, (World.cell?_of_block (w := w) (a := ⟨g, 0 + k, none⟩) hb).trans e3⟩

end Go.Proofs.YtcajofdmadpmoaaDoor

namespace Go.Proofs.YtcajofdmadpmoaaDoor
open Go.RowKit

attribute [local irreducible] wpStill

end Go.Proofs.YtcajofdmadpmoaaDoor

namespace Go.Proofs.YtcajofdmadpmoaaDoor
open Go.RowKit

attribute [local irreducible] wpStill

end Go.Proofs.YtcajofdmadpmoaaDoor

namespace Go.Proofs.YtcajofdmadpmoaaDoor
open Go.RowKit

attribute [local irreducible] wpStill

end Go.Proofs.YtcajofdmadpmoaaDoor

namespace Go.Proofs.YtcajofdmadpmoaaDoor
open Go.RowKit

attribute [local irreducible] wpStill

end Go.Proofs.YtcajofdmadpmoaaDoor

namespace Go.Proofs.YtcajofdmadpmoaaDoor
open Go.RowKit

attribute [local irreducible] wpStill

end Go.Proofs.YtcajofdmadpmoaaDoor

namespace Go.Proofs.YtcajofdmadpmoaaDoor
open Go.RowKit

/-- places ascending below N -/
def AscN (N : Int) (ps : List Int) : Prop := ∀ j, j < ps.length → 0 ≤ zat ps j ∧ zat ps j < N ∧ (0 < j → zat ps (j - 1) < zat ps j)
instance (N : Int) (ps : List Int) : Decidable (AscN N ps) := by unfold AscN; infer_instance

attribute [local irreducible] wpStill

end Go.Proofs.YtcajofdmadpmoaaDoor

namespace Go.Proofs.YtcajofdmadpmoaaDoor
open Go.RowKit

/-! ## alike as elements -/
end Go.Proofs.YtcajofdmadpmoaaDoor
