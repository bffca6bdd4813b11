/- Rows of rows that a call owns; attestsame.Copied, Rows. attestref3, the trees: Nodes. attestref3, the trees: Once. attestref5.Open. attestref3, the trees: Climb's Up. attestref3, the trees: Climb's Up: what lacks. attestref3, the trees: Climb's Up: a node of another length. attestref3, the trees: Climb's Up: a node is taken. attestref3, the trees: Climb's Up: a row that is shown. attestref3, the trees: Climb's Up: the tree of what is shown. attestref3: Check. Trees, plain facts: what is opened is taken. -/
import Derived.Test.YtmmlphdekeflfaaGreatDoorRefs
import Derived.Test.YtmmlphdekeflfaaGreatDoorSpgs
import Derived.Deep.Onto
import Derived.OneCell
import Derived.Test.YtmmlphdekeflfaaGreatDoorPcAH
import Derived.StillTailTactics
namespace Go.Proofs.YtmmlphdekeflfaaGreatDoor
open Go.RowKit

/-- a block that is no row of lists or of rows, no Opening, no Folded and no chain of either side -/
def NotRow (w : World) (b : Nat) : Prop := ∃ c t f, w.heap[b]? = some (.cells c t f) ∧ t ≠ 23 ∧ t ≠ 49 ∧ t ≠ 103 ∧ t ≠ 61 ∧ t ≠ 22 ∧ t ≠ 391
/-- a list -/
def SlR (w : World) (r : List Int) (v : Value) : Prop := ∃ a c, v = .slice a r.length c ∧ Lst w.heap.size w a c r ∧ (0 < r.length → ∃ b o, a = some ⟨b, o, none⟩ ∧ NotRow w b)
theorem SlR.blocks {w w' : World} {r : List Int} {v : Value} (h : SlR w r v) (hs : w.heap.size ≤ w'.heap.size) (e : ∀ b, b < w.heap.size → NotRow w b → w'.heap[b]? = w.heap[b]?) : SlR w' r v := by
  obtain ⟨a, c, rfl, hl, hn⟩ := h
  refine ⟨a, c, rfl, ⟨fun k hk => ?_, hl.room, hl.nil⟩, fun h0 => ?_⟩
  · obtain ⟨b, o, rfl, h2, h3⟩ := hl.row k hk
    obtain ⟨b', o', e1, hb⟩ := hn (by omega)
    cases e1
    exact ⟨b, o, rfl, by omega, (World.cell?_of_block (w := w) (a := ⟨b, o + k, none⟩) (e b h2 hb)).trans h3⟩
  · obtain ⟨b, o, rfl, hb⟩ := hn h0
    obtain ⟨b', o', e1, h2, _⟩ := hl.row 0 h0
    cases e1
    obtain ⟨c', t, f, h3, h4⟩ := hb
    exact ⟨b, o, rfl, c', t, f, (e b h2 ⟨c', t, f, h3, h4⟩).trans h3, h4⟩
theorem SlR.keep {w w' : World} {r : List Int} {v : Value} (h : SlR w r v) (e : Below w.heap.size w w') : SlR w' r v := h.blocks e.size (fun b hb _ => e.block b hb)
theorem SlR.one {w : World} {r : List Int} {v : Value} (h : SlR w r v) : v.oneCell' = true := by obtain ⟨a, c, rfl, _⟩ := h; rfl
theorem SlR.lst {w : World} {r : List Int} {v : Value} (h : SlR w r v) : ∃ a c, v = .slice a r.length c ∧ Lst w.heap.size w a c r := by obtain ⟨a, c, h1, h2, _⟩ := h; exact ⟨a, c, h1, h2⟩
/-- rows of rows of the call's own -/
def OwnR (base : Nat) (w : World) (v : Value) (rs : List (List Int)) : Prop := ∃ vals : List Value, w.ownsRow base 23 1 v rs.length vals ∧ ∀ j, j < rs.length → ∃ u, vals[j]? = some u ∧ SlR w (rat rs j) u
theorem gb_of_below {w w' : World} (e : Below w.heap.size w w') : w.grownBy w' none := ⟨e.os, e.tape, e.output, e.size, fun k hk _ => e.block k hk⟩
theorem OwnR.keep {base : Nat} {w w' : World} {v : Value} {rs : List (List Int)} (h : OwnR base w v rs) (e : Below w.heap.size w w') : OwnR base w' v rs := by
  obtain ⟨vals, h1, h2⟩ := h
  refine ⟨vals, h1.kept (gb_of_below e) ?_, fun j hj => ?_⟩
  · cases v.ownBlock with
    | none => exact .inl rfl
    | some k => exact .inr (by simp)
  · obtain ⟨u, h3, h4⟩ := h2 j hj
    exact ⟨u, h3, h4.keep e⟩
theorem OwnR.nil (base : Nat) (w : World) : OwnR base w (.slice none 0 0) [] := ⟨[], World.ownsRow_nil _ _ _ _, fun j hj => by simp at hj⟩
theorem OwnR.lst {base : Nat} {w : World} {v : Value} {rs : List (List Int)} (h : OwnR base w v rs) : ∃ a c, v = .slice a rs.length c ∧ LstR w.heap.size w a c rs := by
  obtain ⟨vals, h1, h2⟩ := h
  rcases h1.2 with ⟨rfl, h0⟩ | ⟨g, cap, cur, rfl, hb, hg, hn, hm, hs, ht⟩
  · exact ⟨none, 0, by rw [h0], fun k hk => by omega, by omega, fun _ => rfl⟩
  · refine ⟨some ⟨g, 0, none⟩, cap, rfl, fun k hk => ?_, hn, fun e => by cases e⟩
    obtain ⟨u, h3, h4⟩ := h2 k hk
    obtain ⟨a, c, rfl, hl⟩ := h4.lst
    refine ⟨g, 0, a, c, rfl, (Array.getElem?_eq_some_iff.1 hg).1, ?_, hl⟩
    rw [Nat.zero_add, h1.cellAt k (by omega), h3]
theorem OwnR.mono {base base' : Nat} {w : World} {v : Value} {rs : List (List Int)} (h : OwnR base w v rs) (e : base' ≤ base) : OwnR base' w v rs := by
  obtain ⟨vals, h1, h2⟩ := h
  exact ⟨vals, World.ownsRow.mono h1 e, h2⟩
theorem OwnR.len {base : Nat} {w : World} {v : Value} {rs : List (List Int)} (h : OwnR base w v rs) : lenV v = rs.length := by obtain ⟨a, c, rfl, _⟩ := h.lst; rfl
theorem OwnR.own {base : Nat} {w : World} {v : Value} {rs : List (List Int)} (h : OwnR base w v rs) : ∀ k, v.ownBlock = some k → base ≤ k ∧ k < w.heap.size ∧ ¬ NotRow w k := fun k hk => by
  obtain ⟨vals, h1, _⟩ := h
  refine ⟨(h1.lt k hk).1, (h1.lt k hk).2, ?_⟩
  rintro ⟨c, t, f, h3, h4⟩
  rcases h1.2 with ⟨rfl, _⟩ | ⟨g, cap, cur, rfl, hb, hg, _⟩
  · cases hk
  · cases hk
    rw [hg] at h3
    cases h3
    exact h4.1 rfl

end Go.Proofs.YtmmlphdekeflfaaGreatDoor

namespace Go.Proofs.YtmmlphdekeflfaaGreatDoor
open Go.RowKit

end Go.Proofs.YtmmlphdekeflfaaGreatDoor

namespace Go.Proofs.YtmmlphdekeflfaaGreatDoor
open Go.RowKit

theorem wpStill_skipG {P : Program} {ops : Array Oper} {w : World} {Q : Act → Prop} {a : Act} {o : Oper} {rest : List Oper} (hw : Region.wanted o (yielded ops a.tmps) = false)
    (h : ∀ K : Act → Prop, (∀ a, wpStill P ops w Q rest a → K a) → K (a.put o.dst undef)) : wpStill P ops w Q (o :: rest) a := by
  refine wpStill_step (fun K hK => ?_)
  rw [hw]
  exact h K hK
theorem wpStill_wantG {P : Program} {ops : Array Oper} {w : World} {Q : Act → Prop} {a : Act} {o : Oper} {rest : List Oper} (hw : Region.wanted o (yielded ops a.tmps) = true)
    (h : ∀ K : Act → Prop, (∀ a, wpStill P ops w Q rest a → K a) → o.still P a w K) : wpStill P ops w Q (o :: rest) a := by
  refine wpStill_step (fun K hK => ?_)
  rw [hw]
  exact h K hK

attribute [local irreducible] wpStill

set_option maxRecDepth 100000 in
set_option maxHeartbeats 2000000 in
theorem ronce_any (cap : Nat) (av : Option Addr) (ps : List Int) (w : World) (hlen : ps.length ≤ 17592186044400) (hrow : RowB w.heap.size w av ps) :
    Calls Tryz.prog 113 #[.slice av ps.length cap] w fun e w' => ∃ v os, e = .returned v ∧ OnceIs ps os ∧ w'.ownsRow w.heap.size 3 1 v os.length (os.map (Value.int .i64)) ∧ Below w.heap.size w w' := by
  have hmx : Tryz.prog.follows .mixedOrders = true := by kernel_rfl
  obtain ⟨i0, hi, hz0, hz1, hz2⟩ := info_parts Tryz.infoInt
  have HR := hid hrow
  clear hrow
  go_enter Tryz.func113, Tryz.ntmps113
  go_wp2_with fail
  go_loopw [3] (fun v wr => ∃ os : List Int, lenV v = os.length ∧ os.length ≤ ps.length ∧ Hid (Asc os ∧ (∀ x, x ∈ os → x ∈ ps) ∧ ∀ x, x ∈ ps → x ∈ os ∨ Cand os x) ∧ Hid (wr.ownsRow w.heap.size 3 1 v os.length (os.map (Value.int .i64))) ∧ Hid (Below w.heap.size w wr))
    (fun v _ => ps.length - lenV v)
  case atStart => exact ⟨[], rfl, Nat.zero_le _, ⟨List.Pairwise.nil, fun x hx => (by cases hx), fun x _ => .inr (fun y hy => by cases hy)⟩, World.ownsRow_nil _ _ _ _, Below.refl _ _⟩
  case round =>
    obtain ⟨os, hlv, hle, hinv, hown, hbel⟩ := hrel
    obtain ⟨ao, co, rfl, hlo⟩ := lst_of_owns hown.out
    have HLO := hid hlo.row
    obtain ⟨wo, rfl⟩ : ∃ wo, wo = wr := ⟨_, rfl⟩
    clear hlo hlv
    go_wp2_with fail
    go_loopw [4, 5] (fun bv iv wr => ∃ k : Nat, k ≤ ps.length ∧ iv = .int .i64 k ∧ Hid (BestIs ps os k bv) ∧ Hid (∃ nn, wr = wo.drewN nn)) (fun _ iv _ => ps.length - (intOf iv).toNat)
    case atStart => exact ⟨0, Nat.zero_le _, rfl, .inl ⟨rfl, fun j hj => by omega⟩, 0, rfl⟩
    case round =>
      obtain ⟨k, hk, rfl, hbest, hw⟩ := hrel
      have HW2 : Hid (∃ nn, wr.drew = wo.drewN nn) := by
        obtain ⟨nn, e⟩ := hw.out
        exact ⟨nn + 1, by rw [e]; rfl⟩
      have HBW : Hid (Below wo.heap.size wo wr) := by
        obtain ⟨nn, e⟩ := hw.out
        unfold Hid
        rw [e]
        exact below_drewN (Below.refl _ _) nn
      have HBK : Hid (∀ p, wr.cell? p = wo.cell? p) := by
        obtain ⟨nn, e⟩ := hw.out
        intro p
        rw [e]
        rfl
      have HWQ := hw
      clear hw
      by_cases hlt : k < ps.length
      · have hlt2 : (k : Int) < (ps.length : Int) := by omega
        have hkw : IntKind.i64.wrap ((k : Int) + 1) = (k : Int) + 1 := by rw [IntKind.wrap_i64]; omega
        obtain ⟨b1, o1, rfl, hb1, hc1⟩ := HR.out k hlt
        have hc2 : wr.cell? ⟨b1, o1 + k, none⟩ = some (.int .i64 (zat ps k)) := (HBK.out _).trans <| (hbel.out.cell (p := ⟨b1, o1 + k, none⟩) hb1).trans hc1
        have HBL := hid (And.intro hbel.out hown.out)
        clear hc1 hbel hown
        -- is it behind the last?
        have hcases : (os.length = 0 ∧ Cand os (zat ps k)) ∨ (∃ (z bl ol : Nat) (y : Int), os.length = z + 1 ∧ ao = some ⟨bl, ol, none⟩ ∧ wr.cell? ⟨bl, ol + z, none⟩ = some (.int .i64 y) ∧ ((y < zat ps k ∧ Cand os (zat ps k)) ∨ (¬ y < zat ps k ∧ ¬ Cand os (zat ps k)))) := by
          rcases Nat.eq_zero_or_pos os.length with h0 | h0
          · left
            refine ⟨h0, fun y hy => ?_⟩
            obtain rfl := List.length_eq_zero_iff.1 h0
            cases hy
          · right
            obtain ⟨bl, ol, e1, _, e2⟩ := HLO.out (os.length - 1) (by omega)
            refine ⟨os.length - 1, bl, ol, zat os (os.length - 1), by omega, e1, (HBK.out _).trans e2, ?_⟩
            by_cases g : zat os (os.length - 1) < zat ps k
            · exact .inl ⟨g, fun y hy => by have := asc_last hinv.out.1 h0 y hy; omega⟩
            · exact .inr ⟨g, fun hc => g (hc _ (zat_mem (by omega)))⟩
        rcases hcases with ⟨h0, hcand⟩ | ⟨z, bl, ol, y, hz, rfl, hcl, ⟨hlt3, hcand⟩ | ⟨hge, hnc⟩⟩
        · have h0b : ((os.length : Int) == 0) = true := by rw [h0]; rfl
          rcases hbest.out with ⟨rfl, _⟩ | ⟨m, rfl, hmk, _, _⟩
          · have HT := hid (hbest.out.first hcand)
            clear hbest hcand h0
            generalize zat ps k = x at *
            go_wp2_with fail
            refine wp_region_still_lit hmx (by kernel_rfl) ?_
            refine wpStill_wantG (by kernel_rfl) (fun K hK => ?_); go_simp; refine hK _ ?_; clear hK K
            refine wpStill_wantG (by kernel_rfl) (fun K hK => ?_); go_simp; refine hK _ ?_; clear hK K
            refine wpStill_wantG (by kernel_rfl) (fun K hK => ?_); go_simp; refine hK _ ?_; clear hK K
            refine wpStill_wantG (by kernel_rfl) (fun K hK => ?_); go_simp; refine hK _ ?_; clear hK K
            refine wpStill_skipG (by kernel_rfl) (fun K hK => ?_); go_simp; refine hK _ ?_; clear hK K
            refine wpStill_skipG (by kernel_rfl) (fun K hK => ?_); go_simp; refine hK _ ?_; clear hK K
            refine wpStill_skipG (by kernel_rfl) (fun K hK => ?_); go_simp; refine hK _ ?_; clear hK K
            refine wpStill_skipG (by kernel_rfl) (fun K hK => ?_); go_simp; refine hK _ ?_; clear hK K
            refine wpStill_skipG (by kernel_rfl) (fun K hK => ?_); go_simp; refine hK _ ?_; clear hK K
            refine wpStill_skipG (by kernel_rfl) (fun K hK => ?_); go_simp; refine hK _ ?_; clear hK K
            refine wpStill_skipG (by kernel_rfl) (fun K hK => ?_); go_simp; refine hK _ ?_; clear hK K
            refine wpStill_skipG (by kernel_rfl) (fun K hK => ?_); go_simp; refine hK _ ?_; clear hK K
            refine wpStill_skipG (by kernel_rfl) (fun K hK => ?_); go_simp; refine hK _ ?_; clear hK K
            refine wpStill_skipG (by kernel_rfl) (fun K hK => ?_); go_simp; refine hK _ ?_; clear hK K
            refine wpStill_skipG (by kernel_rfl) (fun K hK => ?_); go_simp; refine hK _ ?_; clear hK K
            refine wpStill_wantG (by kernel_rfl) (fun K hK => ?_); go_simp; refine hK _ ?_; clear hK K
            refine wpStill_wantG (by kernel_rfl) (fun K hK => ?_); go_simp; refine hK _ ?_; clear hK K
            refine wpStill_wantG (by kernel_rfl) (fun K hK => ?_); go_simp; refine hK _ ?_; clear hK K
            refine wpStill_wantG (by kernel_rfl) (fun K hK => ?_); go_simp; refine hK _ ?_; clear hK K
            refine wpStill_wantG (by kernel_rfl) (fun K hK => ?_); go_simp; refine hK _ ?_; clear hK K
            refine wpStill_skipG (by kernel_rfl) (fun K hK => ?_); go_simp; refine hK _ ?_; clear hK K
            refine wpStill_skipG (by kernel_rfl) (fun K hK => ?_); go_simp; refine hK _ ?_; clear hK K
            refine wpStill_skipG (by kernel_rfl) (fun K hK => ?_); go_simp; refine hK _ ?_; clear hK K
            refine wpStill_skipG (by kernel_rfl) (fun K hK => ?_); go_simp; refine hK _ ?_; clear hK K
            refine wpStill_skipG (by kernel_rfl) (fun K hK => ?_); go_simp; refine hK _ ?_; clear hK K
            refine wpStill_skipG (by kernel_rfl) (fun K hK => ?_); go_simp; refine hK _ ?_; clear hK K
            refine wpStill_skipG (by kernel_rfl) (fun K hK => ?_); go_simp; refine hK _ ?_; clear hK K
            refine wpStill_skipG (by kernel_rfl) (fun K hK => ?_); go_simp; refine hK _ ?_; clear hK K
            refine wpStill_skipG (by kernel_rfl) (fun K hK => ?_); go_simp; refine hK _ ?_; clear hK K
            refine wpStill_wantG (by kernel_rfl) (fun K hK => ?_); go_simp; refine hK _ ?_; clear hK K
            refine wpStill_wantG (by kernel_rfl) (fun K hK => ?_); go_simp; refine hK _ ?_; clear hK K
            refine wpStill_nil ?_
            go_wp2_with fail
            go_roundw
            case rel => exact ⟨k + 1, by omega, by go_num, HT, HW2⟩
            case measure => simp [intOf]; omega
          · obtain ⟨b2, o2, e2, hb2, hm2⟩ := HR.out m (by omega)
            cases e2
            have hm3 : wr.cell? ⟨b1, o1 + m, none⟩ = some (.int .i64 (zat ps m)) := (HBK.out _).trans <| (HBL.out.1.cell (p := ⟨b1, o1 + m, none⟩) hb2).trans hm2
            have hmlt : (m : Int) < (ps.length : Int) := by omega
            have hmn : ¬ (m : Int) < 0 := by omega
            by_cases hl2 : zat ps k < zat ps m
            · have HT := hid (hbest.out.less hcand hl2)
              clear hbest hcand h0 hm2
              generalize zat ps k = x at *
              generalize zat ps m = xm at *
              go_wp2_with fail
              refine wp_region_still_lit hmx (by kernel_rfl) ?_
              refine wpStill_wantG (by kernel_rfl) (fun K hK => ?_); go_simp; refine hK _ ?_; clear hK K
              refine wpStill_wantG (by kernel_rfl) (fun K hK => ?_); go_simp; refine hK _ ?_; clear hK K
              refine wpStill_wantG (by kernel_rfl) (fun K hK => ?_); go_simp; refine hK _ ?_; clear hK K
              refine wpStill_wantG (by kernel_rfl) (fun K hK => ?_); go_simp; refine hK _ ?_; clear hK K
              refine wpStill_skipG (by kernel_rfl) (fun K hK => ?_); go_simp; refine hK _ ?_; clear hK K
              refine wpStill_skipG (by kernel_rfl) (fun K hK => ?_); go_simp; refine hK _ ?_; clear hK K
              refine wpStill_skipG (by kernel_rfl) (fun K hK => ?_); go_simp; refine hK _ ?_; clear hK K
              refine wpStill_skipG (by kernel_rfl) (fun K hK => ?_); go_simp; refine hK _ ?_; clear hK K
              refine wpStill_skipG (by kernel_rfl) (fun K hK => ?_); go_simp; refine hK _ ?_; clear hK K
              refine wpStill_skipG (by kernel_rfl) (fun K hK => ?_); go_simp; refine hK _ ?_; clear hK K
              refine wpStill_skipG (by kernel_rfl) (fun K hK => ?_); go_simp; refine hK _ ?_; clear hK K
              refine wpStill_skipG (by kernel_rfl) (fun K hK => ?_); go_simp; refine hK _ ?_; clear hK K
              refine wpStill_skipG (by kernel_rfl) (fun K hK => ?_); go_simp; refine hK _ ?_; clear hK K
              refine wpStill_skipG (by kernel_rfl) (fun K hK => ?_); go_simp; refine hK _ ?_; clear hK K
              refine wpStill_skipG (by kernel_rfl) (fun K hK => ?_); go_simp; refine hK _ ?_; clear hK K
              refine wpStill_wantG (by kernel_rfl) (fun K hK => ?_); go_simp; refine hK _ ?_; clear hK K
              refine wpStill_wantG (by kernel_rfl) (fun K hK => ?_); go_simp; refine hK _ ?_; clear hK K
              refine wpStill_wantG (by kernel_rfl) (fun K hK => ?_); go_simp; refine hK _ ?_; clear hK K
              refine wpStill_wantG (by kernel_rfl) (fun K hK => ?_); go_simp; refine hK _ ?_; clear hK K
              refine wpStill_wantG (by kernel_rfl) (fun K hK => ?_); go_simp; refine hK _ ?_; clear hK K
              refine wpStill_wantG (by kernel_rfl) (fun K hK => ?_); go_simp; refine hK _ ?_; clear hK K
              refine wpStill_wantG (by kernel_rfl) (fun K hK => ?_); go_simp; refine hK _ ?_; clear hK K
              refine wpStill_wantG (by kernel_rfl) (fun K hK => ?_); go_simp; refine hK _ ?_; clear hK K
              refine wpStill_wantG (by kernel_rfl) (fun K hK => ?_); go_simp; refine hK _ ?_; clear hK K
              refine wpStill_wantG (by kernel_rfl) (fun K hK => ?_); go_simp; refine hK _ ?_; clear hK K
              refine wpStill_wantG (by kernel_rfl) (fun K hK => ?_); go_simp; refine hK _ ?_; clear hK K
              refine wpStill_wantG (by kernel_rfl) (fun K hK => ?_); go_simp; refine hK _ ?_; clear hK K
              refine wpStill_wantG (by kernel_rfl) (fun K hK => ?_); go_simp; refine hK _ ?_; clear hK K
              refine wpStill_wantG (by kernel_rfl) (fun K hK => ?_); go_simp; refine hK _ ?_; clear hK K
              refine wpStill_wantG (by kernel_rfl) (fun K hK => ?_); go_simp; refine hK _ ?_; clear hK K
              refine wpStill_wantG (by kernel_rfl) (fun K hK => ?_); go_simp; refine hK _ ?_; clear hK K
              refine wpStill_nil ?_
              go_wp2_with fail
              go_roundw
              case rel => exact ⟨k + 1, by omega, by go_num, HT, HW2⟩
              case measure => simp [intOf]; omega
            · have HT := hid (hbest.out.more hl2)
              clear hbest hcand h0 hm2
              generalize zat ps k = x at *
              generalize zat ps m = xm at *
              go_wp2_with fail
              refine wp_region_still_lit hmx (by kernel_rfl) ?_
              refine wpStill_wantG (by kernel_rfl) (fun K hK => ?_); go_simp; refine hK _ ?_; clear hK K
              refine wpStill_wantG (by kernel_rfl) (fun K hK => ?_); go_simp; refine hK _ ?_; clear hK K
              refine wpStill_wantG (by kernel_rfl) (fun K hK => ?_); go_simp; refine hK _ ?_; clear hK K
              refine wpStill_wantG (by kernel_rfl) (fun K hK => ?_); go_simp; refine hK _ ?_; clear hK K
              refine wpStill_skipG (by kernel_rfl) (fun K hK => ?_); go_simp; refine hK _ ?_; clear hK K
              refine wpStill_skipG (by kernel_rfl) (fun K hK => ?_); go_simp; refine hK _ ?_; clear hK K
              refine wpStill_skipG (by kernel_rfl) (fun K hK => ?_); go_simp; refine hK _ ?_; clear hK K
              refine wpStill_skipG (by kernel_rfl) (fun K hK => ?_); go_simp; refine hK _ ?_; clear hK K
              refine wpStill_skipG (by kernel_rfl) (fun K hK => ?_); go_simp; refine hK _ ?_; clear hK K
              refine wpStill_skipG (by kernel_rfl) (fun K hK => ?_); go_simp; refine hK _ ?_; clear hK K
              refine wpStill_skipG (by kernel_rfl) (fun K hK => ?_); go_simp; refine hK _ ?_; clear hK K
              refine wpStill_skipG (by kernel_rfl) (fun K hK => ?_); go_simp; refine hK _ ?_; clear hK K
              refine wpStill_skipG (by kernel_rfl) (fun K hK => ?_); go_simp; refine hK _ ?_; clear hK K
              refine wpStill_skipG (by kernel_rfl) (fun K hK => ?_); go_simp; refine hK _ ?_; clear hK K
              refine wpStill_skipG (by kernel_rfl) (fun K hK => ?_); go_simp; refine hK _ ?_; clear hK K
              refine wpStill_wantG (by kernel_rfl) (fun K hK => ?_); go_simp; refine hK _ ?_; clear hK K
              refine wpStill_wantG (by kernel_rfl) (fun K hK => ?_); go_simp; refine hK _ ?_; clear hK K
              refine wpStill_wantG (by kernel_rfl) (fun K hK => ?_); go_simp; refine hK _ ?_; clear hK K
              refine wpStill_wantG (by kernel_rfl) (fun K hK => ?_); go_simp; refine hK _ ?_; clear hK K
              refine wpStill_wantG (by kernel_rfl) (fun K hK => ?_); go_simp; refine hK _ ?_; clear hK K
              refine wpStill_wantG (by kernel_rfl) (fun K hK => ?_); go_simp; refine hK _ ?_; clear hK K
              refine wpStill_wantG (by kernel_rfl) (fun K hK => ?_); go_simp; refine hK _ ?_; clear hK K
              refine wpStill_wantG (by kernel_rfl) (fun K hK => ?_); go_simp; refine hK _ ?_; clear hK K
              refine wpStill_wantG (by kernel_rfl) (fun K hK => ?_); go_simp; refine hK _ ?_; clear hK K
              refine wpStill_wantG (by kernel_rfl) (fun K hK => ?_); go_simp; refine hK _ ?_; clear hK K
              refine wpStill_wantG (by kernel_rfl) (fun K hK => ?_); go_simp; refine hK _ ?_; clear hK K
              refine wpStill_wantG (by kernel_rfl) (fun K hK => ?_); go_simp; refine hK _ ?_; clear hK K
              refine wpStill_wantG (by kernel_rfl) (fun K hK => ?_); go_simp; refine hK _ ?_; clear hK K
              refine wpStill_wantG (by kernel_rfl) (fun K hK => ?_); go_simp; refine hK _ ?_; clear hK K
              refine wpStill_wantG (by kernel_rfl) (fun K hK => ?_); go_simp; refine hK _ ?_; clear hK K
              refine wpStill_wantG (by kernel_rfl) (fun K hK => ?_); go_simp; refine hK _ ?_; clear hK K
              refine wpStill_nil ?_
              go_wp2_with fail
              go_roundw
              case rel => exact ⟨k + 1, by omega, by go_num, HT, HW2⟩
              case measure => simp [intOf]; omega
        · have h0b : ((os.length : Int) == 0) = false := by rw [beq_eq_false_iff_ne]; omega
          have e1 : (os.length : Int) - 1 = (z : Int) := by omega
          have zlt : (z : Int) < (os.length : Int) := by omega
          have zw : IntKind.i64.wrap (z : Int) = (z : Int) := by rw [IntKind.wrap_i64]; omega
          rcases hbest.out with ⟨rfl, _⟩ | ⟨m, rfl, hmk, _, _⟩
          · have HT := hid (hbest.out.first hcand)
            clear hbest hcand hz
            generalize zat ps k = x at *
            go_wp2_with fail
            refine wp_region_still_lit hmx (by kernel_rfl) ?_
            refine wpStill_wantG (by kernel_rfl) (fun K hK => ?_); go_simp; refine hK _ ?_; clear hK K
            refine wpStill_wantG (by kernel_rfl) (fun K hK => ?_); go_simp; refine hK _ ?_; clear hK K
            refine wpStill_wantG (by kernel_rfl) (fun K hK => ?_); go_simp; refine hK _ ?_; clear hK K
            refine wpStill_wantG (by kernel_rfl) (fun K hK => ?_); go_simp; refine hK _ ?_; clear hK K
            refine wpStill_wantG (by kernel_rfl) (fun K hK => ?_); go_simp; refine hK _ ?_; clear hK K
            refine wpStill_wantG (by kernel_rfl) (fun K hK => ?_); go_simp; refine hK _ ?_; clear hK K
            refine wpStill_wantG (by kernel_rfl) (fun K hK => ?_); go_simp; refine hK _ ?_; clear hK K
            refine wpStill_wantG (by kernel_rfl) (fun K hK => ?_); go_simp; refine hK _ ?_; clear hK K
            refine wpStill_wantG (by kernel_rfl) (fun K hK => ?_); go_simp; refine hK _ ?_; clear hK K
            refine wpStill_wantG (by kernel_rfl) (fun K hK => ?_); go_simp; refine hK _ ?_; clear hK K
            refine wpStill_wantG (by kernel_rfl) (fun K hK => ?_); go_simp; refine hK _ ?_; clear hK K
            refine wpStill_wantG (by kernel_rfl) (fun K hK => ?_); go_simp; refine hK _ ?_; clear hK K
            refine wpStill_wantG (by kernel_rfl) (fun K hK => ?_); go_simp; refine hK _ ?_; clear hK K
            refine wpStill_wantG (by kernel_rfl) (fun K hK => ?_); go_simp; refine hK _ ?_; clear hK K
            refine wpStill_wantG (by kernel_rfl) (fun K hK => ?_); go_simp; refine hK _ ?_; clear hK K
            refine wpStill_wantG (by kernel_rfl) (fun K hK => ?_); go_simp; refine hK _ ?_; clear hK K
            refine wpStill_wantG (by kernel_rfl) (fun K hK => ?_); go_simp; refine hK _ ?_; clear hK K
            refine wpStill_wantG (by kernel_rfl) (fun K hK => ?_); go_simp; refine hK _ ?_; clear hK K
            refine wpStill_wantG (by kernel_rfl) (fun K hK => ?_); go_simp; refine hK _ ?_; clear hK K
            refine wpStill_wantG (by kernel_rfl) (fun K hK => ?_); go_simp; refine hK _ ?_; clear hK K
            refine wpStill_skipG (by kernel_rfl) (fun K hK => ?_); go_simp; refine hK _ ?_; clear hK K
            refine wpStill_skipG (by kernel_rfl) (fun K hK => ?_); go_simp; refine hK _ ?_; clear hK K
            refine wpStill_skipG (by kernel_rfl) (fun K hK => ?_); go_simp; refine hK _ ?_; clear hK K
            refine wpStill_skipG (by kernel_rfl) (fun K hK => ?_); go_simp; refine hK _ ?_; clear hK K
            refine wpStill_skipG (by kernel_rfl) (fun K hK => ?_); go_simp; refine hK _ ?_; clear hK K
            refine wpStill_skipG (by kernel_rfl) (fun K hK => ?_); go_simp; refine hK _ ?_; clear hK K
            refine wpStill_skipG (by kernel_rfl) (fun K hK => ?_); go_simp; refine hK _ ?_; clear hK K
            refine wpStill_skipG (by kernel_rfl) (fun K hK => ?_); go_simp; refine hK _ ?_; clear hK K
            refine wpStill_skipG (by kernel_rfl) (fun K hK => ?_); go_simp; refine hK _ ?_; clear hK K
            refine wpStill_wantG (by kernel_rfl) (fun K hK => ?_); go_simp; refine hK _ ?_; clear hK K
            refine wpStill_wantG (by kernel_rfl) (fun K hK => ?_); go_simp; refine hK _ ?_; clear hK K
            refine wpStill_nil ?_
            go_wp2_with fail
            go_roundw
            case rel => exact ⟨k + 1, by omega, by go_num, HT, HW2⟩
            case measure => simp [intOf]; omega
          · obtain ⟨b2, o2, e2, hb2, hm2⟩ := HR.out m (by omega)
            cases e2
            have hm3 : wr.cell? ⟨b1, o1 + m, none⟩ = some (.int .i64 (zat ps m)) := (HBK.out _).trans <| (HBL.out.1.cell (p := ⟨b1, o1 + m, none⟩) hb2).trans hm2
            have hmlt : (m : Int) < (ps.length : Int) := by omega
            have hmn : ¬ (m : Int) < 0 := by omega
            by_cases hl2 : zat ps k < zat ps m
            · have HT := hid (hbest.out.less hcand hl2)
              clear hbest hcand hz hm2
              generalize zat ps k = x at *
              generalize zat ps m = xm at *
              go_wp2_with fail
              refine wp_region_still_lit hmx (by kernel_rfl) ?_
              refine wpStill_wantG (by kernel_rfl) (fun K hK => ?_); go_simp; refine hK _ ?_; clear hK K
              refine wpStill_wantG (by kernel_rfl) (fun K hK => ?_); go_simp; refine hK _ ?_; clear hK K
              refine wpStill_wantG (by kernel_rfl) (fun K hK => ?_); go_simp; refine hK _ ?_; clear hK K
              refine wpStill_wantG (by kernel_rfl) (fun K hK => ?_); go_simp; refine hK _ ?_; clear hK K
              refine wpStill_wantG (by kernel_rfl) (fun K hK => ?_); go_simp; refine hK _ ?_; clear hK K
              refine wpStill_wantG (by kernel_rfl) (fun K hK => ?_); go_simp; refine hK _ ?_; clear hK K
              refine wpStill_wantG (by kernel_rfl) (fun K hK => ?_); go_simp; refine hK _ ?_; clear hK K
              refine wpStill_wantG (by kernel_rfl) (fun K hK => ?_); go_simp; refine hK _ ?_; clear hK K
              refine wpStill_wantG (by kernel_rfl) (fun K hK => ?_); go_simp; refine hK _ ?_; clear hK K
              refine wpStill_wantG (by kernel_rfl) (fun K hK => ?_); go_simp; refine hK _ ?_; clear hK K
              refine wpStill_wantG (by kernel_rfl) (fun K hK => ?_); go_simp; refine hK _ ?_; clear hK K
              refine wpStill_wantG (by kernel_rfl) (fun K hK => ?_); go_simp; refine hK _ ?_; clear hK K
              refine wpStill_wantG (by kernel_rfl) (fun K hK => ?_); go_simp; refine hK _ ?_; clear hK K
              refine wpStill_wantG (by kernel_rfl) (fun K hK => ?_); go_simp; refine hK _ ?_; clear hK K
              refine wpStill_wantG (by kernel_rfl) (fun K hK => ?_); go_simp; refine hK _ ?_; clear hK K
              refine wpStill_wantG (by kernel_rfl) (fun K hK => ?_); go_simp; refine hK _ ?_; clear hK K
              refine wpStill_wantG (by kernel_rfl) (fun K hK => ?_); go_simp; refine hK _ ?_; clear hK K
              refine wpStill_wantG (by kernel_rfl) (fun K hK => ?_); go_simp; refine hK _ ?_; clear hK K
              refine wpStill_wantG (by kernel_rfl) (fun K hK => ?_); go_simp; refine hK _ ?_; clear hK K
              refine wpStill_wantG (by kernel_rfl) (fun K hK => ?_); go_simp; refine hK _ ?_; clear hK K
              refine wpStill_wantG (by kernel_rfl) (fun K hK => ?_); go_simp; refine hK _ ?_; clear hK K
              refine wpStill_wantG (by kernel_rfl) (fun K hK => ?_); go_simp; refine hK _ ?_; clear hK K
              refine wpStill_wantG (by kernel_rfl) (fun K hK => ?_); go_simp; refine hK _ ?_; clear hK K
              refine wpStill_wantG (by kernel_rfl) (fun K hK => ?_); go_simp; refine hK _ ?_; clear hK K
              refine wpStill_wantG (by kernel_rfl) (fun K hK => ?_); go_simp; refine hK _ ?_; clear hK K
              refine wpStill_wantG (by kernel_rfl) (fun K hK => ?_); go_simp; refine hK _ ?_; clear hK K
              refine wpStill_wantG (by kernel_rfl) (fun K hK => ?_); go_simp; refine hK _ ?_; clear hK K
              refine wpStill_wantG (by kernel_rfl) (fun K hK => ?_); go_simp; refine hK _ ?_; clear hK K
              refine wpStill_wantG (by kernel_rfl) (fun K hK => ?_); go_simp; refine hK _ ?_; clear hK K
              refine wpStill_wantG (by kernel_rfl) (fun K hK => ?_); go_simp; refine hK _ ?_; clear hK K
              refine wpStill_wantG (by kernel_rfl) (fun K hK => ?_); go_simp; refine hK _ ?_; clear hK K
              refine wpStill_nil ?_
              go_wp2_with fail
              go_roundw
              case rel => exact ⟨k + 1, by omega, by go_num, HT, HW2⟩
              case measure => simp [intOf]; omega
            · have HT := hid (hbest.out.more hl2)
              clear hbest hcand hz hm2
              generalize zat ps k = x at *
              generalize zat ps m = xm at *
              go_wp2_with fail
              refine wp_region_still_lit hmx (by kernel_rfl) ?_
              refine wpStill_wantG (by kernel_rfl) (fun K hK => ?_); go_simp; refine hK _ ?_; clear hK K
              refine wpStill_wantG (by kernel_rfl) (fun K hK => ?_); go_simp; refine hK _ ?_; clear hK K
              refine wpStill_wantG (by kernel_rfl) (fun K hK => ?_); go_simp; refine hK _ ?_; clear hK K
              refine wpStill_wantG (by kernel_rfl) (fun K hK => ?_); go_simp; refine hK _ ?_; clear hK K
              refine wpStill_wantG (by kernel_rfl) (fun K hK => ?_); go_simp; refine hK _ ?_; clear hK K
              refine wpStill_wantG (by kernel_rfl) (fun K hK => ?_); go_simp; refine hK _ ?_; clear hK K
              refine wpStill_wantG (by kernel_rfl) (fun K hK => ?_); go_simp; refine hK _ ?_; clear hK K
              refine wpStill_wantG (by kernel_rfl) (fun K hK => ?_); go_simp; refine hK _ ?_; clear hK K
              refine wpStill_wantG (by kernel_rfl) (fun K hK => ?_); go_simp; refine hK _ ?_; clear hK K
              refine wpStill_wantG (by kernel_rfl) (fun K hK => ?_); go_simp; refine hK _ ?_; clear hK K
              refine wpStill_wantG (by kernel_rfl) (fun K hK => ?_); go_simp; refine hK _ ?_; clear hK K
              refine wpStill_wantG (by kernel_rfl) (fun K hK => ?_); go_simp; refine hK _ ?_; clear hK K
              refine wpStill_wantG (by kernel_rfl) (fun K hK => ?_); go_simp; refine hK _ ?_; clear hK K
              refine wpStill_wantG (by kernel_rfl) (fun K hK => ?_); go_simp; refine hK _ ?_; clear hK K
              refine wpStill_wantG (by kernel_rfl) (fun K hK => ?_); go_simp; refine hK _ ?_; clear hK K
              refine wpStill_wantG (by kernel_rfl) (fun K hK => ?_); go_simp; refine hK _ ?_; clear hK K
              refine wpStill_wantG (by kernel_rfl) (fun K hK => ?_); go_simp; refine hK _ ?_; clear hK K
              refine wpStill_wantG (by kernel_rfl) (fun K hK => ?_); go_simp; refine hK _ ?_; clear hK K
              refine wpStill_wantG (by kernel_rfl) (fun K hK => ?_); go_simp; refine hK _ ?_; clear hK K
              refine wpStill_wantG (by kernel_rfl) (fun K hK => ?_); go_simp; refine hK _ ?_; clear hK K
              refine wpStill_wantG (by kernel_rfl) (fun K hK => ?_); go_simp; refine hK _ ?_; clear hK K
              refine wpStill_wantG (by kernel_rfl) (fun K hK => ?_); go_simp; refine hK _ ?_; clear hK K
              refine wpStill_wantG (by kernel_rfl) (fun K hK => ?_); go_simp; refine hK _ ?_; clear hK K
              refine wpStill_wantG (by kernel_rfl) (fun K hK => ?_); go_simp; refine hK _ ?_; clear hK K
              refine wpStill_wantG (by kernel_rfl) (fun K hK => ?_); go_simp; refine hK _ ?_; clear hK K
              refine wpStill_wantG (by kernel_rfl) (fun K hK => ?_); go_simp; refine hK _ ?_; clear hK K
              refine wpStill_wantG (by kernel_rfl) (fun K hK => ?_); go_simp; refine hK _ ?_; clear hK K
              refine wpStill_wantG (by kernel_rfl) (fun K hK => ?_); go_simp; refine hK _ ?_; clear hK K
              refine wpStill_wantG (by kernel_rfl) (fun K hK => ?_); go_simp; refine hK _ ?_; clear hK K
              refine wpStill_wantG (by kernel_rfl) (fun K hK => ?_); go_simp; refine hK _ ?_; clear hK K
              refine wpStill_wantG (by kernel_rfl) (fun K hK => ?_); go_simp; refine hK _ ?_; clear hK K
              refine wpStill_nil ?_
              go_wp2_with fail
              go_roundw
              case rel => exact ⟨k + 1, by omega, by go_num, HT, HW2⟩
              case measure => simp [intOf]; omega
        · have h0b : ((os.length : Int) == 0) = false := by rw [beq_eq_false_iff_ne]; omega
          have e1 : (os.length : Int) - 1 = (z : Int) := by omega
          have zlt : (z : Int) < (os.length : Int) := by omega
          have zw : IntKind.i64.wrap (z : Int) = (z : Int) := by rw [IntKind.wrap_i64]; omega
          have HT := hid (hbest.out.skip hnc)
          have hgb : decide (y < zat ps k) = false := decide_eq_false hge
          clear hbest hnc hz
          generalize zat ps k = x at *
          go_wp2_with fail
          refine wp_region_still_lit hmx (by kernel_rfl) ?_
          refine wpStill_wantG (by kernel_rfl) (fun K hK => ?_); go_simp; refine hK _ ?_; clear hK K
          refine wpStill_wantG (by kernel_rfl) (fun K hK => ?_); go_simp; refine hK _ ?_; clear hK K
          refine wpStill_wantG (by kernel_rfl) (fun K hK => ?_); go_simp; refine hK _ ?_; clear hK K
          refine wpStill_wantG (by kernel_rfl) (fun K hK => ?_); go_simp; refine hK _ ?_; clear hK K
          refine wpStill_wantG (by kernel_rfl) (fun K hK => ?_); go_simp; refine hK _ ?_; clear hK K
          refine wpStill_wantG (by kernel_rfl) (fun K hK => ?_); go_simp; refine hK _ ?_; clear hK K
          refine wpStill_wantG (by kernel_rfl) (fun K hK => ?_); go_simp; refine hK _ ?_; clear hK K
          refine wpStill_wantG (by kernel_rfl) (fun K hK => ?_); go_simp; refine hK _ ?_; clear hK K
          refine wpStill_wantG (by kernel_rfl) (fun K hK => ?_); go_simp; refine hK _ ?_; clear hK K
          refine wpStill_wantG (by kernel_rfl) (fun K hK => ?_); go_simp; refine hK _ ?_; clear hK K
          refine wpStill_wantG (by kernel_rfl) (fun K hK => ?_); go_simp; refine hK _ ?_; clear hK K
          refine wpStill_wantG (by kernel_rfl) (fun K hK => ?_); go_simp; refine hK _ ?_; clear hK K
          refine wpStill_wantG (by kernel_rfl) (fun K hK => ?_); go_simp; refine hK _ ?_; clear hK K
          refine wpStill_wantG (by kernel_rfl) (fun K hK => ?_); go_simp; refine hK _ ?_; clear hK K
          refine wpStill_wantG (by kernel_rfl) (fun K hK => ?_); go_simp; refine hK _ ?_; clear hK K
          refine wpStill_wantG (by kernel_rfl) (fun K hK => ?_); go_simp; refine hK _ ?_; clear hK K
          refine wpStill_wantG (by kernel_rfl) (fun K hK => ?_); go_simp; refine hK _ ?_; clear hK K
          refine wpStill_skipG (by kernel_rfl) (fun K hK => ?_); go_simp; refine hK _ ?_; clear hK K
          refine wpStill_skipG (by kernel_rfl) (fun K hK => ?_); go_simp; refine hK _ ?_; clear hK K
          refine wpStill_skipG (by kernel_rfl) (fun K hK => ?_); go_simp; refine hK _ ?_; clear hK K
          refine wpStill_skipG (by kernel_rfl) (fun K hK => ?_); go_simp; refine hK _ ?_; clear hK K
          refine wpStill_skipG (by kernel_rfl) (fun K hK => ?_); go_simp; refine hK _ ?_; clear hK K
          refine wpStill_skipG (by kernel_rfl) (fun K hK => ?_); go_simp; refine hK _ ?_; clear hK K
          refine wpStill_skipG (by kernel_rfl) (fun K hK => ?_); go_simp; refine hK _ ?_; clear hK K
          refine wpStill_skipG (by kernel_rfl) (fun K hK => ?_); go_simp; refine hK _ ?_; clear hK K
          refine wpStill_skipG (by kernel_rfl) (fun K hK => ?_); go_simp; refine hK _ ?_; clear hK K
          refine wpStill_skipG (by kernel_rfl) (fun K hK => ?_); go_simp; refine hK _ ?_; clear hK K
          refine wpStill_skipG (by kernel_rfl) (fun K hK => ?_); go_simp; refine hK _ ?_; clear hK K
          refine wpStill_skipG (by kernel_rfl) (fun K hK => ?_); go_simp; refine hK _ ?_; clear hK K
          refine wpStill_skipG (by kernel_rfl) (fun K hK => ?_); go_simp; refine hK _ ?_; clear hK K
          refine wpStill_wantG (by kernel_rfl) (fun K hK => ?_); go_simp; refine hK _ ?_; clear hK K
          refine wpStill_nil ?_
          go_wp2_with fail
          go_roundw
          case rel => exact ⟨k + 1, by omega, by go_num, HT, HW2⟩
          case measure => simp [intOf]; omega
      · obtain rfl : k = ps.length := by omega
        have HOW : Hid (wr.ownsRow w.heap.size 3 1 (.slice ao os.length co) os.length (os.map (Value.int .i64))) := by
          obtain ⟨nn, e⟩ := HWQ.out
          unfold Hid
          rw [e]
          exact hown.out
        have HBB : Hid (Below w.heap.size w wr) := hbel.out.trans (HBW.out.mono hbel.out.size)
        clear HWQ
        rcases hbest.out with ⟨rfl, hno⟩ | ⟨m, rfl, hmk, hcm, hmin⟩
        · have HE : Hid (OnceIs ps os ∧ wr.ownsRow w.heap.size 3 1 (.slice ao os.length co) os.length (os.map (Value.int .i64)) ∧ Below w.heap.size w wr) := by
            refine ⟨⟨hinv.out.1, fun x => ⟨hinv.out.2.1 x, fun hx => ?_⟩⟩, HOW.out, HBB.out⟩
            rcases hinv.out.2.2 x hx with g | g
            · exact g
            · obtain ⟨j, hj, rfl⟩ := mem_zat hx
              exact absurd g (hno j hj)
          clear hno hbest hown hbel hinv
          go_wp2_with fail
          go_ret
          exact ⟨_, os, rfl, HE.out.1, HE.out.2.1, HE.out.2.2⟩
        · obtain ⟨b2, o2, rfl, hb2, hm2⟩ := HR.out m hmk
          have hm3 : wr.cell? ⟨b2, o2 + m, none⟩ = some (.int .i64 (zat ps m)) := (HBK.out _).trans <| (hbel.out.cell (p := ⟨b2, o2 + m, none⟩) hb2).trans hm2
          have hmlt : (m : Int) < (ps.length : Int) := by omega
          have hmn : ¬ (m : Int) < 0 := by omega
          have HI2 : Hid (Asc (os ++ [zat ps m]) ∧ (∀ x, x ∈ os ++ [zat ps m] → x ∈ ps) ∧ ∀ x, x ∈ ps → x ∈ os ++ [zat ps m] ∨ Cand (os ++ [zat ps m]) x) := by
            refine ⟨asc_snoc hinv.out.1 hcm, fun x hx => ?_, fun x hx => ?_⟩
            · rcases List.mem_append.1 hx with g | g
              · exact hinv.out.2.1 x g
              · rw [List.mem_singleton.1 g]; exact zat_mem hmk
            · rcases hinv.out.2.2 x hx with g | g
              · exact .inl (List.mem_append_left _ g)
              · obtain ⟨j, hj, rfl⟩ := mem_zat hx
                have h1 := hmin j hj g
                by_cases e : zat ps j = zat ps m
                · exact .inl (List.mem_append_right _ (by rw [e]; exact List.mem_singleton_self _))
                · refine .inr (fun y hy => ?_)
                  rcases List.mem_append.1 hy with k1 | k1
                  · exact g y k1
                  · rw [List.mem_singleton.1 k1]; omega
          have hle2 : (os ++ [zat ps m]).length ≤ ps.length := asc_le HI2.out.1 HI2.out.2.1
          have hown2 : wr.ownsRow w.heap.size 3 1 (.slice ao os.length co) os.length (os.map (Value.int .i64)) := HOW.out
          have HB2 := HBB
          clear hbest hcm hmin hinv hown hbel hm2
          obtain ⟨w5, rfl⟩ : ∃ w5, w5 = wr := ⟨_, rfl⟩
          generalize zat ps m = x at *
          go_wp2_with (at_builtin; refine wpList_append_own _ rfl _ _ 23 rfl w.heap.size 3 i0 (.int .i64 0) 1 8 Tryz.underlying23 hi hz0 hz1 hz2 rfl (by decide) _ _ _ rfl (hown2.alloc _) ⟨w5.heap.size, 0, none⟩ 1 1 [.int .i64 x] rfl rfl ?c1 ?c2 ?c3 ?c4 ?c5 ?_)
          case c2 => first | rfl | (intro u hu; simp at hu; subst hu; rfl)
          case c3 => unfold maxLen; omega
          case c4 => omega
          case c5 => have := HB2.out.size; simp; omega
          intro v' w6 hown6 hgrow _
          have HO6 := hid (owns_succ hown6)
          have hs5 := HB2.out.size
          have HB6 : Hid (Below w.heap.size w w6) := (HB2.out.alloc hs5 _).grown hgrow (by simp; omega) (fun k hk => (hown2.lt k hk).1)
          obtain ⟨a6, c6, hv6⟩ := owns_len HO6.out
          subst hv6
          clear hown6 hgrow hown2 HB2
          go_wp2_with fail
          go_roundw
          case rel => exact ⟨os ++ [x], rfl, hle2, HI2, HO6, HB6⟩
          case measure => simp [lenV] at hle2 ⊢; omega

end Go.Proofs.YtmmlphdekeflfaaGreatDoor

namespace Go.Proofs.YtmmlphdekeflfaaGreatDoor
open Go.RowKit

/-- three cells -/
def tri (a b c : Value) : Nat → Value
  | 0 => a
  | 1 => b
  | _ => c
theorem tri_new (w : World) (t : TypeId) (a b c : Value) : (w.alloc (.cells #[a, b, c] t)).rowIs w.heap.size t 3 (tri a b c) :=
  ⟨#[a, b, c], heap_alloc_new w _, rfl, fun i hi => by
    have : i = 0 ∨ i = 1 ∨ i = 2 := by omega
    rcases this with rfl | rfl | rfl <;> rfl⟩
theorem tri_arr {W : World} {g : Nat} {t : TypeId} {a b c : Value} (h : W.rowIs g t 3 (tri a b c)) : W.heap[g]? = some (.cells #[a, b, c] t (0, 0)) := by
  obtain ⟨cs, h1, h2, h4⟩ := h
  rw [h1]
  have e : cs = #[a, b, c] := by
    apply Array.ext
    · simpa using h2
    · intro i hi hi2
      have h0 : i = 0 ∨ i = 1 ∨ i = 2 := by simp at hi2; omega
      have h5 := h4 i (by omega)
      rw [Array.getElem?_eq_getElem hi] at h5
      have h6 := Option.some.inj h5
      rw [h6]
      rcases h0 with rfl | rfl | rfl <;> rfl
  rw [e]
/-- a list's elements -/
def elr (q : Nat) (r : List Int) : List Int := ls (fun j => zat r j % (q : Int)) r.length
/-- an Opening alone has turned -/
theorem ne_O {w : World} {O b : Nat} (hO : ∃ c f, w.heap[O]? = some (.cells c 49 f)) (hb : NotRow w b) : b ≠ O := by
  rintro rfl
  obtain ⟨c, f, h1⟩ := hO
  obtain ⟨c', t, f', h2, h3⟩ := hb
  rw [h1] at h2
  cases h2
  exact h3.2.1 rfl
end Go.Proofs.YtmmlphdekeflfaaGreatDoor

namespace Go.Proofs.YtmmlphdekeflfaaGreatDoor
open Go.RowKit

/-- six cells -/
def six (a b c d e f : Value) : Nat → Value
  | 0 => a
  | 1 => b
  | 2 => c
  | 3 => d
  | 4 => e
  | _ => f
theorem six_set4 {W : World} {g : Nat} {t : TypeId} {a b c d e f : Value} (h : W.rowIs g t 6 (six a b c d e f)) (x : Value) : (W.setCell ⟨g, 4, none⟩ x).rowIs g t 6 (six a b c d x f) :=
  (h.set 4 x).congr (fun i hi => by
    have : i = 0 ∨ i = 1 ∨ i = 2 ∨ i = 3 ∨ i = 4 ∨ i = 5 := by omega
    rcases this with rfl | rfl | rfl | rfl | rfl | rfl <;> simp [six])
theorem six_set5 {W : World} {g : Nat} {t : TypeId} {a b c d e f : Value} (h : W.rowIs g t 6 (six a b c d e f)) (x : Value) : (W.setCell ⟨g, 5, none⟩ x).rowIs g t 6 (six a b c d e x) :=
  (h.set 5 x).congr (fun i hi => by
    have : i = 0 ∨ i = 1 ∨ i = 2 ∨ i = 3 ∨ i = 4 ∨ i = 5 := by omega
    rcases this with rfl | rfl | rfl | rfl | rfl | rfl <;> simp [six])

/-- where a place stands -/
def fx (ps : List Int) (x : Int) : Nat := ((List.range ps.length).find? (fun i => zat ps i == x)).getD 0
theorem fx_eq {ps : List Int} {x : Int} {i : Nat} (hi : i < ps.length) (h : zat ps i = x) (hn : ∀ j, j < i → zat ps j ≠ x) : fx ps x = i := by
  unfold fx
  rw [(List.find?_range_eq_some (i := i)).2 ⟨by simp [h], List.mem_range.2 hi, fun j hj => by simp [hn j hj]⟩]
  rfl

/-- the digest of cnt rows, of what is shown: what it is, how many nodes are taken, whether one lacked -/
def upf (q n : Nat) (ps : List Int) (rows nodes : List (List Int)) : Nat → Int → Nat → Nat → Bool → List Int × Nat × Bool
  | 0, _, _, t, bad => ([], t, bad)
  | k + 1, first, cnt, t, bad =>
    if smb ps first (first + (cnt : Int)) = false then (if nodes.length ≤ t ∨ (rat nodes t).length ≠ 4 then ([0, 0, 0, 0], t, true) else (elr q (rat nodes t), t + 1, bad))
    else if cnt = 1 then (digl q n (0 :: rat rows (fx ps first)), t, bad)
    else
      (digl q n (1 :: ((upf q n ps rows nodes k first (lft cnt) t bad).1 ++ (upf q n ps rows nodes k (first + ((lft cnt : Nat) : Int)) (cnt - lft cnt) (upf q n ps rows nodes k first (lft cnt) t bad).2.1 (upf q n ps rows nodes k first (lft cnt) t bad).2.2).1)),
        (upf q n ps rows nodes k (first + ((lft cnt : Nat) : Int)) (cnt - lft cnt) (upf q n ps rows nodes k first (lft cnt) t bad).2.1 (upf q n ps rows nodes k first (lft cnt) t bad).2.2).2)
theorem upf_len (q n : Nat) (ps : List Int) (rows nodes : List (List Int)) (k : Nat) (first : Int) (cnt t : Nat) (bad : Bool) (hk : 1 ≤ k) : (upf q n ps rows nodes k first cnt t bad).1.length = 4 := by
  cases k with
  | zero => omega
  | succ k =>
    simp only [upf]
    split
    · split
      · rfl
      · rename_i h
        show (elr q (rat nodes t)).length = 4
        unfold elr
        rw [ls_len]
        exact Classical.byContradiction fun e => h (.inr e)
    · split
      · exact digl_len _ _ _
      · exact digl_len _ _ _
theorem elr_fits {q : Nat} (h3 : 3 ≤ q) (h4 : q ≤ 2147483647) (r : List Int) : Fits (elr q r) := fun j hj => by
  unfold elr at *
  rw [ls_len] at hj
  rw [ls_at _ _ _ hj]
  have := emod_bounds (zat r j) q h3
  omega
theorem upf_fits {q : Nat} (h3 : 3 ≤ q) (h4 : q ≤ 2147483647) (n : Nat) (ps : List Int) (rows nodes : List (List Int)) (k : Nat) (first : Int) (cnt t : Nat) (bad : Bool) : Fits (upf q n ps rows nodes k first cnt t bad).1 := by
  cases k with
  | zero => intro j hj; simp [upf] at hj
  | succ k =>
    simp only [upf]
    split
    · split
      · intro j hj
        have : j = 0 ∨ j = 1 ∨ j = 2 ∨ j = 3 := by simp at hj; omega
        rcases this with rfl | rfl | rfl | rfl <;> simp [zat]
      · exact elr_fits h3 h4 _
    · split
      · exact digl_fits h3 h4 _ _
      · exact digl_fits h3 h4 _ _

/-- what Up answers -/
def UpD (C : Nat) (q : Nat) (vp vr vn : Value) (w : World) (r : List Int × Nat × Bool) (e : Ending) (w' : World) : Prop :=
  ∃ (g N : Nat), e = .returned (.slice (some ⟨g, 0, none⟩) 4 N) ∧ w.heap.size ≤ g ∧ LstD w' g N r.1 ∧ w'.rowIs C 222 6 (six (.int .i64 q) vp vr vn (.int .i64 r.2.1) (.bool r.2.2)) ∧ w.grownBy w' (some C)

theorem LstD.gb {w w' : World} {g N C : Nat} {l : List Int} (h : LstD w g N l) (e : w.grownBy w' (some C)) (hne : g ≠ C) : LstD w' g N l := by
  obtain ⟨h1, c, f, h2⟩ := h
  have hg : g < w.heap.size := (Array.getElem?_eq_some_iff.1 h2).1
  have hb := gb_blk e hg hne
  refine ⟨⟨fun k hk => ?_, h1.room, h1.nil⟩, c, f, hb.trans h2⟩
  obtain ⟨b, o, e1, e2, e3⟩ := h1.row k hk
  cases e1
  exact ⟨g, 0, rfl, Nat.lt_of_lt_of_le hg e.size, (World.cell?_of_block (w := w) (a := ⟨g, 0 + k, none⟩) hb).trans e3⟩

theorem upf_t (q n : Nat) (ps : List Int) (rows nodes : List (List Int)) (T : Nat) (hT : nodes.length ≤ T) : ∀ (k : Nat) (first : Int) (cnt t : Nat) (bad : Bool), t ≤ T → (upf q n ps rows nodes k first cnt t bad).2.1 ≤ T
  | 0, _, _, t, _, h => by simpa [upf] using h
  | k + 1, first, cnt, t, bad, h => by
    simp only [upf]
    split
    · split
      · exact h
      · rename_i h2
        show t + 1 ≤ T
        have : ¬ nodes.length ≤ t := fun e => h2 (.inl e)
        omega
    · split
      · exact h
      · exact upf_t q n ps rows nodes T hT k _ _ _ _ (upf_t q n ps rows nodes T hT k _ _ _ _ h)

theorem zero_dig (W : World) : LstD (W.alloc (.cells #[.int .i64 0, .int .i64 0, .int .i64 0, .int .i64 0] 3)).drew W.heap.size 4 [0, 0, 0, 0] := by
  refine ⟨⟨fun j hj => ?_, by simp, fun e => by cases e⟩, _, _, heap_alloc_new W _⟩
  refine ⟨W.heap.size, 0, rfl, by show W.heap.size < (W.alloc _).heap.size; simp, ?_⟩
  show (W.alloc (.cells #[.int .i64 0, .int .i64 0, .int .i64 0, .int .i64 0] 3)).cell? _ = _
  have : j = 0 ∨ j = 1 ∨ j = 2 ∨ j = 3 := by simp at hj; omega
  rcases this with rfl | rfl | rfl | rfl <;> simp [zat]
theorem below_of_gb {C n0 : Nat} {w w' : World} (h : w.grownBy w' (some C)) (hn : n0 ≤ C) (hC : C < w.heap.size) : Below n0 w w' := ⟨h.os, h.tape, h.output, h.size, fun k hk => gb_blk h (by omega) (by omega)⟩

end Go.Proofs.YtmmlphdekeflfaaGreatDoor

namespace Go.Proofs.YtmmlphdekeflfaaGreatDoor
open Go.RowKit

attribute [local irreducible] wpStill

set_option maxRecDepth 100000 in
set_option maxHeartbeats 4000000 in
theorem rup_lack (q n : Nat) (h5 : 5 ≤ q) (h4 : q ≤ 2147483647) (hpn : Spo.PowIs q n) (C n0 cp cr cn : Nat) (ap ar an' : Option Addr) (ps : List Int) (rows nodes : List (List Int)) (hps : ps.length ≤ 281474976710656) (hrl : rows.length = ps.length) (_hnl : nodes.length ≤ 281474976710656)
    (hfr : FitsR rows) (hfn : FitsR nodes) (hnC : n0 ≤ C) (first : Int) (cnt t : Nat) (bad : Bool) (w : World) (hcm : cnt ≤ 65536) (hf0 : 0 ≤ first) (hf1 : first + (cnt : Int) ≤ 1000000000) (_htm : t ≤ 281474976710656)
    (hC : w.rowIs C 222 6 (six (.int .i64 q) (.slice ap ps.length cp) (.slice ar rows.length cr) (.slice an' nodes.length cn) (.int .i64 t) (.bool bad))) (hrp : RowB n0 w ap ps) (hlr : LstR n0 w ar cr rows) (hln : LstR n0 w an' cn nodes)
    (hsm : smb ps first (first + (cnt : Int)) = false) (hte : nodes.length ≤ t) :
    Calls Tryz.prog 182 #[.pointer (some ⟨C, 0, none⟩), .int .i64 first, .int .i64 cnt] w (UpD C q (.slice ap ps.length cp) (.slice ar rows.length cr) (.slice an' nodes.length cn) w ([0, 0, 0, 0], t, true)) := by
    have hmx : Tryz.prog.follows .mixedOrders = true := by kernel_rfl
    have h3 : 3 ≤ q := by omega
    have HPN := hid hpn
    have HFR := hid hfr
    have HFN := hid hfn
    have HRP := hid hrp
    have HLR := hid hlr
    have HLN := hid hln
    have HC := hid hC
    have hCl := hC.lt
    have c0 := hC.cell (i := 0) (by omega)
    have c1 := hC.cell (i := 1) (by omega)
    have c2 := hC.cell (i := 2) (by omega)
    have c3 := hC.cell (i := 3) (by omega)
    have c4 := hC.cell (i := 4) (by omega)
    have c5 := hC.cell (i := 5) (by omega)
    have y4 := hC.frozen 4
    have y5 := hC.frozen 5
    simp only [six] at c0 c1 c2 c3 c4 c5
    have d3 : ∀ d : Nat, ({ w with drawn := d } : World).cell? ⟨C, 3, none⟩ = some (.slice an' nodes.length cn) := fun _ => c3
    have d4 : ∀ d : Nat, ({ w with drawn := d } : World).cell? ⟨C, 4, none⟩ = some (.int .i64 t) := fun _ => c4
    have hn0 : n0 ≤ w.heap.size := by omega
    have HSM := hid (rsome_any cp ap ps first (first + (cnt : Int)) w hps (hrp.mono hn0))
    have hw1 : IntKind.i64.wrap (first + (cnt : Int)) = first + (cnt : Int) := by rw [IntKind.wrap_i64]; omega
    rw [hsm] at HSM
    have hge : (nodes.length : Int) ≤ (t : Int) := by omega
    have HX : Hid ((w.setCell ⟨C, 5, none⟩ (.bool true)).drew.rowIs C 222 6 (six (.int .i64 q) (.slice ap ps.length cp) (.slice ar rows.length cr) (.slice an' nodes.length cn) (.int .i64 t) (.bool true)) ∧ w.grownBy (w.setCell ⟨C, 5, none⟩ (.bool true)).drew (some C)) := ⟨six_set5 hC _, gb_drew (gb_setCell (gb_refl C w) 5 _)⟩
    clear hC hrp hlr hln hfr hfn hpn hsm hte HRP HLR HLN HFR HFN
    go_enter Tryz.func182, Tryz.ntmps182
    go_wp2_with fail
    refine HSM.out.mono ?_
    rintro e w1 ⟨rfl, rfl⟩
    go_wp2_with fail
    refine wp_region_still_lit hmx (by kernel_rfl) ?_
    refine wpStill_wantG (by kernel_rfl) (fun K hK => ?_); go_simp; refine hK _ ?_; clear hK K
    refine wpStill_wantG (by kernel_rfl) (fun K hK => ?_); go_simp; refine hK _ ?_; clear hK K
    refine wpStill_wantG (by kernel_rfl) (fun K hK => ?_); go_simp; refine hK _ ?_; clear hK K
    refine wpStill_wantG (by kernel_rfl) (fun K hK => ?_); go_simp; refine hK _ ?_; clear hK K
    refine wpStill_wantG (by kernel_rfl) (fun K hK => ?_); go_simp; refine hK _ ?_; clear hK K
    refine wpStill_wantG (by kernel_rfl) (fun K hK => ?_); go_simp; refine hK _ ?_; clear hK K
    refine wpStill_wantG (by kernel_rfl) (fun K hK => ?_); go_simp; refine hK _ ?_; clear hK K
    refine wpStill_wantG (by kernel_rfl) (fun K hK => ?_); go_simp; refine hK _ ?_; clear hK K
    refine wpStill_wantG (by kernel_rfl) (fun K hK => ?_); go_simp; refine hK _ ?_; clear hK K
    refine wpStill_wantG (by kernel_rfl) (fun K hK => ?_); go_simp; refine hK _ ?_; clear hK K
    refine wpStill_wantG (by kernel_rfl) (fun K hK => ?_); go_simp; refine hK _ ?_; clear hK K
    refine wpStill_skipG (by kernel_rfl) (fun K hK => ?_); go_simp; refine hK _ ?_; clear hK K
    refine wpStill_skipG (by kernel_rfl) (fun K hK => ?_); go_simp; refine hK _ ?_; clear hK K
    refine wpStill_skipG (by kernel_rfl) (fun K hK => ?_); go_simp; refine hK _ ?_; clear hK K
    refine wpStill_skipG (by kernel_rfl) (fun K hK => ?_); go_simp; refine hK _ ?_; clear hK K
    refine wpStill_skipG (by kernel_rfl) (fun K hK => ?_); go_simp; refine hK _ ?_; clear hK K
    refine wpStill_skipG (by kernel_rfl) (fun K hK => ?_); go_simp; refine hK _ ?_; clear hK K
    refine wpStill_skipG (by kernel_rfl) (fun K hK => ?_); go_simp; refine hK _ ?_; clear hK K
    refine wpStill_skipG (by kernel_rfl) (fun K hK => ?_); go_simp; refine hK _ ?_; clear hK K
    refine wpStill_skipG (by kernel_rfl) (fun K hK => ?_); go_simp; refine hK _ ?_; clear hK K
    refine wpStill_skipG (by kernel_rfl) (fun K hK => ?_); go_simp; refine hK _ ?_; clear hK K
    refine wpStill_skipG (by kernel_rfl) (fun K hK => ?_); go_simp; refine hK _ ?_; clear hK K
    refine wpStill_skipG (by kernel_rfl) (fun K hK => ?_); go_simp; refine hK _ ?_; clear hK K
    refine wpStill_wantG (by kernel_rfl) (fun K hK => ?_); go_simp; refine hK _ ?_; clear hK K
    refine wpStill_nil ?_
    go_wp2_with fail
    have hsz : (w1.setCell ⟨C, 5, none⟩ (.bool true)).heap.size = w1.heap.size := by simp [World.setCell]
    have HZ := hid (zero_dig (w1.setCell ⟨C, 5, none⟩ (.bool true)))
    rw [hsz] at HZ
    go_ret
    exact ⟨w1.heap.size, 4, rfl, Nat.le_refl _, HZ.out, (six_set5 HC.out _).alloc _, gb_drew (gb_trans (gb_setCell (gb_refl C w1) 5 _) (gb_below ((Below.refl _ _).alloc (Nat.le_refl _) _)))⟩

end Go.Proofs.YtmmlphdekeflfaaGreatDoor

namespace Go.Proofs.YtmmlphdekeflfaaGreatDoor
open Go.RowKit

attribute [local irreducible] wpStill

set_option maxRecDepth 100000 in
set_option maxHeartbeats 4000000 in
theorem rup_odd (q n : Nat) (h5 : 5 ≤ q) (h4 : q ≤ 2147483647) (hpn : Spo.PowIs q n) (C n0 cp cr cn : Nat) (ap ar an' : Option Addr) (ps : List Int) (rows nodes : List (List Int)) (hps : ps.length ≤ 281474976710656) (hrl : rows.length = ps.length) (_hnl : nodes.length ≤ 281474976710656)
    (hfr : FitsR rows) (hfn : FitsR nodes) (hnC : n0 ≤ C) (first : Int) (cnt t : Nat) (bad : Bool) (w : World) (hcm : cnt ≤ 65536) (hf0 : 0 ≤ first) (hf1 : first + (cnt : Int) ≤ 1000000000) (_htm : t ≤ 281474976710656)
    (hC : w.rowIs C 222 6 (six (.int .i64 q) (.slice ap ps.length cp) (.slice ar rows.length cr) (.slice an' nodes.length cn) (.int .i64 t) (.bool bad))) (hrp : RowB n0 w ap ps) (hlr : LstR n0 w ar cr rows) (hln : LstR n0 w an' cn nodes)
    (hsm : smb ps first (first + (cnt : Int)) = false) (htl : t < nodes.length) (h44 : (rat nodes t).length ≠ 4) :
    Calls Tryz.prog 182 #[.pointer (some ⟨C, 0, none⟩), .int .i64 first, .int .i64 cnt] w (UpD C q (.slice ap ps.length cp) (.slice ar rows.length cr) (.slice an' nodes.length cn) w ([0, 0, 0, 0], t, true)) := by
    have hmx : Tryz.prog.follows .mixedOrders = true := by kernel_rfl
    have h3 : 3 ≤ q := by omega
    have HPN := hid hpn
    have HFR := hid hfr
    have HFN := hid hfn
    have HRP := hid hrp
    have HLR := hid hlr
    have HLN := hid hln
    have HC := hid hC
    have hCl := hC.lt
    have c0 := hC.cell (i := 0) (by omega)
    have c1 := hC.cell (i := 1) (by omega)
    have c2 := hC.cell (i := 2) (by omega)
    have c3 := hC.cell (i := 3) (by omega)
    have c4 := hC.cell (i := 4) (by omega)
    have c5 := hC.cell (i := 5) (by omega)
    have y4 := hC.frozen 4
    have y5 := hC.frozen 5
    simp only [six] at c0 c1 c2 c3 c4 c5
    have d3 : ∀ d : Nat, ({ w with drawn := d } : World).cell? ⟨C, 3, none⟩ = some (.slice an' nodes.length cn) := fun _ => c3
    have d4 : ∀ d : Nat, ({ w with drawn := d } : World).cell? ⟨C, 4, none⟩ = some (.int .i64 t) := fun _ => c4
    have hn0 : n0 ≤ w.heap.size := by omega
    have HSM := hid (rsome_any cp ap ps first (first + (cnt : Int)) w hps (hrp.mono hn0))
    have hw1 : IntKind.i64.wrap (first + (cnt : Int)) = first + (cnt : Int) := by rw [IntKind.wrap_i64]; omega
    rw [hsm] at HSM
    have htl2 : (t : Int) < (nodes.length : Int) := by omega
    have hgb : decide (nodes.length ≤ t) = false := decide_eq_false (by omega)
    obtain ⟨b1, o1, ak, ck, rfl, hb1, hc1, hlk⟩ := hln.row t htl
    obtain ⟨hfy, hfl⟩ := HFN.out t htl
    have h4b : (((rat nodes t).length : Int) != 4) = true := by rw [bne_iff_ne]; omega
    clear hC hrp hlr hln hfr hfn hpn hsm HRP HLR HLN HFR HFN hlk hfy hfl h44
    generalize (rat nodes t).length = lt at *
    go_enter Tryz.func182, Tryz.ntmps182
    go_wp2_with fail
    refine HSM.out.mono ?_
    rintro e w1 ⟨rfl, rfl⟩
    go_wp2_with fail
    refine wp_region_still_lit hmx (by kernel_rfl) ?_
    refine wpStill_wantG (by kernel_rfl) (fun K hK => ?_); go_simp; refine hK _ ?_; clear hK K
    refine wpStill_wantG (by kernel_rfl) (fun K hK => ?_); go_simp; refine hK _ ?_; clear hK K
    refine wpStill_wantG (by kernel_rfl) (fun K hK => ?_); go_simp; refine hK _ ?_; clear hK K
    refine wpStill_wantG (by kernel_rfl) (fun K hK => ?_); go_simp; refine hK _ ?_; clear hK K
    refine wpStill_wantG (by kernel_rfl) (fun K hK => ?_); go_simp; refine hK _ ?_; clear hK K
    refine wpStill_wantG (by kernel_rfl) (fun K hK => ?_); go_simp; refine hK _ ?_; clear hK K
    refine wpStill_wantG (by kernel_rfl) (fun K hK => ?_); go_simp; refine hK _ ?_; clear hK K
    refine wpStill_wantG (by kernel_rfl) (fun K hK => ?_); go_simp; refine hK _ ?_; clear hK K
    refine wpStill_wantG (by kernel_rfl) (fun K hK => ?_); go_simp; refine hK _ ?_; clear hK K
    refine wpStill_wantG (by kernel_rfl) (fun K hK => ?_); go_simp; refine hK _ ?_; clear hK K
    refine wpStill_wantG (by kernel_rfl) (fun K hK => ?_); go_simp; refine hK _ ?_; clear hK K
    refine wpStill_wantG (by kernel_rfl) (fun K hK => ?_); go_simp; refine hK _ ?_; clear hK K
    refine wpStill_wantG (by kernel_rfl) (fun K hK => ?_); go_simp; refine hK _ ?_; clear hK K
    refine wpStill_wantG (by kernel_rfl) (fun K hK => ?_); go_simp; refine hK _ ?_; clear hK K
    refine wpStill_wantG (by kernel_rfl) (fun K hK => ?_); go_simp; refine hK _ ?_; clear hK K
    refine wpStill_wantG (by kernel_rfl) (fun K hK => ?_); go_simp; refine hK _ ?_; clear hK K
    refine wpStill_wantG (by kernel_rfl) (fun K hK => ?_); go_simp; refine hK _ ?_; clear hK K
    refine wpStill_wantG (by kernel_rfl) (fun K hK => ?_); go_simp; refine hK _ ?_; clear hK K
    refine wpStill_wantG (by kernel_rfl) (fun K hK => ?_); go_simp; refine hK _ ?_; clear hK K
    refine wpStill_wantG (by kernel_rfl) (fun K hK => ?_); go_simp; refine hK _ ?_; clear hK K
    refine wpStill_wantG (by kernel_rfl) (fun K hK => ?_); go_simp; refine hK _ ?_; clear hK K
    refine wpStill_wantG (by kernel_rfl) (fun K hK => ?_); go_simp; refine hK _ ?_; clear hK K
    refine wpStill_wantG (by kernel_rfl) (fun K hK => ?_); go_simp; refine hK _ ?_; clear hK K
    refine wpStill_wantG (by kernel_rfl) (fun K hK => ?_); go_simp; refine hK _ ?_; clear hK K
    refine wpStill_nil ?_
    go_wp2_with fail
    have hsz : (w1.setCell ⟨C, 5, none⟩ (.bool true)).heap.size = w1.heap.size := by simp [World.setCell]
    have HZ := hid (zero_dig (w1.setCell ⟨C, 5, none⟩ (.bool true)))
    rw [hsz] at HZ
    go_ret
    exact ⟨w1.heap.size, 4, rfl, Nat.le_refl _, HZ.out, (six_set5 HC.out _).alloc _, gb_drew (gb_trans (gb_setCell (gb_refl C w1) 5 _) (gb_below ((Below.refl _ _).alloc (Nat.le_refl _) _)))⟩

end Go.Proofs.YtmmlphdekeflfaaGreatDoor

namespace Go.Proofs.YtmmlphdekeflfaaGreatDoor
open Go.RowKit

attribute [local irreducible] wpStill

set_option maxRecDepth 100000 in
set_option maxHeartbeats 4000000 in
theorem rup_take (q n : Nat) (h5 : 5 ≤ q) (h4 : q ≤ 2147483647) (hpn : Spo.PowIs q n) (C n0 cp cr cn : Nat) (ap ar an' : Option Addr) (ps : List Int) (rows nodes : List (List Int)) (hps : ps.length ≤ 281474976710656) (hrl : rows.length = ps.length) (_hnl : nodes.length ≤ 281474976710656)
    (hfr : FitsR rows) (hfn : FitsR nodes) (hnC : n0 ≤ C) (first : Int) (cnt t : Nat) (bad : Bool) (w : World) (hcm : cnt ≤ 65536) (hf0 : 0 ≤ first) (hf1 : first + (cnt : Int) ≤ 1000000000) (_htm : t ≤ 281474976710656)
    (hC : w.rowIs C 222 6 (six (.int .i64 q) (.slice ap ps.length cp) (.slice ar rows.length cr) (.slice an' nodes.length cn) (.int .i64 t) (.bool bad))) (hrp : RowB n0 w ap ps) (hlr : LstR n0 w ar cr rows) (hln : LstR n0 w an' cn nodes)
    (hsm : smb ps first (first + (cnt : Int)) = false) (htl : t < nodes.length) (h44 : (rat nodes t).length = 4) :
    Calls Tryz.prog 182 #[.pointer (some ⟨C, 0, none⟩), .int .i64 first, .int .i64 cnt] w (UpD C q (.slice ap ps.length cp) (.slice ar rows.length cr) (.slice an' nodes.length cn) w (elr q (rat nodes t), t + 1, bad)) := by
    have hmx : Tryz.prog.follows .mixedOrders = true := by kernel_rfl
    have h3 : 3 ≤ q := by omega
    have HPN := hid hpn
    have HFR := hid hfr
    have HFN := hid hfn
    have HRP := hid hrp
    have HLR := hid hlr
    have HLN := hid hln
    have HC := hid hC
    have hCl := hC.lt
    have c0 := hC.cell (i := 0) (by omega)
    have c1 := hC.cell (i := 1) (by omega)
    have c2 := hC.cell (i := 2) (by omega)
    have c3 := hC.cell (i := 3) (by omega)
    have c4 := hC.cell (i := 4) (by omega)
    have c5 := hC.cell (i := 5) (by omega)
    have y4 := hC.frozen 4
    have y5 := hC.frozen 5
    simp only [six] at c0 c1 c2 c3 c4 c5
    have d3 : ∀ d : Nat, ({ w with drawn := d } : World).cell? ⟨C, 3, none⟩ = some (.slice an' nodes.length cn) := fun _ => c3
    have d4 : ∀ d : Nat, ({ w with drawn := d } : World).cell? ⟨C, 4, none⟩ = some (.int .i64 t) := fun _ => c4
    have z4 := fun d : Nat => (show ({ w with drawn := d } : World).rowIs C 222 6 (six (.int .i64 q) (.slice ap ps.length cp) (.slice ar rows.length cr) (.slice an' nodes.length cn) (.int .i64 t) (.bool bad)) from hC).frozen 4
    have hn0 : n0 ≤ w.heap.size := by omega
    have HSM := hid (rsome_any cp ap ps first (first + (cnt : Int)) w hps (hrp.mono hn0))
    have hw1 : IntKind.i64.wrap (first + (cnt : Int)) = first + (cnt : Int) := by rw [IntKind.wrap_i64]; omega
    rw [hsm] at HSM
    have htl2 : (t : Int) < (nodes.length : Int) := by omega
    have hgb : decide (nodes.length ≤ t) = false := decide_eq_false (by omega)
    obtain ⟨b1, o1, ak, ck, rfl, hb1, hc1, hlk⟩ := hln.row t htl
    obtain ⟨hfy, hfl⟩ := HFN.out t htl
    rw [h44] at hc1
    have e1 : ∀ d : Nat, ({ w with drawn := d } : World).cell? ⟨b1, o1 + t, none⟩ = some (.slice ak 4 ck) := fun _ => hc1
    have HBD : Hid (Below w.heap.size w w.drew.drew) := (Below.refl _ _).drew.drew
    have hwt : IntKind.i64.wrap ((t : Int) + 1) = (t : Int) + 1 := by rw [IntKind.wrap_i64]; omega
    have HG1 : Hid (w.grownBy (w.drew.drew.setCell ⟨C, 4, none⟩ (.int .i64 ((t : Int) + 1))) (some C)) := gb_setCell (gb_drew (gb_drew (gb_refl C w))) 4 _
    have HX1 : Hid ((w.drew.drew.setCell ⟨C, 4, none⟩ (.int .i64 ((t : Int) + 1))).rowIs C 222 6 (six (.int .i64 q) (.slice ap ps.length cp) (.slice ar rows.length cr) (.slice (some ⟨b1, o1, none⟩) nodes.length cn) (.int .i64 ((t : Int) + 1)) (.bool bad))) := six_set4 (show w.drew.drew.rowIs C _ 6 _ from hC) _
    have HLK : Hid (RowB n0 (w.drew.drew.setCell ⟨C, 4, none⟩ (.int .i64 ((t : Int) + 1))) ak (rat nodes t)) := hlk.row.below (below_of_gb HG1.out hnC hCl)
    have HSZ : Hid ((w.drew.drew.setCell ⟨C, 4, none⟩ (.int .i64 ((t : Int) + 1))).heap.size = w.heap.size) := by unfold Hid; simp [World.setCell]
    have HAL : Hid (Calls Tryz.prog 114 #[.int .i64 q, .slice ak 4 ck] (w.drew.drew.setCell ⟨C, 4, none⟩ (.int .i64 ((t : Int) + 1))) fun e w' => ∃ v, e = .returned v ∧ w'.ownsRow w.heap.size 3 1 v (elr q (rat nodes t)).length ((elr q (rat nodes t)).map (Value.int .i64)) ∧ Below w.heap.size (w.drew.drew.setCell ⟨C, 4, none⟩ (.int .i64 ((t : Int) + 1))) w') := by
      have := rall_own q (rat nodes t).length ck ak (zat (rat nodes t)) (w.drew.drew.setCell ⟨C, 4, none⟩ (.int .i64 ((t : Int) + 1))) h3 h4 (by omega) hfy (fun j hj => by
        obtain ⟨b', o', e1, e2, e3⟩ := HLK.out j hj
        exact ⟨b', o', e1, by rw [HSZ.out]; omega, e3⟩)
      rw [HSZ.out, h44] at this
      unfold elr
      rw [h44]
      exact this
    have x0 : ∀ d : Nat, (({ w with drawn := d } : World).setCell ⟨C, 4, none⟩ (.int .i64 ((t : Int) + 1))).cell? ⟨C, 0, none⟩ = some (.int .i64 q) := fun d => (six_set4 (show ({ w with drawn := d } : World).rowIs C _ 6 _ from hC) (.int .i64 ((t : Int) + 1))).cell (i := 0) (by omega)
    have HEL : Hid ((elr q (rat nodes t)).length = 4) := by unfold Hid elr; rw [ls_len, h44]
    have HCB : Hid (C < w.heap.size) := hCl
    clear hC hrp hlr hln hfr hfn hpn hsm HRP HLR HLN HFR HFN HC hlk hfy hfl HBD h44 HLK
    generalize elr q (rat nodes t) = E at *
    go_enter Tryz.func182, Tryz.ntmps182
    go_wp2_with fail
    refine HSM.out.mono ?_
    rintro e w1 ⟨rfl, rfl⟩
    go_wp2_with fail
    refine wp_region_still_lit hmx (by kernel_rfl) ?_
    refine wpStill_wantG (by kernel_rfl) (fun K hK => ?_); go_simp; refine hK _ ?_; clear hK K
    refine wpStill_wantG (by kernel_rfl) (fun K hK => ?_); go_simp; refine hK _ ?_; clear hK K
    refine wpStill_wantG (by kernel_rfl) (fun K hK => ?_); go_simp; refine hK _ ?_; clear hK K
    refine wpStill_wantG (by kernel_rfl) (fun K hK => ?_); go_simp; refine hK _ ?_; clear hK K
    refine wpStill_wantG (by kernel_rfl) (fun K hK => ?_); go_simp; refine hK _ ?_; clear hK K
    refine wpStill_wantG (by kernel_rfl) (fun K hK => ?_); go_simp; refine hK _ ?_; clear hK K
    refine wpStill_wantG (by kernel_rfl) (fun K hK => ?_); go_simp; refine hK _ ?_; clear hK K
    refine wpStill_wantG (by kernel_rfl) (fun K hK => ?_); go_simp; refine hK _ ?_; clear hK K
    refine wpStill_wantG (by kernel_rfl) (fun K hK => ?_); go_simp; refine hK _ ?_; clear hK K
    refine wpStill_wantG (by kernel_rfl) (fun K hK => ?_); go_simp; refine hK _ ?_; clear hK K
    refine wpStill_wantG (by kernel_rfl) (fun K hK => ?_); go_simp; refine hK _ ?_; clear hK K
    refine wpStill_wantG (by kernel_rfl) (fun K hK => ?_); go_simp; refine hK _ ?_; clear hK K
    refine wpStill_wantG (by kernel_rfl) (fun K hK => ?_); go_simp; refine hK _ ?_; clear hK K
    refine wpStill_wantG (by kernel_rfl) (fun K hK => ?_); go_simp; refine hK _ ?_; clear hK K
    refine wpStill_wantG (by kernel_rfl) (fun K hK => ?_); go_simp; refine hK _ ?_; clear hK K
    refine wpStill_wantG (by kernel_rfl) (fun K hK => ?_); go_simp; refine hK _ ?_; clear hK K
    refine wpStill_wantG (by kernel_rfl) (fun K hK => ?_); go_simp; refine hK _ ?_; clear hK K
    refine wpStill_wantG (by kernel_rfl) (fun K hK => ?_); go_simp; refine hK _ ?_; clear hK K
    refine wpStill_wantG (by kernel_rfl) (fun K hK => ?_); go_simp; refine hK _ ?_; clear hK K
    refine wpStill_wantG (by kernel_rfl) (fun K hK => ?_); go_simp; refine hK _ ?_; clear hK K
    refine wpStill_wantG (by kernel_rfl) (fun K hK => ?_); go_simp; refine hK _ ?_; clear hK K
    refine wpStill_wantG (by kernel_rfl) (fun K hK => ?_); go_simp; refine hK _ ?_; clear hK K
    refine wpStill_wantG (by kernel_rfl) (fun K hK => ?_); go_simp; refine hK _ ?_; clear hK K
    refine wpStill_wantG (by kernel_rfl) (fun K hK => ?_); go_simp; refine hK _ ?_; clear hK K
    refine wpStill_nil ?_
    go_wp2_with fail
    refine wp_region_still_lit hmx (by kernel_rfl) ?_
    refine wpStill_wantG (by kernel_rfl) (fun K hK => ?_); go_simp; refine hK _ ?_; clear hK K
    refine wpStill_wantG (by kernel_rfl) (fun K hK => ?_); go_simp; refine hK _ ?_; clear hK K
    refine wpStill_wantG (by kernel_rfl) (fun K hK => ?_); go_simp; refine hK _ ?_; clear hK K
    refine wpStill_wantG (by kernel_rfl) (fun K hK => ?_); go_simp; refine hK _ ?_; clear hK K
    refine wpStill_wantG (by kernel_rfl) (fun K hK => ?_); go_simp; refine hK _ ?_; clear hK K
    refine wpStill_wantG (by kernel_rfl) (fun K hK => ?_); go_simp; refine hK _ ?_; clear hK K
    refine wpStill_wantG (by kernel_rfl) (fun K hK => ?_); go_simp; refine hK _ ?_; clear hK K
    refine wpStill_wantG (by kernel_rfl) (fun K hK => ?_); go_simp; refine hK _ ?_; clear hK K
    refine wpStill_wantG (by kernel_rfl) (fun K hK => ?_); go_simp; refine hK _ ?_; clear hK K
    refine wpStill_wantG (by kernel_rfl) (fun K hK => ?_); go_simp; refine hK _ ?_; clear hK K
    refine wpStill_wantG (by kernel_rfl) (fun K hK => ?_); go_simp; refine hK _ ?_; clear hK K
    refine wpStill_nil ?_
    go_wp2_with fail
    refine HAL.out.mono ?_
    rintro e w3 ⟨v, rfl, hown, hb3⟩
    obtain ⟨g, N, F, hv, hg, hri, hN, hF⟩ := rowIs_of_owns hown (by rw [HEL.out]; omega)
    subst hv
    have hD : LstD w3 g N E := by
      refine ⟨⟨fun j hj => ⟨g, 0, rfl, hri.lt, by rw [Nat.zero_add, hri.cell (Nat.lt_of_lt_of_le hj hN), hF j hj]⟩, hN, fun e => by cases e⟩, ?_⟩
      obtain ⟨c, h1, _⟩ := hri
      exact ⟨c, _, h1⟩
    have HE : Hid (w1.heap.size ≤ g ∧ LstD w3 g N E ∧ w3.rowIs C 222 6 (six (.int .i64 q) (.slice ap ps.length cp) (.slice ar rows.length cr) (.slice (some ⟨b1, o1, none⟩) nodes.length cn) (.int .i64 ((t + 1 : Nat) : Int)) (.bool bad)) ∧ w1.grownBy w3 (some C)) :=
      ⟨hg, hD, by rw [show ((t + 1 : Nat) : Int) = (t : Int) + 1 from by omega]; exact HX1.out.of_block (hb3.block C HCB.out), gb_trans HG1.out (gb_below (by rw [HSZ.out]; exact hb3))⟩
    rw [HEL.out]
    clear hown hb3 hri hF hD HAL HX1 HG1
    go_wp2_with fail
    go_ret
    exact ⟨g, N, rfl, HE.out.1, HE.out.2.1, HE.out.2.2.1, HE.out.2.2.2⟩

end Go.Proofs.YtmmlphdekeflfaaGreatDoor

namespace Go.Proofs.YtmmlphdekeflfaaGreatDoor
open Go.RowKit

attribute [local irreducible] wpStill

set_option maxRecDepth 100000 in
set_option maxHeartbeats 4000000 in
theorem rup_leaf (q n : Nat) (h5 : 5 ≤ q) (h4 : q ≤ 2147483647) (hpn : Spo.PowIs q n) (C n0 cp cr cn : Nat) (ap ar an' : Option Addr) (ps : List Int) (rows nodes : List (List Int)) (hps : ps.length ≤ 281474976710656) (hrl : rows.length = ps.length) (_hnl : nodes.length ≤ 281474976710656)
    (hfr : FitsR rows) (hfn : FitsR nodes) (hnC : n0 ≤ C) (first : Int) (cnt t : Nat) (bad : Bool) (w : World) (_hcm : cnt ≤ 65536) (hf0 : 0 ≤ first) (hf1 : first + (cnt : Int) ≤ 1000000000) (_htm : t ≤ 281474976710656)
    (hC : w.rowIs C 222 6 (six (.int .i64 q) (.slice ap ps.length cp) (.slice ar rows.length cr) (.slice an' nodes.length cn) (.int .i64 t) (.bool bad))) (hrp : RowB n0 w ap ps) (hlr : LstR n0 w ar cr rows) (hln : LstR n0 w an' cn nodes)
    (hsm : smb ps first (first + (cnt : Int)) = true) (hone : cnt = 1) :
    Calls Tryz.prog 182 #[.pointer (some ⟨C, 0, none⟩), .int .i64 first, .int .i64 cnt] w (UpD C q (.slice ap ps.length cp) (.slice ar rows.length cr) (.slice an' nodes.length cn) w (digl q n (0 :: rat rows (fx ps first)), t, bad)) := by
    have hmx : Tryz.prog.follows .mixedOrders = true := by kernel_rfl
    have h3 : 3 ≤ q := by omega
    have HPN := hid hpn
    have HFR := hid hfr
    have HFN := hid hfn
    have HRP := hid hrp
    have HLR := hid hlr
    have HLN := hid hln
    have HC := hid hC
    have hCl := hC.lt
    have c0 := hC.cell (i := 0) (by omega)
    have c1 := hC.cell (i := 1) (by omega)
    have c2 := hC.cell (i := 2) (by omega)
    have c3 := hC.cell (i := 3) (by omega)
    have c4 := hC.cell (i := 4) (by omega)
    have c5 := hC.cell (i := 5) (by omega)
    have y4 := hC.frozen 4
    have y5 := hC.frozen 5
    simp only [six] at c0 c1 c2 c3 c4 c5
    have d3 : ∀ d : Nat, ({ w with drawn := d } : World).cell? ⟨C, 3, none⟩ = some (.slice an' nodes.length cn) := fun _ => c3
    have d4 : ∀ d : Nat, ({ w with drawn := d } : World).cell? ⟨C, 4, none⟩ = some (.int .i64 t) := fun _ => c4
    have z4 := fun d : Nat => (show ({ w with drawn := d } : World).rowIs C 222 6 (six (.int .i64 q) (.slice ap ps.length cp) (.slice ar rows.length cr) (.slice an' nodes.length cn) (.int .i64 t) (.bool bad)) from hC).frozen 4
    have hn0 : n0 ≤ w.heap.size := by omega
    have HSM := hid (rsome_any cp ap ps first (first + (cnt : Int)) w hps (hrp.mono hn0))
    have hw1 : IntKind.i64.wrap (first + (cnt : Int)) = first + (cnt : Int) := by rw [IntKind.wrap_i64]; omega
    rw [hsm] at HSM
    have hob : ((cnt : Int) == 1) = true := by rw [hone]; rfl
    have HEX : Hid (∃ j, j < ps.length ∧ zat ps j = first) := by
      obtain ⟨j, h6, h7, h8⟩ := smb_iff.1 hsm
      exact ⟨j, h6, by omega⟩
    clear hsm hone hfr hfn hpn hrp hlr hln hC
    go_enter Tryz.func182, Tryz.ntmps182
    go_wp2_with fail
    refine HSM.out.mono ?_
    rintro e w1 ⟨rfl, rfl⟩
    go_wp2_with fail
    go_loop [9] (fun iv => ∃ i : Nat, i ≤ ps.length ∧ iv = .int .i64 i ∧ Hid (∀ j, j < i → zat ps j ≠ first)) (fun iv => ps.length - (intOf iv).toNat)
    case atStart => exact ⟨0, Nat.zero_le _, rfl, fun j hj => by omega⟩
    case round =>
      obtain ⟨i, hi, rfl, hno⟩ := hrel
      by_cases hlt : i < ps.length
      · have hlt2 : (i : Int) < (ps.length : Int) := by omega
        have hiw : IntKind.i64.wrap ((i : Int) + 1) = (i : Int) + 1 := by rw [IntKind.wrap_i64]; omega
        obtain ⟨b1, o1, rfl, hb1, hc1⟩ := HRP.out i hlt
        by_cases heq : zat ps i = first
        · have HFX := hid (fx_eq hlt heq hno.out)
          have hlr2 : i < rows.length := by rw [hrl]; exact hlt
          obtain ⟨b2, o2, ak, ck, rfl, hb2, hc2, hlk⟩ := HLR.out.row i hlr2
          have hir : (i : Int) < (rows.length : Int) := by omega
          obtain ⟨hfy, hfl⟩ := HFR.out i hlr2
          rw [HFX.out]
          rw [heq] at hc1
          have hb0 : (first == first) = true := by simp
          have HLE := hid (rleaf_any q n ck ak (rat rows i) w1.drew h5 h4 HPN.out hfl hfy ((hlk.below (Below.refl n0 w1).drew).mono hn0))
          clear heq hno HFX hlk hfy HRP HLR HLN HFR HFN HEX
          generalize rat rows i = row at *
          go_wp2_with fail
          go_still_tail 11, hmx
          go_wp2_with fail
          refine HLE.out.mono ?_
          rintro e w3 ⟨g, N, rfl, h6, h7, h8⟩
          have HE : Hid (w1.heap.size ≤ g ∧ LstD w3 g N (digl q n (0 :: row)) ∧ w3.rowIs C 222 6 (six (.int .i64 q) (.slice (some ⟨b1, o1, none⟩) ps.length cp) (.slice (some ⟨b2, o2, none⟩) rows.length cr) (.slice an' nodes.length cn) (.int .i64 t) (.bool bad)) ∧ w1.grownBy w3 (some C)) :=
            ⟨h6, h7, (show w1.drew.rowIs C _ 6 _ from HC.out).of_block (h8.block C hCl), gb_trans (gb_drew (gb_refl C w1)) (gb_below h8)⟩
          clear h6 h7 h8
          go_wp2_with fail
          go_ret
          exact ⟨g, N, rfl, HE.out.1, HE.out.2.1, HE.out.2.2.1, HE.out.2.2.2⟩
        · have HT : Hid (∀ j, j < i + 1 → zat ps j ≠ first) := fun j hj => by
            by_cases e : j = i
            · subst e; exact heq
            · exact hno.out j (by omega)
          have heb : (zat ps i == first) = false := by rw [beq_eq_false_iff_ne]; exact heq
          clear hno heq
          generalize zat ps i = x at *
          go_wp2_with fail
          go_round
          case rel => exact ⟨i + 1, by omega, by go_num, HT⟩
          case measure => simp [intOf]; omega
      · obtain ⟨j, h6, h7⟩ := HEX.out
        exact absurd h7 (hno.out j (by omega))

end Go.Proofs.YtmmlphdekeflfaaGreatDoor

namespace Go.Proofs.YtmmlphdekeflfaaGreatDoor
open Go.RowKit

attribute [local irreducible] wpStill

set_option maxRecDepth 100000 in
set_option maxHeartbeats 4000000 in
theorem rup_any (q n : Nat) (h5 : 5 ≤ q) (h4 : q ≤ 2147483647) (hpn : Spo.PowIs q n) (C n0 cp cr cn : Nat) (ap ar an' : Option Addr) (ps : List Int) (rows nodes : List (List Int)) (hps : ps.length ≤ 281474976710656) (hrl : rows.length = ps.length) (hnl : nodes.length ≤ 281474976710656)
    (hfr : FitsR rows) (hfn : FitsR nodes) (hnC : n0 ≤ C) : ∀ (k : Nat) (first : Int) (cnt t : Nat) (bad : Bool) (w : World), 1 ≤ cnt → cnt ≤ k → cnt ≤ 65536 → 0 ≤ first → first + (cnt : Int) ≤ 1000000000 → t ≤ 281474976710656 →
    w.rowIs C 222 6 (six (.int .i64 q) (.slice ap ps.length cp) (.slice ar rows.length cr) (.slice an' nodes.length cn) (.int .i64 t) (.bool bad)) → RowB n0 w ap ps → LstR n0 w ar cr rows → LstR n0 w an' cn nodes →
    Calls Tryz.prog 182 #[.pointer (some ⟨C, 0, none⟩), .int .i64 first, .int .i64 cnt] w (UpD C q (.slice ap ps.length cp) (.slice ar rows.length cr) (.slice an' nodes.length cn) w (upf q n ps rows nodes k first cnt t bad))
  | 0, _, cnt, _, _, _, h1, h2, _, _, _, _, _, _, _, _ => by omega
  | k + 1, first, cnt, t, bad, w, h1, h2, hcm, hf0, hf1, htm, hC, hrp, hlr, hln => by
    by_cases hsm : smb ps first (first + (cnt : Int)) = false
    · by_cases hte : nodes.length ≤ t
      · have HU : upf q n ps rows nodes (k + 1) first cnt t bad = ([0, 0, 0, 0], t, true) := by simp only [upf]; rw [if_pos hsm, if_pos (.inl hte)]
        rw [HU]
        exact rup_lack q n h5 h4 hpn C n0 cp cr cn ap ar an' ps rows nodes hps hrl hnl hfr hfn hnC first cnt t bad w hcm hf0 hf1 htm hC hrp hlr hln hsm hte
      · by_cases h44 : (rat nodes t).length = 4
        · have HU : upf q n ps rows nodes (k + 1) first cnt t bad = (elr q (rat nodes t), t + 1, bad) := by simp only [upf]; rw [if_pos hsm, if_neg (by omega)]
          rw [HU]
          exact rup_take q n h5 h4 hpn C n0 cp cr cn ap ar an' ps rows nodes hps hrl hnl hfr hfn hnC first cnt t bad w hcm hf0 hf1 htm hC hrp hlr hln hsm (by omega) h44
        · have HU : upf q n ps rows nodes (k + 1) first cnt t bad = ([0, 0, 0, 0], t, true) := by simp only [upf]; rw [if_pos hsm, if_pos (.inr h44)]
          rw [HU]
          exact rup_odd q n h5 h4 hpn C n0 cp cr cn ap ar an' ps rows nodes hps hrl hnl hfr hfn hnC first cnt t bad w hcm hf0 hf1 htm hC hrp hlr hln hsm (by omega) h44
    · have hsm2 : smb ps first (first + (cnt : Int)) = true := by simpa using hsm
      by_cases hone : cnt = 1
      · have HU : upf q n ps rows nodes (k + 1) first cnt t bad = (digl q n (0 :: rat rows (fx ps first)), t, bad) := by simp only [upf]; rw [if_neg hsm, if_pos hone]
        rw [HU]
        exact rup_leaf q n h5 h4 hpn C n0 cp cr cn ap ar an' ps rows nodes hps hrl hnl hfr hfn hnC first cnt t bad w hcm hf0 hf1 htm hC hrp hlr hln hsm2 hone
      · obtain ⟨_, l2, l3⟩ := lft_spec cnt
        have l3' := l3 (by omega)
        have HSM := hid (rsome_any cp ap ps first (first + (cnt : Int)) w hps (hrp.mono (by have := hC.lt; omega)))
        rw [hsm2] at HSM
        have hw1 : IntKind.i64.wrap (first + (cnt : Int)) = first + (cnt : Int) := by rw [IntKind.wrap_i64]; omega
        have HLF := hid (fun W : World => rleft_any cnt W (by omega))
        obtain ⟨m, hm⟩ : ∃ m, m = lft cnt := ⟨_, rfl⟩
        have HU : Hid (upf q n ps rows nodes (k + 1) first cnt t bad = (digl q n (1 :: ((upf q n ps rows nodes k first m t bad).1 ++ (upf q n ps rows nodes k (first + (m : Int)) (cnt - m) (upf q n ps rows nodes k first m t bad).2.1 (upf q n ps rows nodes k first m t bad).2.2).1)), (upf q n ps rows nodes k (first + (m : Int)) (cnt - m) (upf q n ps rows nodes k first m t bad).2.1 (upf q n ps rows nodes k first m t bad).2.2).2)) := by unfold Hid; rw [hm]; simp only [upf]; rw [if_neg hsm, if_neg hone]
        rw [HU.out]
        rw [← hm] at HLF l2 l3'
        have HIA := hid (rup_any q n h5 h4 hpn C n0 cp cr cn ap ar an' ps rows nodes hps hrl hnl hfr hfn hnC k first m t bad w (by omega) (by omega) (by omega) hf0 (by omega) htm hC hrp hlr hln)
        have hCl := hC.lt
        have HT1 : Hid ((upf q n ps rows nodes k first m t bad).2.1 ≤ 281474976710656) := upf_t q n ps rows nodes _ hnl k first m t bad htm
        have HL1 := hid (upf_len q n ps rows nodes k first m t bad (by omega))
        have HF1 := hid (upf_fits (show 3 ≤ q by omega) h4 n ps rows nodes k first m t bad)
        obtain ⟨A, hA⟩ : ∃ A, A = upf q n ps rows nodes k first m t bad := ⟨_, rfl⟩
        rw [← hA] at HIA HT1 HL1 HF1 ⊢
        have HIB : Hid (∀ W : World, w.grownBy W (some C) → W.rowIs C 222 6 (six (.int .i64 q) (.slice ap ps.length cp) (.slice ar rows.length cr) (.slice an' nodes.length cn) (.int .i64 A.2.1) (.bool A.2.2)) → Calls Tryz.prog 182 #[.pointer (some ⟨C, 0, none⟩), .int .i64 (first + (m : Int)), .int .i64 ((cnt - m : Nat) : Int)] W (UpD C q (.slice ap ps.length cp) (.slice ar rows.length cr) (.slice an' nodes.length cn) W (upf q n ps rows nodes k (first + (m : Int)) (cnt - m) A.2.1 A.2.2))) := fun W hg hW =>
          rup_any q n h5 h4 hpn C n0 cp cr cn ap ar an' ps rows nodes hps hrl hnl hfr hfn hnC k (first + (m : Int)) (cnt - m) A.2.1 A.2.2 W (by omega) (by omega) (by omega) (by omega) (by omega) HT1.out hW (hrp.below (below_of_gb hg hnC hCl)) (hlr.below (below_of_gb hg hnC hCl)) (hln.below (below_of_gb hg hnC hCl))
        have HL2 := hid (upf_len q n ps rows nodes k (first + (m : Int)) (cnt - m) A.2.1 A.2.2 (by omega))
        have HF2 := hid (upf_fits (show 3 ≤ q by omega) h4 n ps rows nodes k (first + (m : Int)) (cnt - m) A.2.1 A.2.2)
        obtain ⟨B, hB⟩ : ∃ B, B = upf q n ps rows nodes k (first + (m : Int)) (cnt - m) A.2.1 A.2.2 := ⟨_, rfl⟩
        rw [← hB] at HIB HL2 HF2 ⊢
        have hob : ((cnt : Int) == 1) = false := by rw [beq_eq_false_iff_ne]; omega
        have hw2 : IntKind.i64.wrap (first + (m : Int)) = first + (m : Int) := by rw [IntKind.wrap_i64]; omega
        have hw3 : (cnt : Int) - (m : Int) = ((cnt - m : Nat) : Int) := by omega
        have hw4 : IntKind.i64.wrap ((cnt - m : Nat) : Int) = ((cnt - m : Nat) : Int) := by rw [IntKind.wrap_i64]; omega
        have HPN := hid hpn
        have HCE : Hid (∀ i, i < 6 → w.cell? ⟨C, i, none⟩ = some (six (.int .i64 q) (.slice ap ps.length cp) (.slice ar rows.length cr) (.slice an' nodes.length cn) (.int .i64 t) (.bool bad) i)) := fun i hi => hC.cell hi
        have c1 := HCE.out 1 (by omega)
        simp only [six] at c1
        clear hC hrp hlr hln hfr hfn hpn hsm hsm2 HU hone h1 h2 hA hB hm l3 HT1
        generalize cnt - m = dm at *
        go_enter Tryz.func182, Tryz.ntmps182
        go_wp2_with fail
        refine HSM.out.mono ?_
        rintro e w1 ⟨rfl, rfl⟩
        go_wp2_with fail
        refine (HLF.out _).mono ?_
        rintro e w2 ⟨rfl, rfl⟩
        go_wp2_with fail
        refine HIA.out.mono ?_
        rintro e w3 ⟨g1, N1, rfl, h61, h62, h63, h64⟩
        have HG3 := hid h64
        have HS3 := hid h63
        have HD3 := hid h62
        have hge1 := h61
        clear h62 h63 h64 h61
        go_wp2_with fail
        refine (HIB.out _ HG3.out HS3.out).mono ?_
        rintro e w4 ⟨g2, N2, rfl, h61, h62, h63, h64⟩
        have HG4 := hid h64
        have HS4 := hid h63
        have HD4 := hid h62
        have HD5 : Hid (LstD w4 g1 N1 A.1) := HD3.out.gb h64 (by omega)
        have c0 := h63.cell (i := 0) (by omega)
        simp only [six] at c0
        have hge2 : w2.heap.size ≤ g2 := Nat.le_trans HG3.out.size h61
        have HCl4 : Hid (C < w4.heap.size) := h63.lt
        have HND := hid (rnode_any q n N1 N2 (some ⟨g1, 0, none⟩) (some ⟨g2, 0, none⟩) A.1 B.1 w4 h5 h4 HPN.out (by rw [HL1.out, HL2.out]; omega) HF1.out HF2.out HD5.out.1 HD4.out.1)
        rw [HL1.out, HL2.out] at HND
        clear h61 h62 h63 h64
        go_wp2_with fail
        refine HND.out.mono ?_
        rintro e w5 ⟨g, N, rfl, h6, h7, h8⟩
        have HE : Hid (w2.heap.size ≤ g ∧ LstD w5 g N (digl q n (1 :: (A.1 ++ B.1))) ∧ w5.rowIs C 222 6 (six (.int .i64 q) (.slice ap ps.length cp) (.slice ar rows.length cr) (.slice an' nodes.length cn) (.int .i64 B.2.1) (.bool B.2.2)) ∧ w2.grownBy w5 (some C)) :=
          ⟨Nat.le_trans HG3.out.size (Nat.le_trans HG4.out.size h6), h7, HS4.out.of_block (h8.block C HCl4.out), gb_trans HG3.out (gb_trans HG4.out (gb_below h8))⟩
        clear h6 h7 h8
        go_wp2_with fail
        go_ret
        exact ⟨g, N, rfl, HE.out.1, HE.out.2.1, HE.out.2.2.1, HE.out.2.2.2⟩

end Go.Proofs.YtmmlphdekeflfaaGreatDoor

namespace Go.Proofs.YtmmlphdekeflfaaGreatDoor
open Go.RowKit

/-- places ascending below N -/
def AscN (N : Int) (ps : List Int) : Prop := ∀ j, j < ps.length → 0 ≤ zat ps j ∧ zat ps j < N ∧ (0 < j → zat ps (j - 1) < zat ps j)
instance (N : Int) (ps : List Int) : Decidable (AscN N ps) := by unfold AscN; infer_instance

/-- what Check answers -/
def chkf (q n : Nat) (root : List Int) (N : Int) (ps : List Int) (rows nodes : List (List Int)) : Bool :=
  decide (1 ≤ N ∧ N ≤ 65536 ∧ rows.length = ps.length ∧ root.length = 4 ∧ AscN N ps) &&
    (samb q (upf q n ps rows nodes N.toNat 0 N.toNat 0 false).1 root && !(upf q n ps rows nodes N.toNat 0 N.toNat 0 false).2.2 && (upf q n ps rows nodes N.toNat 0 N.toNat 0 false).2.1 == nodes.length)
theorem chkf_no {q n : Nat} {root : List Int} {N : Int} {ps : List Int} {rows nodes : List (List Int)} (h : ¬ (1 ≤ N ∧ N ≤ 65536 ∧ rows.length = ps.length ∧ root.length = 4 ∧ AscN N ps)) : chkf q n root N ps rows nodes = false := by
  unfold chkf
  rw [decide_eq_false h]
  rfl
theorem chkf_yes {q n : Nat} {root : List Int} {N : Int} {ps : List Int} {rows nodes : List (List Int)} (h : 1 ≤ N ∧ N ≤ 65536 ∧ rows.length = ps.length ∧ root.length = 4 ∧ AscN N ps) : chkf q n root N ps rows nodes = (samb q (upf q n ps rows nodes N.toNat 0 N.toNat 0 false).1 root && !(upf q n ps rows nodes N.toNat 0 N.toNat 0 false).2.2 && (upf q n ps rows nodes N.toNat 0 N.toNat 0 false).2.1 == nodes.length) := by
  unfold chkf
  rw [decide_eq_true h]
  rfl

theorem six_new (w : World) (t : TypeId) (a b c d e f : Value) : (w.alloc (.cells #[a, b, c, d, e, f] t)).rowIs w.heap.size t 6 (six a b c d e f) :=
  ⟨#[a, b, c, d, e, f], heap_alloc_new w _, rfl, fun i hi => by
    have : i = 0 ∨ i = 1 ∨ i = 2 ∨ i = 3 ∨ i = 4 ∨ i = 5 := by omega
    rcases this with rfl | rfl | rfl | rfl | rfl | rfl <;> rfl⟩

attribute [local irreducible] wpStill

set_option maxRecDepth 100000 in
set_option maxHeartbeats 4000000 in
theorem rcheck_any (q n : Nat) (h5 : 5 ≤ q) (h4 : q ≤ 2147483647) (hpn : Spo.PowIs q n) (c4 cp cr cn : Nat) (a4 ap ar an' : Option Addr) (root : List Int) (N : Int) (ps : List Int) (rows nodes : List (List Int)) (w : World) (h4l : root.length ≤ 281474976710656) (hps : ps.length ≤ 281474976710656) (hnl : nodes.length ≤ 281474976710656)
    (hf4 : Fits root) (hfr : FitsR rows) (hfn : FitsR nodes) (hr4 : RowB w.heap.size w a4 root) (hrp : RowB w.heap.size w ap ps) (hlr : LstR w.heap.size w ar cr rows) (hln : LstR w.heap.size w an' cn nodes) :
    Calls Tryz.prog 128 #[.int .i64 q, .slice a4 root.length c4, .int .i64 N, .slice ap ps.length cp, .slice ar rows.length cr, .slice an' nodes.length cn] w fun e w' => e = .returned (.bool (chkf q n root N ps rows nodes)) ∧ Below w.heap.size w w' := by
  have hmx : Tryz.prog.follows .mixedOrders = true := by kernel_rfl
  have HPN := hid hpn
  have HF4 := hid hf4
  have HFR := hid hfr
  have HFN := hid hfn
  have HR4 := hid hr4
  have HRP := hid hrp
  have HLR := hid hlr
  have HLN := hid hln
  clear hpn hf4 hfr hfn hr4 hrp hlr hln
  by_cases hn1 : N < 1
  · have HE : Hid (chkf q n root N ps rows nodes = false) := chkf_no (by omega)
    go_enter Tryz.func128, Tryz.ntmps128
    go_wp2_with fail
    go_ret
    exact ⟨ret_bool HE.out.symm, Below.refl _ _⟩
  by_cases hn2 : 65536 < N
  · have HE : Hid (chkf q n root N ps rows nodes = false) := chkf_no (by omega)
    go_enter Tryz.func128, Tryz.ntmps128
    go_wp2_with fail
    go_ret
    exact ⟨ret_bool HE.out.symm, Below.refl _ _⟩
  by_cases hlp : rows.length ≠ ps.length
  · have HE : Hid (chkf q n root N ps rows nodes = false) := chkf_no (by omega)
    have hb : ((rows.length : Int) != (ps.length : Int)) = true := by rw [bne_iff_ne]; omega
    clear hlp
    generalize rows.length = lr at *
    go_enter Tryz.func128, Tryz.ntmps128
    go_wp2_with fail
    go_ret
    exact ⟨ret_bool HE.out.symm, Below.refl _ _⟩
  by_cases hl4 : root.length ≠ 4
  · have HE : Hid (chkf q n root N ps rows nodes = false) := chkf_no (by omega)
    have hb : ((rows.length : Int) != (ps.length : Int)) = false := by rw [bne_eq_false_iff_eq]; omega
    have hb4 : ((root.length : Int) != 4) = true := by rw [bne_iff_ne]; omega
    clear hlp hl4
    generalize rows.length = lr at *
    generalize root.length = l4 at *
    go_enter Tryz.func128, Tryz.ntmps128
    go_wp2_with fail
    go_ret
    exact ⟨ret_bool HE.out.symm, Below.refl _ _⟩
  have HLP : Hid (rows.length = ps.length) := by unfold Hid; omega
  have HL4 : Hid (root.length = 4) := by unfold Hid; omega
  have hb : ((rows.length : Int) != (ps.length : Int)) = false := by rw [bne_eq_false_iff_eq]; omega
  have hb4 : ((root.length : Int) != 4) = false := by rw [bne_eq_false_iff_eq]; omega
  have hn3 : 1 ≤ N := by omega
  have hn4 : N ≤ 65536 := by omega
  clear hlp hl4
  go_enter Tryz.func128, Tryz.ntmps128
  go_wp2_with fail
  go_loopw [13] (fun iv wr => ∃ k : Nat, k ≤ ps.length ∧ iv = .int .i64 k ∧ Hid (∀ j, j < k → 0 ≤ zat ps j ∧ zat ps j < N ∧ (0 < j → zat ps (j - 1) < zat ps j)) ∧ Hid (∃ nn, wr = w.drewN nn)) (fun iv _ => ps.length - (intOf iv).toNat)
  case atStart => exact ⟨0, Nat.zero_le _, rfl, fun j hj => by omega, 0, rfl⟩
  case round =>
    obtain ⟨k, hk, rfl, hok, hw⟩ := hrel
    have HW2 : Hid (∃ nn, wr.drew = w.drewN nn) := by
      obtain ⟨nn, e⟩ := hw.out
      exact ⟨nn + 1, by rw [e]; rfl⟩
    have HBW : Hid (Below w.heap.size w wr) := by
      obtain ⟨nn, e⟩ := hw.out
      unfold Hid
      rw [e]
      exact below_drewN (Below.refl _ _) nn
    have HSZ : Hid (wr.heap.size = w.heap.size) := by
      obtain ⟨nn, e⟩ := hw.out
      unfold Hid
      rw [e]
      rfl
    have HBK : Hid (∀ p, wr.cell? p = w.cell? p) := by
      obtain ⟨nn, e⟩ := hw.out
      intro p
      rw [e]
      rfl
    clear hw
    by_cases hlt : k < ps.length
    · have hlt2 : (k : Int) < (ps.length : Int) := by omega
      have hkw : IntKind.i64.wrap ((k : Int) + 1) = (k : Int) + 1 := by rw [IntKind.wrap_i64]; omega
      obtain ⟨b1, o1, rfl, hb1, hc1⟩ := HRP.out k hlt
      have hc2 : wr.cell? ⟨b1, o1 + k, none⟩ = some (.int .i64 (zat ps k)) := (HBK.out _).trans hc1
      have HNO : Hid (¬ (0 ≤ zat ps k ∧ zat ps k < N ∧ (0 < k → zat ps (k - 1) < zat ps k)) → chkf q n root N ps rows nodes = false) := fun h => chkf_no (fun hh => h (hh.2.2.2.2 k hlt))
      have HYE : Hid (0 ≤ zat ps k ∧ zat ps k < N ∧ (0 < k → zat ps (k - 1) < zat ps k) → ∀ j, j < k + 1 → 0 ≤ zat ps j ∧ zat ps j < N ∧ (0 < j → zat ps (j - 1) < zat ps j)) := fun h j hj => by
        by_cases e : j = k
        · subst e; exact h
        · exact hok.out j (by omega)
      clear hc1 hok
      by_cases hx0 : zat ps k < 0
      · have HE := hid (HNO.out (by omega))
        have hd0 : decide (zat ps k < 0) = true := decide_eq_true hx0
        clear HNO HYE
        generalize zat ps k = x at *
        go_wp2_with fail
        refine wp_region_still_lit hmx (by kernel_rfl) ?_
        refine wpStill_wantG (by kernel_rfl) (fun K hK => ?_); go_simp; refine hK _ ?_; clear hK K
        refine wpStill_wantG (by kernel_rfl) (fun K hK => ?_); go_simp; refine hK _ ?_; clear hK K
        refine wpStill_wantG (by kernel_rfl) (fun K hK => ?_); go_simp; refine hK _ ?_; clear hK K
        refine wpStill_wantG (by kernel_rfl) (fun K hK => ?_); go_simp; refine hK _ ?_; clear hK K
        refine wpStill_wantG (by kernel_rfl) (fun K hK => ?_); go_simp; refine hK _ ?_; clear hK K
        refine wpStill_wantG (by kernel_rfl) (fun K hK => ?_); go_simp; refine hK _ ?_; clear hK K
        refine wpStill_skipG (by kernel_rfl) (fun K hK => ?_); go_simp; refine hK _ ?_; clear hK K
        refine wpStill_skipG (by kernel_rfl) (fun K hK => ?_); go_simp; refine hK _ ?_; clear hK K
        refine wpStill_skipG (by kernel_rfl) (fun K hK => ?_); go_simp; refine hK _ ?_; clear hK K
        refine wpStill_skipG (by kernel_rfl) (fun K hK => ?_); go_simp; refine hK _ ?_; clear hK K
        refine wpStill_skipG (by kernel_rfl) (fun K hK => ?_); go_simp; refine hK _ ?_; clear hK K
        refine wpStill_skipG (by kernel_rfl) (fun K hK => ?_); go_simp; refine hK _ ?_; clear hK K
        refine wpStill_wantG (by kernel_rfl) (fun K hK => ?_); go_simp; refine hK _ ?_; clear hK K
        refine wpStill_wantG (by kernel_rfl) (fun K hK => ?_); go_simp; refine hK _ ?_; clear hK K
        refine wpStill_skipG (by kernel_rfl) (fun K hK => ?_); go_simp; refine hK _ ?_; clear hK K
        refine wpStill_skipG (by kernel_rfl) (fun K hK => ?_); go_simp; refine hK _ ?_; clear hK K
        refine wpStill_skipG (by kernel_rfl) (fun K hK => ?_); go_simp; refine hK _ ?_; clear hK K
        refine wpStill_skipG (by kernel_rfl) (fun K hK => ?_); go_simp; refine hK _ ?_; clear hK K
        refine wpStill_skipG (by kernel_rfl) (fun K hK => ?_); go_simp; refine hK _ ?_; clear hK K
        refine wpStill_skipG (by kernel_rfl) (fun K hK => ?_); go_simp; refine hK _ ?_; clear hK K
        refine wpStill_skipG (by kernel_rfl) (fun K hK => ?_); go_simp; refine hK _ ?_; clear hK K
        refine wpStill_skipG (by kernel_rfl) (fun K hK => ?_); go_simp; refine hK _ ?_; clear hK K
        refine wpStill_skipG (by kernel_rfl) (fun K hK => ?_); go_simp; refine hK _ ?_; clear hK K
        refine wpStill_skipG (by kernel_rfl) (fun K hK => ?_); go_simp; refine hK _ ?_; clear hK K
        refine wpStill_skipG (by kernel_rfl) (fun K hK => ?_); go_simp; refine hK _ ?_; clear hK K
        refine wpStill_skipG (by kernel_rfl) (fun K hK => ?_); go_simp; refine hK _ ?_; clear hK K
        refine wpStill_skipG (by kernel_rfl) (fun K hK => ?_); go_simp; refine hK _ ?_; clear hK K
        refine wpStill_skipG (by kernel_rfl) (fun K hK => ?_); go_simp; refine hK _ ?_; clear hK K
        refine wpStill_wantG (by kernel_rfl) (fun K hK => ?_); go_simp; refine hK _ ?_; clear hK K
        refine wpStill_nil ?_
        go_wp2_with fail
        go_ret
        exact ⟨ret_bool HE.out.symm, HBW.out.drew⟩
      have hd0 : decide (zat ps k < 0) = false := decide_eq_false hx0
      by_cases hx1 : N ≤ zat ps k
      · have HE := hid (HNO.out (by omega))
        have hd1 : decide (N ≤ zat ps k) = true := decide_eq_true hx1
        clear HNO HYE
        generalize zat ps k = x at *
        go_wp2_with fail
        refine wp_region_still_lit hmx (by kernel_rfl) ?_
        refine wpStill_wantG (by kernel_rfl) (fun K hK => ?_); go_simp; refine hK _ ?_; clear hK K
        refine wpStill_wantG (by kernel_rfl) (fun K hK => ?_); go_simp; refine hK _ ?_; clear hK K
        refine wpStill_wantG (by kernel_rfl) (fun K hK => ?_); go_simp; refine hK _ ?_; clear hK K
        refine wpStill_wantG (by kernel_rfl) (fun K hK => ?_); go_simp; refine hK _ ?_; clear hK K
        refine wpStill_wantG (by kernel_rfl) (fun K hK => ?_); go_simp; refine hK _ ?_; clear hK K
        refine wpStill_wantG (by kernel_rfl) (fun K hK => ?_); go_simp; refine hK _ ?_; clear hK K
        refine wpStill_wantG (by kernel_rfl) (fun K hK => ?_); go_simp; refine hK _ ?_; clear hK K
        refine wpStill_wantG (by kernel_rfl) (fun K hK => ?_); go_simp; refine hK _ ?_; clear hK K
        refine wpStill_wantG (by kernel_rfl) (fun K hK => ?_); go_simp; refine hK _ ?_; clear hK K
        refine wpStill_wantG (by kernel_rfl) (fun K hK => ?_); go_simp; refine hK _ ?_; clear hK K
        refine wpStill_wantG (by kernel_rfl) (fun K hK => ?_); go_simp; refine hK _ ?_; clear hK K
        refine wpStill_wantG (by kernel_rfl) (fun K hK => ?_); go_simp; refine hK _ ?_; clear hK K
        refine wpStill_wantG (by kernel_rfl) (fun K hK => ?_); go_simp; refine hK _ ?_; clear hK K
        refine wpStill_wantG (by kernel_rfl) (fun K hK => ?_); go_simp; refine hK _ ?_; clear hK K
        refine wpStill_skipG (by kernel_rfl) (fun K hK => ?_); go_simp; refine hK _ ?_; clear hK K
        refine wpStill_skipG (by kernel_rfl) (fun K hK => ?_); go_simp; refine hK _ ?_; clear hK K
        refine wpStill_skipG (by kernel_rfl) (fun K hK => ?_); go_simp; refine hK _ ?_; clear hK K
        refine wpStill_skipG (by kernel_rfl) (fun K hK => ?_); go_simp; refine hK _ ?_; clear hK K
        refine wpStill_skipG (by kernel_rfl) (fun K hK => ?_); go_simp; refine hK _ ?_; clear hK K
        refine wpStill_skipG (by kernel_rfl) (fun K hK => ?_); go_simp; refine hK _ ?_; clear hK K
        refine wpStill_skipG (by kernel_rfl) (fun K hK => ?_); go_simp; refine hK _ ?_; clear hK K
        refine wpStill_skipG (by kernel_rfl) (fun K hK => ?_); go_simp; refine hK _ ?_; clear hK K
        refine wpStill_skipG (by kernel_rfl) (fun K hK => ?_); go_simp; refine hK _ ?_; clear hK K
        refine wpStill_skipG (by kernel_rfl) (fun K hK => ?_); go_simp; refine hK _ ?_; clear hK K
        refine wpStill_skipG (by kernel_rfl) (fun K hK => ?_); go_simp; refine hK _ ?_; clear hK K
        refine wpStill_skipG (by kernel_rfl) (fun K hK => ?_); go_simp; refine hK _ ?_; clear hK K
        refine wpStill_skipG (by kernel_rfl) (fun K hK => ?_); go_simp; refine hK _ ?_; clear hK K
        refine wpStill_skipG (by kernel_rfl) (fun K hK => ?_); go_simp; refine hK _ ?_; clear hK K
        refine wpStill_wantG (by kernel_rfl) (fun K hK => ?_); go_simp; refine hK _ ?_; clear hK K
        refine wpStill_nil ?_
        go_wp2_with fail
        go_ret
        exact ⟨ret_bool HE.out.symm, HBW.out.drew⟩
      have hd1 : decide (N ≤ zat ps k) = false := decide_eq_false hx1
      by_cases hk0 : k = 0
      · have HT := hid (HYE.out (by omega))
        have hd2 : decide (0 < k) = false := decide_eq_false (by omega)
        clear HNO HYE hk0
        generalize zat ps k = x at *
        go_wp2_with fail
        refine wp_region_still_lit hmx (by kernel_rfl) ?_
        refine wpStill_wantG (by kernel_rfl) (fun K hK => ?_); go_simp; refine hK _ ?_; clear hK K
        refine wpStill_wantG (by kernel_rfl) (fun K hK => ?_); go_simp; refine hK _ ?_; clear hK K
        refine wpStill_wantG (by kernel_rfl) (fun K hK => ?_); go_simp; refine hK _ ?_; clear hK K
        refine wpStill_wantG (by kernel_rfl) (fun K hK => ?_); go_simp; refine hK _ ?_; clear hK K
        refine wpStill_wantG (by kernel_rfl) (fun K hK => ?_); go_simp; refine hK _ ?_; clear hK K
        refine wpStill_wantG (by kernel_rfl) (fun K hK => ?_); go_simp; refine hK _ ?_; clear hK K
        refine wpStill_wantG (by kernel_rfl) (fun K hK => ?_); go_simp; refine hK _ ?_; clear hK K
        refine wpStill_wantG (by kernel_rfl) (fun K hK => ?_); go_simp; refine hK _ ?_; clear hK K
        refine wpStill_wantG (by kernel_rfl) (fun K hK => ?_); go_simp; refine hK _ ?_; clear hK K
        refine wpStill_wantG (by kernel_rfl) (fun K hK => ?_); go_simp; refine hK _ ?_; clear hK K
        refine wpStill_wantG (by kernel_rfl) (fun K hK => ?_); go_simp; refine hK _ ?_; clear hK K
        refine wpStill_wantG (by kernel_rfl) (fun K hK => ?_); go_simp; refine hK _ ?_; clear hK K
        refine wpStill_wantG (by kernel_rfl) (fun K hK => ?_); go_simp; refine hK _ ?_; clear hK K
        refine wpStill_wantG (by kernel_rfl) (fun K hK => ?_); go_simp; refine hK _ ?_; clear hK K
        refine wpStill_wantG (by kernel_rfl) (fun K hK => ?_); go_simp; refine hK _ ?_; clear hK K
        refine wpStill_wantG (by kernel_rfl) (fun K hK => ?_); go_simp; refine hK _ ?_; clear hK K
        refine wpStill_wantG (by kernel_rfl) (fun K hK => ?_); go_simp; refine hK _ ?_; clear hK K
        refine wpStill_skipG (by kernel_rfl) (fun K hK => ?_); go_simp; refine hK _ ?_; clear hK K
        refine wpStill_skipG (by kernel_rfl) (fun K hK => ?_); go_simp; refine hK _ ?_; clear hK K
        refine wpStill_skipG (by kernel_rfl) (fun K hK => ?_); go_simp; refine hK _ ?_; clear hK K
        refine wpStill_skipG (by kernel_rfl) (fun K hK => ?_); go_simp; refine hK _ ?_; clear hK K
        refine wpStill_skipG (by kernel_rfl) (fun K hK => ?_); go_simp; refine hK _ ?_; clear hK K
        refine wpStill_skipG (by kernel_rfl) (fun K hK => ?_); go_simp; refine hK _ ?_; clear hK K
        refine wpStill_skipG (by kernel_rfl) (fun K hK => ?_); go_simp; refine hK _ ?_; clear hK K
        refine wpStill_skipG (by kernel_rfl) (fun K hK => ?_); go_simp; refine hK _ ?_; clear hK K
        refine wpStill_skipG (by kernel_rfl) (fun K hK => ?_); go_simp; refine hK _ ?_; clear hK K
        refine wpStill_skipG (by kernel_rfl) (fun K hK => ?_); go_simp; refine hK _ ?_; clear hK K
        refine wpStill_wantG (by kernel_rfl) (fun K hK => ?_); go_simp; refine hK _ ?_; clear hK K
        refine wpStill_wantG (by kernel_rfl) (fun K hK => ?_); go_simp; refine hK _ ?_; clear hK K
        refine wpStill_nil ?_
        go_wp2_with fail
        go_roundw
        case rel => exact ⟨k + 1, by omega, by go_num, HT, HW2⟩
        case measure => simp [intOf]; omega
      obtain ⟨m, hkm⟩ : ∃ m, k = m + 1 := ⟨k - 1, by omega⟩
      obtain ⟨b2, o2, e2, hb2, hm2⟩ := HRP.out m (by omega)
      cases e2
      have hm3 : wr.cell? ⟨b1, o1 + m, none⟩ = some (.int .i64 (zat ps m)) := (HBK.out _).trans hm2
      have hmlt : (m : Int) < (ps.length : Int) := by omega
      clear hm2
      have hkm2 : (k : Int) - 1 = (m : Int) := by omega
      have hmw : IntKind.i64.wrap (m : Int) = (m : Int) := by rw [IntKind.wrap_i64]; omega
      have hd2 : decide (0 < k) = true := decide_eq_true (by omega)
      have HKM : Hid (k - 1 = m) := by unfold Hid; omega
      by_cases hx2 : zat ps k ≤ zat ps m
      · have HE := hid (HNO.out (fun h => by have := h.2.2 (by omega); rw [HKM.out] at this; omega))
        have hd3 : decide (zat ps k ≤ zat ps m) = true := decide_eq_true hx2
        clear HNO HYE hkm
        generalize zat ps k = x at *
        generalize zat ps m = y at *
        go_wp2_with fail
        refine wp_region_still_lit hmx (by kernel_rfl) ?_
        refine wpStill_wantG (by kernel_rfl) (fun K hK => ?_); go_simp; refine hK _ ?_; clear hK K
        refine wpStill_wantG (by kernel_rfl) (fun K hK => ?_); go_simp; refine hK _ ?_; clear hK K
        refine wpStill_wantG (by kernel_rfl) (fun K hK => ?_); go_simp; refine hK _ ?_; clear hK K
        refine wpStill_wantG (by kernel_rfl) (fun K hK => ?_); go_simp; refine hK _ ?_; clear hK K
        refine wpStill_wantG (by kernel_rfl) (fun K hK => ?_); go_simp; refine hK _ ?_; clear hK K
        refine wpStill_wantG (by kernel_rfl) (fun K hK => ?_); go_simp; refine hK _ ?_; clear hK K
        refine wpStill_wantG (by kernel_rfl) (fun K hK => ?_); go_simp; refine hK _ ?_; clear hK K
        refine wpStill_wantG (by kernel_rfl) (fun K hK => ?_); go_simp; refine hK _ ?_; clear hK K
        refine wpStill_wantG (by kernel_rfl) (fun K hK => ?_); go_simp; refine hK _ ?_; clear hK K
        refine wpStill_wantG (by kernel_rfl) (fun K hK => ?_); go_simp; refine hK _ ?_; clear hK K
        refine wpStill_wantG (by kernel_rfl) (fun K hK => ?_); go_simp; refine hK _ ?_; clear hK K
        refine wpStill_wantG (by kernel_rfl) (fun K hK => ?_); go_simp; refine hK _ ?_; clear hK K
        refine wpStill_wantG (by kernel_rfl) (fun K hK => ?_); go_simp; refine hK _ ?_; clear hK K
        refine wpStill_wantG (by kernel_rfl) (fun K hK => ?_); go_simp; refine hK _ ?_; clear hK K
        refine wpStill_wantG (by kernel_rfl) (fun K hK => ?_); go_simp; refine hK _ ?_; clear hK K
        refine wpStill_wantG (by kernel_rfl) (fun K hK => ?_); go_simp; refine hK _ ?_; clear hK K
        refine wpStill_wantG (by kernel_rfl) (fun K hK => ?_); go_simp; refine hK _ ?_; clear hK K
        refine wpStill_wantG (by kernel_rfl) (fun K hK => ?_); go_simp; refine hK _ ?_; clear hK K
        refine wpStill_wantG (by kernel_rfl) (fun K hK => ?_); go_simp; refine hK _ ?_; clear hK K
        refine wpStill_wantG (by kernel_rfl) (fun K hK => ?_); go_simp; refine hK _ ?_; clear hK K
        refine wpStill_wantG (by kernel_rfl) (fun K hK => ?_); go_simp; refine hK _ ?_; clear hK K
        refine wpStill_wantG (by kernel_rfl) (fun K hK => ?_); go_simp; refine hK _ ?_; clear hK K
        refine wpStill_wantG (by kernel_rfl) (fun K hK => ?_); go_simp; refine hK _ ?_; clear hK K
        refine wpStill_wantG (by kernel_rfl) (fun K hK => ?_); go_simp; refine hK _ ?_; clear hK K
        refine wpStill_wantG (by kernel_rfl) (fun K hK => ?_); go_simp; refine hK _ ?_; clear hK K
        refine wpStill_wantG (by kernel_rfl) (fun K hK => ?_); go_simp; refine hK _ ?_; clear hK K
        refine wpStill_wantG (by kernel_rfl) (fun K hK => ?_); go_simp; refine hK _ ?_; clear hK K
        refine wpStill_wantG (by kernel_rfl) (fun K hK => ?_); go_simp; refine hK _ ?_; clear hK K
        refine wpStill_wantG (by kernel_rfl) (fun K hK => ?_); go_simp; refine hK _ ?_; clear hK K
        refine wpStill_nil ?_
        go_wp2_with fail
        go_ret
        exact ⟨ret_bool HE.out.symm, HBW.out.drew⟩
      · have HT := hid (HYE.out ⟨by omega, by omega, fun _ => by rw [HKM.out]; omega⟩)
        have hd3 : decide (zat ps k ≤ zat ps m) = false := decide_eq_false hx2
        clear HNO HYE hkm
        generalize zat ps k = x at *
        generalize zat ps m = y at *
        go_wp2_with fail
        refine wp_region_still_lit hmx (by kernel_rfl) ?_
        refine wpStill_wantG (by kernel_rfl) (fun K hK => ?_); go_simp; refine hK _ ?_; clear hK K
        refine wpStill_wantG (by kernel_rfl) (fun K hK => ?_); go_simp; refine hK _ ?_; clear hK K
        refine wpStill_wantG (by kernel_rfl) (fun K hK => ?_); go_simp; refine hK _ ?_; clear hK K
        refine wpStill_wantG (by kernel_rfl) (fun K hK => ?_); go_simp; refine hK _ ?_; clear hK K
        refine wpStill_wantG (by kernel_rfl) (fun K hK => ?_); go_simp; refine hK _ ?_; clear hK K
        refine wpStill_wantG (by kernel_rfl) (fun K hK => ?_); go_simp; refine hK _ ?_; clear hK K
        refine wpStill_wantG (by kernel_rfl) (fun K hK => ?_); go_simp; refine hK _ ?_; clear hK K
        refine wpStill_wantG (by kernel_rfl) (fun K hK => ?_); go_simp; refine hK _ ?_; clear hK K
        refine wpStill_wantG (by kernel_rfl) (fun K hK => ?_); go_simp; refine hK _ ?_; clear hK K
        refine wpStill_wantG (by kernel_rfl) (fun K hK => ?_); go_simp; refine hK _ ?_; clear hK K
        refine wpStill_wantG (by kernel_rfl) (fun K hK => ?_); go_simp; refine hK _ ?_; clear hK K
        refine wpStill_wantG (by kernel_rfl) (fun K hK => ?_); go_simp; refine hK _ ?_; clear hK K
        refine wpStill_wantG (by kernel_rfl) (fun K hK => ?_); go_simp; refine hK _ ?_; clear hK K
        refine wpStill_wantG (by kernel_rfl) (fun K hK => ?_); go_simp; refine hK _ ?_; clear hK K
        refine wpStill_wantG (by kernel_rfl) (fun K hK => ?_); go_simp; refine hK _ ?_; clear hK K
        refine wpStill_wantG (by kernel_rfl) (fun K hK => ?_); go_simp; refine hK _ ?_; clear hK K
        refine wpStill_wantG (by kernel_rfl) (fun K hK => ?_); go_simp; refine hK _ ?_; clear hK K
        refine wpStill_wantG (by kernel_rfl) (fun K hK => ?_); go_simp; refine hK _ ?_; clear hK K
        refine wpStill_wantG (by kernel_rfl) (fun K hK => ?_); go_simp; refine hK _ ?_; clear hK K
        refine wpStill_wantG (by kernel_rfl) (fun K hK => ?_); go_simp; refine hK _ ?_; clear hK K
        refine wpStill_wantG (by kernel_rfl) (fun K hK => ?_); go_simp; refine hK _ ?_; clear hK K
        refine wpStill_wantG (by kernel_rfl) (fun K hK => ?_); go_simp; refine hK _ ?_; clear hK K
        refine wpStill_wantG (by kernel_rfl) (fun K hK => ?_); go_simp; refine hK _ ?_; clear hK K
        refine wpStill_wantG (by kernel_rfl) (fun K hK => ?_); go_simp; refine hK _ ?_; clear hK K
        refine wpStill_wantG (by kernel_rfl) (fun K hK => ?_); go_simp; refine hK _ ?_; clear hK K
        refine wpStill_wantG (by kernel_rfl) (fun K hK => ?_); go_simp; refine hK _ ?_; clear hK K
        refine wpStill_wantG (by kernel_rfl) (fun K hK => ?_); go_simp; refine hK _ ?_; clear hK K
        refine wpStill_wantG (by kernel_rfl) (fun K hK => ?_); go_simp; refine hK _ ?_; clear hK K
        refine wpStill_wantG (by kernel_rfl) (fun K hK => ?_); go_simp; refine hK _ ?_; clear hK K
        refine wpStill_nil ?_
        go_wp2_with fail
        go_roundw
        case rel => exact ⟨k + 1, by omega, by go_num, HT, HW2⟩
        case measure => simp [intOf]; omega
    · obtain rfl : k = ps.length := by omega
      have HYE := hid (chkf_yes (q := q) (n := n) (root := root) (nodes := nodes) ⟨hn3, hn4, HLP.out, HL4.out, hok.out⟩)
      clear hok
      obtain ⟨cnt, rfl⟩ : ∃ cnt : Nat, N = (cnt : Int) := ⟨N.toNat, by omega⟩
      rw [Int.toNat_natCast] at HYE
      go_wp2_with fail
      have HCW : Hid (w.heap.size ≤ wr.heap.size) := by unfold Hid; rw [HSZ.out]; omega
      have HNW := hid (six_new wr 222 (.int .i64 q) (.slice ap ps.length cp) (.slice ar rows.length cr) (.slice an' nodes.length cn) (.int .i64 0) (.bool false))
      have HBA : Hid (Below w.heap.size w (wr.alloc (.cells #[.int .i64 q, .slice ap ps.length cp, .slice ar rows.length cr, .slice an' nodes.length cn, .int .i64 0, .bool false] 222))) := HBW.out.alloc HCW.out _
      have HCL : Hid (wr.heap.size < (wr.alloc (.cells #[.int .i64 q, .slice ap ps.length cp, .slice ar rows.length cr, .slice an' nodes.length cn, .int .i64 0, .bool false] 222)).heap.size) := by unfold Hid; simp
      have HUP := hid (rup_any q n h5 h4 HPN.out wr.heap.size w.heap.size cp cr cn ap ar an' ps rows nodes hps HLP.out hnl HFR.out HFN.out HCW.out cnt 0 cnt 0 false _ (by omega) (Nat.le_refl _) (by omega) (Int.le_refl _) (by omega) (by omega) HNW.out (HRP.out.below HBA.out) (HLR.out.below HBA.out) (HLN.out.below HBA.out))
      have HUL := hid (upf_len q n ps rows nodes cnt 0 cnt 0 false (by omega))
      have HUF := hid (upf_fits (show 3 ≤ q by omega) h4 n ps rows nodes cnt 0 cnt 0 false)
      obtain ⟨⟨D, T, B⟩, hU⟩ : ∃ U, U = upf q n ps rows nodes cnt 0 cnt 0 false := ⟨_, rfl⟩
      rw [← hU] at HUP HYE HUL HUF
      dsimp only at HUP HYE HUL HUF
      generalize wr.alloc (.cells #[.int .i64 q, .slice ap ps.length cp, .slice ar rows.length cr, .slice an' nodes.length cn, .int .i64 0, .bool false] 222) = WA at *
      obtain ⟨C, hC⟩ : ∃ C, C = wr.heap.size := ⟨_, rfl⟩
      rw [← hC] at HUP HCL HCW ⊢
      clear hU HNW hC HW2 HBW HSZ HBK
      refine HUP.out.mono ?_
      rintro e w3 ⟨g, N1, rfl, h6, h7, h8, h9⟩
      have c4' := h8.cell (i := 4) (by omega)
      have c5' := h8.cell (i := 5) (by omega)
      simp only [six] at c4' c5'
      have HB3 : Hid (Below w.heap.size w w3) := HBA.out.trans (below_of_gb h9 HCW.out HCL.out)
      have HSA := hid (rsame_any q N1 c4 (some ⟨g, 0, none⟩) a4 D root w3 (by omega) h4 (by rw [HUL.out]; omega) h4l HUF.out HF4.out h7.1.row ((HR4.out.below HB3.out).mono HB3.out.size))
      rw [HUL.out] at HSA
      clear h6 h7 h8 h9 HUP HBA HCL
      generalize samb q D root = bs at *
      go_wp2_with fail
      refine HSA.out.mono ?_
      rintro e w4 ⟨rfl, rfl⟩
      cases bs
      · go_wp2_with fail
        go_ret
        exact ⟨ret_bool HYE.out.symm, HB3.out⟩
      · cases B
        · by_cases ht : T = nodes.length
          · have hbt : ((T : Int) == (nodes.length : Int)) = true := by rw [beq_iff_eq]; omega
            have HE : Hid ((T == nodes.length) = true) := by unfold Hid; rw [beq_iff_eq]; exact ht
            clear ht
            go_wp2_with fail
            go_ret
            exact ⟨ret_bool (by rw [HYE.out, HE.out]; rfl), HB3.out⟩
          · have hbt : ((T : Int) == (nodes.length : Int)) = false := by rw [beq_eq_false_iff_ne]; omega
            have HE : Hid ((T == nodes.length) = false) := by unfold Hid; rw [beq_eq_false_iff_ne]; exact ht
            clear ht
            go_wp2_with fail
            go_ret
            exact ⟨ret_bool (by rw [HYE.out, HE.out]; rfl), HB3.out⟩
        · go_wp2_with fail
          go_ret
          exact ⟨ret_bool HYE.out.symm, HB3.out⟩

end Go.Proofs.YtmmlphdekeflfaaGreatDoor

namespace Go.Proofs.YtmmlphdekeflfaaGreatDoor
open Go.RowKit

theorem ls_cong {f g : Nat → Int} {n : Nat} (h : ∀ j, j < n → f j = g j) : ls f n = ls g n := by
  unfold ls
  exact List.map_congr_left (fun j hj => h j (List.mem_range.1 hj))
theorem elr_digl {q : Nat} (h3 : 3 ≤ q) (n : Nat) (l : List Int) : elr q (digl q n l) = digl q n l := by
  unfold elr
  rw [digl_len]
  unfold digl
  refine ls_cong fun j hj => ?_
  rw [ls_at _ _ _ hj]
  have := hst_bounds q n (pdf q (zat l) l.length) (l.length / 4 + 1) j h3
  exact Int.emod_eq_of_lt this.1 this.2
theorem fx_spec {ps : List Int} {x : Int} (h : ∃ j, j < ps.length ∧ zat ps j = x) : fx ps x < ps.length ∧ zat ps (fx ps x) = x := by
  obtain ⟨j, h1, h2⟩ := h
  unfold fx
  cases e : (List.range ps.length).find? (fun i => zat ps i == x) with
  | none =>
    have := List.find?_eq_none.1 e j (List.mem_range.2 h1)
    simp [h2] at this
  | some i =>
    have h3 := List.find?_some e
    have h4 := List.mem_range.1 (List.mem_of_find?_eq_some e)
    exact ⟨h4, by simpa using h3⟩

/-! ## alike as elements -/
theorem samb_iff {q : Nat} {xs ys : List Int} : samb q xs ys = true ↔ xs.map (· % (q : Int)) = ys.map (· % (q : Int)) := by
  unfold samb
  rw [decide_eq_true_eq]
theorem elr_map (q : Nat) (r : List Int) : elr q r = r.map (· % (q : Int)) := by
  apply List.ext_getElem?
  intro i
  unfold elr ls
  rw [List.getElem?_map, List.getElem?_map]
  by_cases h : i < r.length
  · rw [List.getElem?_range h, List.getElem?_eq_getElem h]
    simp [zat, h]
  · rw [List.getElem?_eq_none (by simp; omega), List.getElem?_eq_none (by omega)]
    rfl
theorem upf_red {q : Nat} (h3 : 3 ≤ q) (n : Nat) (ps : List Int) (rows nodes : List (List Int)) (k : Nat) (first : Int) (cnt t : Nat) (bad : Bool) : elr q (upf q n ps rows nodes k first cnt t bad).1 = (upf q n ps rows nodes k first cnt t bad).1 := by
  cases k with
  | zero => rfl
  | succ k =>
    simp only [upf]
    split
    · split
      · rw [elr_map]; simp
      · rw [elr_map, elr_map, List.map_map]
        exact List.map_congr_left fun x _ => Int.emod_emod_of_dvd _ (Int.dvd_refl _)
    · split <;> exact elr_digl h3 _ _
end Go.Proofs.YtmmlphdekeflfaaGreatDoor
