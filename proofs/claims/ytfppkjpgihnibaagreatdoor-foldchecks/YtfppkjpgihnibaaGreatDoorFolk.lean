/- attestsame.Folds of what is the same. attestsame.Foldeds: a Folded that is the call's own. attestsame.Foldeds. Lists, rows and Openings in blocks of their own kinds: a chain's turn leaves them. attestsame.Copied, Opened, Foldeds of that kind. attestsame.Opened and Foldeds: what a chain's turn leaves. -/
import Derived.Test.YtfppkjpgihnibaaGreatDoorFolc
import Derived.Test.YtfppkjpgihnibaaGreatDoorTreJ
import Derived.Test.YtfppkjpgihnibaaGreatDoorChnz
import Derived.StillTailTactics
namespace Go.Proofs.YtfppkjpgihnibaaGreatDoor
open Go.RowKit

/-- two boxes -/
structure BxI (B : Nat) (x1 x2 x3 y1 y2 y3 : Value) (w W : World) : Prop where
  bel : Below w.heap.size w W
  one : W.heap[B]? = some (.cells #[x1, x2, x3] 36 (0, 0))
  two : W.heap[B + 1]? = some (.cells #[y1, y2, y3] 36 (0, 0))
theorem BxI.step {B : Nat} {x1 x2 x3 y1 y2 y3 : Value} {w W W' : World} (h : BxI B x1 x2 x3 y1 y2 y3 w W) (e : Below W.heap.size W W') : BxI B x1 x2 x3 y1 y2 y3 w W' :=
  ⟨h.bel.trans (e.mono h.bel.size), (e.block _ (Array.getElem?_eq_some_iff.1 h.one).1).trans h.one, (e.block _ (Array.getElem?_eq_some_iff.1 h.two).1).trans h.two⟩

set_option maxRecDepth 100000 in
set_option maxHeartbeats 4000000 in
theorem folds_same (c1 c2 c3 d1 d2 d3 : Nat) (a1 a2 a3 b1 b2 b3 : Option Addr) (roots : List (List Int)) (last : List Int) (os : List OnZ) (w : World) (hr : roots.length ≤ 9223372036854775807) (hrr : ∀ k, k < roots.length → (rat roots k).length ≤ 9223372036854775807) (hl : last.length ≤ 9223372036854775807) (ho : os.length ≤ 9223372036854775807)
    (hoo : ∀ k, k < os.length → (onat os k).ps.length ≤ 9223372036854775807 ∧ (onat os k).rows.length ≤ 9223372036854775807 ∧ (onat os k).nodes.length ≤ 9223372036854775807 ∧ (∀ j, j < (onat os k).rows.length → (rat (onat os k).rows j).length ≤ 9223372036854775807) ∧ (∀ j, j < (onat os k).nodes.length → (rat (onat os k).nodes j).length ≤ 9223372036854775807))
    (x1 : LstR w.heap.size w a1 c1 roots) (y1 : LstR w.heap.size w b1 d1 roots) (x2 : RowB w.heap.size w a2 last) (y2 : RowB w.heap.size w b2 last) (x3 : LstF w.heap.size w a3 c3 os) (y3 : LstF w.heap.size w b3 d3 os) :
    Calls Tryz.prog 13 #[.agg #[.slice a1 roots.length c1, .slice a2 last.length c2, .slice a3 os.length c3], .agg #[.slice b1 roots.length d1, .slice b2 last.length d2, .slice b3 os.length d3]] w fun e w' => e = .returned (.bool true) ∧ Below w.heap.size w w' := by
  have HRO : Hid (∀ W, Below w.heap.size w W → Calls Tryz.prog 28 #[.slice a1 roots.length c1, .slice b1 roots.length d1] W fun e w' => e = .returned (.bool true) ∧ ∃ n, w' = W.drewN n) := fun W h => by
    have := srows_any c1 d1 a1 b1 roots roots _ _ W hr hr hrr hrr (x1.below h) (y1.below h)
    rw [decide_eq_true rfl] at this
    exact this
  have HIN : Hid (∀ W, Below w.heap.size w W → Calls Tryz.prog 14 #[.slice a2 last.length c2, .slice b2 last.length d2] W fun e w' => e = .returned (.bool true) ∧ ∃ n, w' = W.drewN n) := fun W h => by
    have := ints_any last last _ _ W (rowZ_of_B c2 (x2.below h)) (rowZ_of_B d2 (y2.below h)) hl hl
    rw [decide_eq_true rfl] at this
    exact this
  have HX3 := hid x3
  have HY3 := hid y3
  have HOO := hid hoo
  obtain ⟨rl, hrl⟩ : ∃ rl, rl = roots.length := ⟨_, rfl⟩
  obtain ⟨ll, hll⟩ : ∃ ll, ll = last.length := ⟨_, rfl⟩
  obtain ⟨ol, hol⟩ : ∃ ol, ol = os.length := ⟨_, rfl⟩
  have HOL := hid hol
  rw [← hrl] at HRO
  rw [← hll] at HIN
  rw [← hrl, ← hll, ← hol]
  rw [← hol] at ho
  obtain ⟨W0, hW0⟩ : ∃ W0, W0 = (w.alloc (.cells #[.slice a1 rl c1, .slice a2 ll c2, .slice a3 ol c3] 36)).alloc (.cells #[.slice b1 rl d1, .slice b2 ll d2, .slice b3 ol d3] 36) := ⟨_, rfl⟩
  have HC0 : Hid (BxI w.heap.size (.slice a1 rl c1) (.slice a2 ll c2) (.slice a3 ol c3) (.slice b1 rl d1) (.slice b2 ll d2) (.slice b3 ol d3) w W0) := by
    rw [hW0]
    have g1 := heap_alloc_new w (.cells #[.slice a1 rl c1, .slice a2 ll c2, .slice a3 ol c3] 36)
    have g2 := heap_alloc_new (w.alloc (.cells #[.slice a1 rl c1, .slice a2 ll c2, .slice a3 ol c3] 36)) (.cells #[.slice b1 rl d1, .slice b2 ll d2, .slice b3 ol d3] 36)
    rw [show (w.alloc (.cells #[.slice a1 rl c1, .slice a2 ll c2, .slice a3 ol c3] 36)).heap.size = w.heap.size + 1 from by simp] at g2
    exact ⟨((Below.refl _ _).alloc (Nat.le_refl _) _).alloc (by simp) _, (Below.heap_alloc _ _ _ (by simp)).trans g1, g2⟩
  clear x1 y1 x2 y2 x3 y3 hoo hrl hll hol hr hrr hl
  go_enter Tryz.func13, Tryz.ntmps13
  go_wp2_with fail
  rw [← hW0]
  clear hW0
  obtain ⟨B, hB⟩ : ∃ B, B = w.heap.size := ⟨_, rfl⟩
  rw [← hB] at HC0
  have HBE : Hid (w.heap.size = B) := hB.symm
  simp only [HBE.out]
  clear hB
  have k0 := thr0 HC0.out.one
  have k1 := thr1 HC0.out.one
  have m0 := thr0 HC0.out.two
  have m1 := thr1 HC0.out.two
  have HR0 := hid (HRO.out W0 HC0.out.bel)
  go_wp2_with fail
  refine HR0.out.mono ?_
  rintro e w1 ⟨rfl, n1, rfl⟩
  have HC1 := hid (HC0.out.step (below_drewN (Below.refl _ _) n1))
  clear HR0 HC0 k0 k1 m0 m1
  generalize W0.drewN n1 = w1 at *
  have k1 := thr1 HC1.out.one
  have m1 := thr1 HC1.out.two
  have HI1 := hid (HIN.out w1 HC1.out.bel)
  go_wp2_with fail
  refine HI1.out.mono ?_
  rintro e w2 ⟨rfl, n2, rfl⟩
  have HC2 := hid (HC1.out.step (below_drewN (Below.refl _ _) n2))
  clear HI1 HC1 k1 m1
  generalize w1.drewN n2 = w2 at *
  have k2 := thr2 HC2.out.one
  have m2 := thr2 HC2.out.two
  have u1 : ((ol : Int) != (ol : Int)) = false := by simp
  go_wp2_with fail
  clear k2 m2
  go_loopw [7] (fun iv wr => ∃ i : Nat, i ≤ ol ∧ iv = .int .i64 i ∧ Hid (BxI B (.slice a1 rl c1) (.slice a2 ll c2) (.slice a3 ol c3) (.slice b1 rl d1) (.slice b2 ll d2) (.slice b3 ol d3) w wr)) (fun iv _ => ol - (intOf iv).toNat)
  case atStart => exact ⟨0, by omega, rfl, HC2⟩
  case round =>
    obtain ⟨i, hi, rfl, hI⟩ := hrel
    have k2 := thr2 hI.out.one
    by_cases hlt : i < ol
    · have hlt2 : (i : Int) < (ol : Int) := by omega
      have hks : IntKind.i64.wrap ((i : Int) + 1) = (i : Int) + 1 := by rw [IntKind.wrap_i64]; omega
      obtain ⟨bx, ox, p1, e1, p2, e2, p3, e3, hae, hbx, g1, g2, g3, g4, g5, g6⟩ := HX3.out.row i (by rw [← HOL.out]; exact hlt)
      subst hae
      obtain ⟨by', oy, r1, f1, r2, f2, r3, f3, hae, hby, j1, j2, j3, j4, j5, j6⟩ := HY3.out.row i (by rw [← HOL.out]; exact hlt)
      subst hae
      obtain ⟨z1, z2, z3, z4, z5⟩ := HOO.out i (by rw [← HOL.out]; exact hlt)
      have HOP : Hid (∀ W, Below wr.heap.size wr W → Calls Tryz.prog 52 #[.agg #[.slice p1 (onat os i).ps.length e1, .slice p2 (onat os i).rows.length e2, .slice p3 (onat os i).nodes.length e3], .agg #[.slice r1 (onat os i).ps.length f1, .slice r2 (onat os i).rows.length f2, .slice r3 (onat os i).nodes.length f3]] W fun e w' => e = .returned (.bool true) ∧ Below wr.heap.size wr w') := fun W hb => by
        have hbW := (hI.out.step hb).bel
        have := openings_any e1 e2 e3 f1 f2 f3 p1 p2 p3 r1 r2 r3 (onat os i).ps (onat os i).ps (onat os i).rows (onat os i).rows (onat os i).nodes (onat os i).nodes W z1 z1 z2 z2 z3 z3 z4 z4 z5 z5 ((g4.below hbW).mono hbW.size).row ((j4.below hbW).mono hbW.size).row ((g5.below hbW).mono hbW.size) ((j5.below hbW).mono hbW.size) ((g6.below hbW).mono hbW.size) ((j6.below hbW).mono hbW.size)
        refine this.mono ?_
        rintro e w' ⟨rfl, h2⟩
        exact ⟨by simp, hb.trans (h2.mono hb.size)⟩
      have HKe : Hid (∀ W, Below wr.heap.size wr W → W.cell? ⟨B, 2, none⟩ = some (.slice (some ⟨bx, ox, none⟩) ol c3) ∧ W.cell? ⟨bx, ox + i * 3, none⟩ = some (.slice p1 (onat os i).ps.length e1) ∧ W.cell? ⟨bx, ox + i * 3 + 1, none⟩ = some (.slice p2 (onat os i).rows.length e2) ∧ W.cell? ⟨bx, ox + i * 3 + 2, none⟩ = some (.slice p3 (onat os i).nodes.length e3) ∧ W.cell? ⟨B + 1, 2, none⟩ = some (.slice (some ⟨by', oy, none⟩) ol d3) ∧ W.cell? ⟨by', oy + i * 3, none⟩ = some (.slice r1 (onat os i).ps.length f1) ∧ W.cell? ⟨by', oy + i * 3 + 1, none⟩ = some (.slice r2 (onat os i).rows.length f2) ∧ W.cell? ⟨by', oy + i * 3 + 2, none⟩ = some (.slice r3 (onat os i).nodes.length f3)) := fun W hb => by
        have hs := hI.out.step hb
        exact ⟨thr2 hs.one, (hs.bel.cell (p := ⟨bx, ox + i * 3, none⟩) hbx).trans g1, (hs.bel.cell (p := ⟨bx, ox + i * 3 + 1, none⟩) hbx).trans g2, (hs.bel.cell (p := ⟨bx, ox + i * 3 + 2, none⟩) hbx).trans g3, thr2 hs.two, (hs.bel.cell (p := ⟨by', oy + i * 3, none⟩) hby).trans j1, (hs.bel.cell (p := ⟨by', oy + i * 3 + 1, none⟩) hby).trans j2, (hs.bel.cell (p := ⟨by', oy + i * 3 + 2, none⟩) hby).trans j3⟩
      have HII := hI
      have hdd : Below wr.heap.size wr wr.drew := (Below.refl _ _).drew
      generalize (onat os i).ps.length = l1 at *
      generalize (onat os i).rows.length = l2 at *
      generalize (onat os i).nodes.length = l3 at *
      clear hI g1 g2 g3 g4 g5 g6 j1 j2 j3 j4 j5 j6 z1 z2 z3 z4 z5
      go_wp2_with fail
      go_region_held3 (fun W => W.cell? ⟨B, 2, none⟩ = some (.slice (some ⟨bx, ox, none⟩) ol c3) ∧ W.cell? ⟨bx, ox + i * 3, none⟩ = some (.slice p1 l1 e1) ∧ W.cell? ⟨bx, ox + i * 3 + 1, none⟩ = some (.slice p2 l2 e2) ∧ W.cell? ⟨bx, ox + i * 3 + 2, none⟩ = some (.slice p3 l3 e3) ∧ W.cell? ⟨B + 1, 2, none⟩ = some (.slice (some ⟨by', oy, none⟩) ol d3) ∧ W.cell? ⟨by', oy + i * 3, none⟩ = some (.slice r1 l1 f1) ∧ W.cell? ⟨by', oy + i * 3 + 1, none⟩ = some (.slice r2 l2 f2) ∧ W.cell? ⟨by', oy + i * 3 + 2, none⟩ = some (.slice r3 l3 f3)) (exact HKe.out _ (by assumption))
        (first
          | (go_at_call 52; refine (HOP.out _ (by assumption)).mono ?_; rintro e w5 ⟨rfl, hb5⟩))
      have HE := hid (HII.out.step hb5)
      clear hb5 HOP HKe hdd HII k2
      go_wp2_with fail
      go_roundw
      case rel => exact ⟨i + 1, by omega, by go_num, HE⟩
      case measure => simp [intOf]; omega
    · obtain rfl : i = ol := by omega
      have hlt2 : ¬ (i : Int) < (i : Int) := by omega
      have HE := hid hI.out.bel
      clear hI
      go_wp2_with fail
      go_ret
      exact ⟨rfl, HE.out⟩

end Go.Proofs.YtfppkjpgihnibaaGreatDoor

namespace Go.Proofs.YtfppkjpgihnibaaGreatDoor
open Go.RowKit

theorem Tryz.infoOn : (Tryz.prog.info? 107).map (fun i => (i.zero, i.size, i.bytes)) = some (some (.agg #[.slice none 0 0, .slice none 0 0, .slice none 0 0]), 3, 72) := by kernel_rfl

/-- what is no Opening stays -/
theorem SlR.notO {w w' : World} {r : List Int} {v : Value} (h : SlR w r v) (hs : w.heap.size ≤ w'.heap.size) (e : ∀ (b : Nat) (c : Array Value) (t : TypeId) (f : Nat × Nat), w.heap[b]? = some (.cells c t f) → t ≠ 107 → w'.heap[b]? = w.heap[b]?) : SlR w' r v :=
  h.blocks hs (fun b _ hn => by
    obtain ⟨c, t, f, h1, _, h3, _⟩ := hn
    exact e b c t f h1 h3)
theorem OwnR.notO {base : Nat} {w w' : World} {v : Value} {rs : List (List Int)} (h : OwnR base w v rs) (hs : w.heap.size ≤ w'.heap.size) (e : ∀ (b : Nat) (c : Array Value) (t : TypeId) (f : Nat × Nat), w.heap[b]? = some (.cells c t f) → t ≠ 107 → w'.heap[b]? = w.heap[b]?) : OwnR base w' v rs := by
  obtain ⟨vals, h1, h2⟩ := h
  refine ⟨vals, ?_, fun j hj => ?_⟩
  · refine ⟨h1.1, ?_⟩
    rcases h1.2 with hn | ⟨g, cap, cur, rfl, hb, hg, rest⟩
    · exact .inl hn
    · exact .inr ⟨g, cap, cur, rfl, hb, (e g _ _ _ hg (by decide)).trans hg, rest⟩
  · obtain ⟨u, h3, h4⟩ := h2 j hj
    exact ⟨u, h3, h4.notO hs e⟩

/-- a store into a Folded turns no list of numbers -/
theorem SlR.setF {w : World} {O i : Nat} {v u : Value} {r : List Int} {x1 x2 x3 : Option Addr} {n1 n2 n3 c1 c2 c3 : Nat} {t : TypeId} (h : SlR w r u) (hO : w.heap[O]? = some (.cells #[.slice x1 n1 c1, .slice x2 n2 c2, .slice x3 n3 c3] t (0, 0))) : SlR (w.setCell ⟨O, i, none⟩ v) r u := by
  obtain ⟨a, c, rfl, hl, hn⟩ := h
  have hne : ∀ k, k < r.length → ∃ b o, a = some ⟨b, o, none⟩ ∧ b < w.heap.size ∧ w.cell? ⟨b, o + k, none⟩ = some (.int .i64 (zat r k)) ∧ b ≠ O := fun k hk => by
    obtain ⟨b, o, h1, h2, h3⟩ := hl.row k hk
    refine ⟨b, o, h1, h2, h3, ?_⟩
    rintro rfl
    unfold World.cell? at h3
    rw [show w.heap[(⟨b, o + k, none⟩ : Addr).block]? = some (.cells #[.slice x1 n1 c1, .slice x2 n2 c2, .slice x3 n3 c3] t (0, 0)) from hO] at h3
    have h4 : (#[Value.slice x1 n1 c1, .slice x2 n2 c2, .slice x3 n3 c3] : Array Value)[o + k]? = some (.int .i64 (zat r k)) := h3
    match o + k, h4 with
    | 0, h4 => simp at h4
    | 1, h4 => simp at h4
    | 2, h4 => simp at h4
    | j + 3, h4 => simp at h4
  have hsz : (w.setCell ⟨O, i, none⟩ v).heap.size = w.heap.size := by simp [World.setCell]
  refine ⟨a, c, rfl, ⟨fun k hk => ?_, hl.room, hl.nil⟩, fun h0 => ?_⟩
  · obtain ⟨b, o, h1, h2, h3, h4⟩ := hne k hk
    exact ⟨b, o, h1, by rw [hsz]; exact h2, (World.cell?_of_block (w := w) (a := ⟨b, o + k, none⟩) (Below.heap_setCell _ _ _ _ h4)).trans h3⟩
  · obtain ⟨b, o, h1, cs, t', f, h2, h3⟩ := hn h0
    obtain ⟨b', o', g1, _, _, g4⟩ := hne 0 h0
    rw [h1] at g1
    cases g1
    exact ⟨b, o, h1, cs, t', f, (Below.heap_setCell _ _ _ _ g4).trans h2, h3⟩
theorem OwnR.setF {base : Nat} {w : World} {O i : Nat} {v u : Value} {rs : List (List Int)} {x1 x2 x3 : Option Addr} {n1 n2 n3 c1 c2 c3 : Nat} (h : OwnR base w u rs) (hO : w.heap[O]? = some (.cells #[.slice x1 n1 c1, .slice x2 n2 c2, .slice x3 n3 c3] 36 (0, 0))) : OwnR base (w.setCell ⟨O, i, none⟩ v) u rs := by
  obtain ⟨vals, h1, h2⟩ := h
  refine ⟨vals, ⟨h1.1, ?_⟩, fun j hj => ?_⟩
  · rcases h1.2 with hn | ⟨g, cap, cur, rfl, hb, hg, rest⟩
    · exact .inl hn
    · refine .inr ⟨g, cap, cur, rfl, hb, (Below.heap_setCell _ _ _ _ ?_).trans hg, rest⟩
      rintro rfl
      rw [hO] at hg
      injection hg with hg
      injection hg with _ h3 _
      exact absurd h3 (by decide)
  · obtain ⟨x, h3, h4⟩ := h2 j hj
    exact ⟨x, h3, h4.setF hO⟩

/-- Openings of the call's own -/
def OwnF (base : Nat) (w : World) (v : Value) (os : List OnZ) : Prop := ∃ vals : List Value, w.ownsRow base 107 3 v os.length vals ∧ ∀ j, j < os.length → ∃ vp vr vn, vals[j * 3]? = some vp ∧ vals[j * 3 + 1]? = some vr ∧ vals[j * 3 + 2]? = some vn ∧ SlR w (onat os j).ps vp ∧ OwnR 0 w vr (onat os j).rows ∧ OwnR 0 w vn (onat os j).nodes
theorem OwnF.nil (base : Nat) (w : World) : OwnF base w (.slice none 0 0) [] := ⟨[], World.ownsRow_nil _ _ _ _, fun j hj => by simp at hj⟩
theorem OwnF.keep {base : Nat} {w w' : World} {v : Value} {os : List OnZ} (h : OwnF base w v os) (e : Below w.heap.size w w') : OwnF base w' v os := by
  obtain ⟨vals, h1, h2⟩ := h
  refine ⟨vals, h1.kept (gb_of_below e) (by cases v.ownBlock with
    | none => exact .inl rfl
    | some k => exact .inr (by simp)), fun j hj => ?_⟩
  obtain ⟨vp, vr, vn, e1, e2, e3, e4, e5, e6⟩ := h2 j hj
  exact ⟨vp, vr, vn, e1, e2, e3, e4.keep e, e5.keep e, e6.keep e⟩
theorem OwnF.setF {base : Nat} {w : World} {O i : Nat} {v u : Value} {os : List OnZ} {x1 x2 x3 : Option Addr} {n1 n2 n3 c1 c2 c3 : Nat} (h : OwnF base w u os) (hO : w.heap[O]? = some (.cells #[.slice x1 n1 c1, .slice x2 n2 c2, .slice x3 n3 c3] 36 (0, 0))) : OwnF base (w.setCell ⟨O, i, none⟩ v) u os := by
  obtain ⟨vals, h1, h2⟩ := h
  refine ⟨vals, ⟨h1.1, ?_⟩, fun j hj => ?_⟩
  · rcases h1.2 with hn | ⟨g, cap, cur, rfl, hb, hg, rest⟩
    · exact .inl hn
    · refine .inr ⟨g, cap, cur, rfl, hb, (Below.heap_setCell _ _ _ _ ?_).trans hg, rest⟩
      rintro rfl
      rw [hO] at hg
      injection hg with hg
      injection hg with _ h3 _
      exact absurd h3 (by decide)
  · obtain ⟨vp, vr, vn, e1, e2, e3, e4, e5, e6⟩ := h2 j hj
    exact ⟨vp, vr, vn, e1, e2, e3, e4.setF hO, e5.setF hO, e6.setF hO⟩
theorem OwnF.lst {base : Nat} {w : World} {v : Value} {os : List OnZ} (h : OwnF base w v os) : ∃ a c, v = .slice a os.length c ∧ LstF w.heap.size w a c os := by
  obtain ⟨vals, h1, h2⟩ := h
  rcases h1.2 with ⟨rfl, h0⟩ | ⟨g, cap, cur, rfl, hb, hg, hn, hm, hs, ht⟩
  · exact ⟨none, 0, by rw [h0], fun k hk => by omega, by omega, fun _ => rfl⟩
  · refine ⟨some ⟨g, 0, none⟩, cap, rfl, fun k hk => ?_, hn, fun e => by cases e⟩
    obtain ⟨vp, vr, vn, e1, e2, e3, e4, e5, e6⟩ := h2 k hk
    obtain ⟨ap, cp, rfl, l1⟩ := e4.lst
    obtain ⟨ar, cr, rfl, l2⟩ := e5.lst
    obtain ⟨an', cn, rfl, l3⟩ := e6.lst
    have hc : ∀ j u, vals[j]? = some u → w.cell? ⟨g, 0 + j, none⟩ = some u := fun j u hu => by
      have := h1.cells (g := g) rfl j u hu
      have hadd : (⟨g, 0, none⟩ : Addr).add j = ⟨g, 0 + j, none⟩ := by unfold Addr.add; split <;> simp_all
      rw [hadd] at this
      exact this
    exact ⟨g, 0, ap, cp, ar, cr, an', cn, rfl, (Array.getElem?_eq_some_iff.1 hg).1, hc _ _ e1, by rw [Nat.add_assoc]; exact hc _ _ e2, by rw [Nat.add_assoc]; exact hc _ _ e3, l1, l2, l3⟩

end Go.Proofs.YtfppkjpgihnibaaGreatDoor

namespace Go.Proofs.YtfppkjpgihnibaaGreatDoor
open Go.RowKit

theorem thrF {W : World} {g : Nat} {a b c : Value} {t : TypeId} (h : W.heap[g]? = some (.cells #[a, b, c] t (0, 0))) (i : Nat) : W.frozen? ⟨g, i, none⟩ = false := by simp [World.frozen?, h]
theorem thr_row {W : World} {g : Nat} {a b c : Value} {t : TypeId} (h : W.heap[g]? = some (.cells #[a, b, c] t (0, 0))) : W.rowIs g t 3 (tri a b c) :=
  ⟨#[a, b, c], h, rfl, fun i hi => by
    have : i = 0 ∨ i = 1 ∨ i = 2 := by omega
    rcases this with rfl | rfl | rfl <;> rfl⟩

/-- what stands while a Folded is copied -/
structure FdI (B : Nat) (x1 x2 x3 v1 v2 v3 : Value) (w W : World) : Prop where
  bel : Below w.heap.size w W
  obx : W.heap[B]? = some (.cells #[x1, x2, x3] 36 (0, 0))
  res : W.heap[B + 1]? = some (.cells #[.slice none 0 0, .slice none 0 0, .slice none 0 0] 36 (0, 0))
  out : W.heap[B + 2]? = some (.cells #[v1, v2, v3] 36 (0, 0))
theorem FdI.step {B : Nat} {x1 x2 x3 v1 v2 v3 : Value} {w W W' : World} (h : FdI B x1 x2 x3 v1 v2 v3 w W) (e : Below W.heap.size W W') : FdI B x1 x2 x3 v1 v2 v3 w W' :=
  ⟨h.bel.trans (e.mono h.bel.size), (e.block _ (Array.getElem?_eq_some_iff.1 h.obx).1).trans h.obx, (e.block _ (Array.getElem?_eq_some_iff.1 h.res).1).trans h.res, (e.block _ (Array.getElem?_eq_some_iff.1 h.out).1).trans h.out⟩
theorem FdI.notO {B : Nat} {x1 x2 x3 v1 v2 v3 : Value} {w W W' : World} (h : FdI B x1 x2 x3 v1 v2 v3 w W) (hb : Below w.heap.size w W') (e : ∀ (b : Nat) (c : Array Value) (t : TypeId) (f : Nat × Nat), W.heap[b]? = some (.cells c t f) → t ≠ 107 → W'.heap[b]? = W.heap[b]?) : FdI B x1 x2 x3 v1 v2 v3 w W' :=
  ⟨hb, (e _ _ _ _ h.obx (by decide)).trans h.obx, (e _ _ _ _ h.res (by decide)).trans h.res, (e _ _ _ _ h.out (by decide)).trans h.out⟩
theorem FdI.put0 {B : Nat} {x1 x2 x3 v1 v2 v3 : Value} {w W : World} (h : FdI B x1 x2 x3 v1 v2 v3 w W) (hB : w.heap.size ≤ B) (v : Value) : FdI B x1 x2 x3 v v2 v3 w (W.setCell ⟨B + 2, 0, none⟩ v) :=
  ⟨h.bel.setCell (p := ⟨B + 2, 0, none⟩) (by show w.heap.size ≤ B + 2; omega) _, (Below.heap_setCell _ _ _ _ (by show B ≠ B + 2; omega)).trans h.obx, (Below.heap_setCell _ _ _ _ (by show B + 1 ≠ B + 2; omega)).trans h.res, tri_arr (tri_set0 (thr_row h.out) v)⟩
theorem FdI.put1 {B : Nat} {x1 x2 x3 v1 v2 v3 : Value} {w W : World} (h : FdI B x1 x2 x3 v1 v2 v3 w W) (hB : w.heap.size ≤ B) (v : Value) : FdI B x1 x2 x3 v1 v v3 w (W.setCell ⟨B + 2, 1, none⟩ v) :=
  ⟨h.bel.setCell (p := ⟨B + 2, 1, none⟩) (by show w.heap.size ≤ B + 2; omega) _, (Below.heap_setCell _ _ _ _ (by show B ≠ B + 2; omega)).trans h.obx, (Below.heap_setCell _ _ _ _ (by show B + 1 ≠ B + 2; omega)).trans h.res, tri_arr (tri_set1 (thr_row h.out) v)⟩
theorem FdI.put2 {B : Nat} {x1 x2 x3 v1 v2 v3 : Value} {w W : World} (h : FdI B x1 x2 x3 v1 v2 v3 w W) (hB : w.heap.size ≤ B) (v : Value) : FdI B x1 x2 x3 v1 v2 v w (W.setCell ⟨B + 2, 2, none⟩ v) :=
  ⟨h.bel.setCell (p := ⟨B + 2, 2, none⟩) (by show w.heap.size ≤ B + 2; omega) _, (Below.heap_setCell _ _ _ _ (by show B ≠ B + 2; omega)).trans h.obx, (Below.heap_setCell _ _ _ _ (by show B + 1 ≠ B + 2; omega)).trans h.res, tri_arr (tri_set2 (thr_row h.out) v)⟩

theorem onat_take {os : List OnZ} {k : Nat} (h : k < os.length) : os.take (k + 1) = os.take k ++ [onat os k] := by
  rw [List.take_add_one]
  simp [onat, h]

end Go.Proofs.YtfppkjpgihnibaaGreatDoor

namespace Go.Proofs.YtfppkjpgihnibaaGreatDoor
open Go.RowKit

/-- blocks of numbers and of lists stay -/
def KI (w w' : World) : Prop := w.heap.size ≤ w'.heap.size ∧ ∀ (b : Nat) (cs : Array Value) (t : TypeId) (f : Nat × Nat), w.heap[b]? = some (.cells cs t f) → (t = 3 ∨ t = 22) → w'.heap[b]? = w.heap[b]?
/-- and blocks of Openings -/
def KO (w w' : World) : Prop := KI w w' ∧ ∀ (b : Nat) (cs : Array Value) (f : Nat × Nat), w.heap[b]? = some (.cells cs 107 f) → w'.heap[b]? = w.heap[b]?
theorem KO.below {w w' : World} (e : Below w.heap.size w w') : KO w w' := ⟨⟨e.size, fun b _ _ _ h _ => e.block b (Array.getElem?_eq_some_iff.1 h).1⟩, fun b _ _ h => e.block b (Array.getElem?_eq_some_iff.1 h).1⟩
theorem KI.below {w w' : World} (e : Below w.heap.size w w') : KI w w' := (KO.below e).1
theorem KI.notO {w w' : World} (hs : w.heap.size ≤ w'.heap.size) (e : ∀ (b : Nat) (c : Array Value) (t : TypeId) (f : Nat × Nat), w.heap[b]? = some (.cells c t f) → t ≠ 107 → w'.heap[b]? = w.heap[b]?) : KI w w' :=
  ⟨hs, fun b cs t f h ht => e b cs t f h (by rcases ht with rfl | rfl <;> decide)⟩
/-- but one block, of another kind -/
theorem KI.oth {w w' : World} {O : Nat} {c : Array Value} {t : TypeId} {f : Nat × Nat} (hO : w.heap[O]? = some (.cells c t f)) (h1 : t ≠ 3) (h2 : t ≠ 22) (hs : w.heap.size ≤ w'.heap.size) (e : ∀ b, b < w.heap.size → b ≠ O → w'.heap[b]? = w.heap[b]?) : KI w w' :=
  ⟨hs, fun b cs t' f' h ht => e b (Array.getElem?_eq_some_iff.1 h).1 (by
    rintro rfl
    rw [hO] at h
    injection h with h
    injection h with _ h3 _
    subst h3
    rcases ht with ht | ht
    · exact h1 ht
    · exact h2 ht)⟩
theorem KO.oth {w w' : World} {O : Nat} {c : Array Value} {t : TypeId} {f : Nat × Nat} (hO : w.heap[O]? = some (.cells c t f)) (h1 : t ≠ 3) (h2 : t ≠ 22) (h3 : t ≠ 107) (hs : w.heap.size ≤ w'.heap.size) (e : ∀ b, b < w.heap.size → b ≠ O → w'.heap[b]? = w.heap[b]?) : KO w w' :=
  ⟨KI.oth hO h1 h2 hs e, fun b cs f' h => e b (Array.getElem?_eq_some_iff.1 h).1 (by
    rintro rfl
    rw [hO] at h
    injection h with h
    injection h with _ h4 _
    exact h3 h4)⟩
theorem KI.trans {a b c : World} (h : KI a b) (k : KI b c) : KI a c := ⟨Nat.le_trans h.1 k.1, fun g cs t f e ht => (k.2 g cs t f ((h.2 g cs t f e ht).trans e) ht).trans (h.2 g cs t f e ht)⟩
theorem KO.trans {a b c : World} (h : KO a b) (k : KO b c) : KO a c := ⟨h.1.trans k.1, fun g cs f e => (k.2 g cs f ((h.2 g cs f e).trans e)).trans (h.2 g cs f e)⟩

/-- a list in a block of numbers -/
def SlI (w : World) (r : List Int) (v : Value) : Prop := ∃ a c, v = .slice a r.length c ∧ NumL w a c r
theorem SlI.ki {w w' : World} {r : List Int} {v : Value} (h : SlI w r v) (k : KI w w') : SlI w' r v := by
  obtain ⟨a, c, h1, h2⟩ := h
  exact ⟨a, c, h1, h2.blocks k.1 (fun g cs f hg => k.2 g cs _ f hg (.inl rfl))⟩
theorem SlI.lst {w : World} {r : List Int} {v : Value} (h : SlI w r v) : ∃ a c, v = .slice a r.length c ∧ Lst w.heap.size w a c r := by obtain ⟨a, c, h1, h2, _⟩ := h; exact ⟨a, c, h1, h2⟩
theorem SlI.one {w : World} {r : List Int} {v : Value} (h : SlI w r v) : v.oneCell' = true := by obtain ⟨a, c, rfl, _⟩ := h; rfl
/-- rows -/
def OwnI (base : Nat) (w : World) (v : Value) (rs : List (List Int)) : Prop := ∃ vals : List Value, w.ownsRow base 22 1 v rs.length vals ∧ ∀ j, j < rs.length → ∃ u, vals[j]? = some u ∧ SlI w (rat rs j) u
theorem OwnI.ki {base : Nat} {w w' : World} {v : Value} {rs : List (List Int)} (h : OwnI base w v rs) (k : KI w w') : OwnI base w' v rs := by
  obtain ⟨vals, h1, h2⟩ := h
  refine ⟨vals, ⟨h1.1, ?_⟩, fun j hj => ?_⟩
  · rcases h1.2 with hn | ⟨g, cap, cur, rfl, hb, hg, rest⟩
    · exact .inl hn
    · exact .inr ⟨g, cap, cur, rfl, hb, (k.2 g _ _ _ hg (.inr rfl)).trans hg, rest⟩
  · obtain ⟨u, h3, h4⟩ := h2 j hj
    exact ⟨u, h3, h4.ki k⟩
theorem OwnI.nil (base : Nat) (w : World) : OwnI base w (.slice none 0 0) [] := ⟨[], World.ownsRow_nil _ _ _ _, fun j hj => by simp at hj⟩
theorem OwnI.mono {base base' : Nat} {w : World} {v : Value} {rs : List (List Int)} (h : OwnI base w v rs) (e : base' ≤ base) : OwnI base' w v rs := by
  obtain ⟨vals, h1, h2⟩ := h
  exact ⟨vals, World.ownsRow.mono h1 e, h2⟩
theorem OwnI.lst {base : Nat} {w : World} {v : Value} {rs : List (List Int)} (h : OwnI base w v rs) : ∃ a c, v = .slice a rs.length c ∧ LstR w.heap.size w a c rs := by
  obtain ⟨vals, h1, h2⟩ := h
  rcases h1.2 with ⟨rfl, h0⟩ | ⟨g, cap, cur, rfl, hb, hg, hn, hm, hs, ht⟩
  · exact ⟨none, 0, by rw [h0], fun k hk => by omega, by omega, fun _ => rfl⟩
  · refine ⟨some ⟨g, 0, none⟩, cap, rfl, fun k hk => ?_, hn, fun e => by cases e⟩
    obtain ⟨u, h3, h4⟩ := h2 k hk
    obtain ⟨a, c, rfl, hl⟩ := h4.lst
    refine ⟨g, 0, a, c, rfl, (Array.getElem?_eq_some_iff.1 hg).1, ?_, hl⟩
    rw [Nat.zero_add, h1.cellAt k (by omega), h3]
theorem OwnI.own {base : Nat} {w : World} {v : Value} {rs : List (List Int)} (h : OwnI base w v rs) : ∀ k, v.ownBlock = some k → base ≤ k ∧ ∃ c f, w.heap[k]? = some (.cells c 22 f) := fun k hk => by
  obtain ⟨vals, h1, _⟩ := h
  refine ⟨(h1.lt k hk).1, ?_⟩
  rcases h1.2 with ⟨rfl, _⟩ | ⟨g, cap, cur, rfl, hb, hg, _⟩
  · cases hk
  · cases hk
    exact ⟨_, _, hg⟩

/-- append(out, c) -/
theorem wpList_rowI {ops : Array Oper} {rest : List Oper} {o : Oper} {act : Act} {Q : Exit → Act → World → Prop} (W : World) (base : Nat) (hgd : o.guard = none) (s x : Operand)
    (ho : o.op = .call { callee := .builtin .append, args := #[s, x], argTypes := #[33, 33] }) (v u : Value) (rs : List (List Int)) (r : List Int)
    (hown : OwnI base W v rs) (hu : SlI W r u) (hs : act.eval s = v) (hx : act.eval x = .slice (some ⟨W.heap.size, 0, none⟩) 1 1) (hlen : rs.length + 1 ≤ 5864062014805) (hbase : base ≤ W.heap.size)
    (h : ∀ v' w2, OwnI base w2 v' (rs ++ [r]) → Below base W w2 → wpList Tryz.prog ops Q rest (act.put o.dst v') w2) :
    wpList Tryz.prog ops Q (o :: rest) act (W.alloc (.cells #[u] 22)) := by
  have hbw : Below W.heap.size W (W.alloc (.cells #[u] 22)) := (Below.refl _ _).alloc (Nat.le_refl _) _
  obtain ⟨i0, hi, hz0, hz1, hz2⟩ := info_parts Tryz.infoSl
  have hown1 := hown.ki (KI.below hbw)
  have hu1 := hu.ki (KI.below hbw)
  have howb := hown1.own
  obtain ⟨vals, h1, h2⟩ := hown1
  have hvl : vals.length = rs.length := by have := h1.1; omega
  refine wpList_append_own _ hgd s x 33 ho base 22 i0 (.slice none 0 0) 1 24 Tryz.underlying33 hi hz0 hz1 hz2 rfl (by decide) _ _ _ hs h1 ⟨W.heap.size, 0, none⟩ 1 1 [u] hx rfl ?_ ?_ (by unfold maxLen; omega) (by omega) (by simp; omega) ?_
  · intro j t hj
    match j, hj with
    | 0, hj => simp at hj; subst hj; simp [Addr.add]
  · intro t ht
    obtain rfl : t = u := by simpa using ht
    exact hu.one
  · intro v' w2 hown2 hgrow _
    have hK : ∀ (g : Nat) (cs : Array Value) (f : Nat × Nat), (W.alloc (.cells #[u] 22)).heap[g]? = some (.cells cs 3 f) → w2.heap[g]? = (W.alloc (.cells #[u] 22)).heap[g]? := fun g cs f hg => by
      refine hgrow.block g (Array.getElem?_eq_some_iff.1 hg).1 (fun e => ?_)
      obtain ⟨_, c, f', h3⟩ := howb g e.symm
      rw [hg] at h3
      injection h3 with h3
      injection h3 with _ h4 _
      exact absurd h4 (by decide)
    have hkS : ∀ {r : List Int} {v : Value}, SlI (W.alloc (.cells #[u] 22)) r v → SlI w2 r v := fun hh => by
      obtain ⟨a, c, e1, e2⟩ := hh
      exact ⟨a, c, e1, e2.blocks hgrow.size hK⟩
    refine h v' w2 ⟨vals ++ [u], by rw [List.length_append]; exact hown2, fun j hj => ?_⟩ ((hbw.mono hbase).trans ((Below.refl base _).grown hgrow (by simp; omega) (fun k hk => (howb k hk).1)))
    rw [List.length_append] at hj
    rw [rat_app rs [r] j]
    by_cases hjr : j < rs.length
    · rw [if_pos hjr, List.getElem?_append_left (by omega)]
      obtain ⟨u', e1, e2⟩ := h2 j hjr
      exact ⟨u', e1, hkS e2⟩
    · obtain rfl : j = rs.length := by simp at hj; omega
      rw [if_neg hjr, List.getElem?_append_right (by omega), hvl, Nat.sub_self]
      exact ⟨u, rfl, hkS hu1⟩

set_option maxRecDepth 100000 in
set_option maxHeartbeats 1000000 in
theorem copied_I (cap : Nat) (a : Option Addr) (rows : List (List Int)) (w : World) (hn : rows.length ≤ 5864062014805) (hf : ∀ k, k < rows.length → (rat rows k).length ≤ 17592186044416) (hl : LstR w.heap.size w a cap rows) :
    Calls Tryz.prog 20 #[.slice a rows.length cap] w fun e w' => ∃ v, e = .returned v ∧ OwnI w.heap.size w' v rows ∧ Below w.heap.size w w' := by
  have HL := hid hl
  have HF := hid hf
  clear hl hf
  go_enter Tryz.func20, Tryz.ntmps20
  go_wp2_with fail
  go_loopw [3, 4] (fun v iv wr => ∃ k : Nat, k ≤ rows.length ∧ iv = .int .i64 k ∧ Hid (OwnI w.heap.size wr v (rows.take k)) ∧ Hid (Below w.heap.size w wr))
    (fun _ iv _ => rows.length - (intOf iv).toNat)
  case atStart => exact ⟨0, Nat.zero_le _, rfl, by rw [List.take_zero]; exact OwnI.nil _ _, Below.refl _ _⟩
  case round =>
    obtain ⟨k, hk, rfl, hown, hbel⟩ := hrel
    by_cases hlt : k < rows.length
    · have hlt2 : (k : Int) < (rows.length : Int) := by omega
      have hkw : IntKind.i64.wrap ((k : Int) + 1) = (k : Int) + 1 := by rw [IntKind.wrap_i64]; omega
      obtain ⟨b, o, ak, ck, rfl, hb, hc, hlk⟩ := HL.out.row k hlt
      have hc2 := (hbel.out.cell (p := ⟨b, o + k, none⟩) hb).trans hc
      have hbw : b < wr.heap.size := Nat.lt_of_lt_of_le hb hbel.out.size
      have HLK := hid ((hlk.below hbel.out).mono hbel.out.size)
      have HFK := hid (HF.out k hlt)
      have HTK := hid (take_succ_rat hlt)
      have hkl : (rows.take k).length = k := by rw [List.length_take]; omega
      have HKL := hid hkl
      clear hc hlk hkl
      generalize rat rows k = r at *
      go_wp2_with (at_builtin; refine wpList_copyN wr wr.heap.size wr.heap.size rfl rfl _ _ rfl rfl ak ck r rfl HFK.out (Nat.le_refl _) HLK.out ?_)
      intro a2 c2 w2 hs2 hb2
      have HS2 : Hid (SlI w2 r (.slice a2 r.length c2)) := ⟨a2, c2, rfl, hs2⟩
      have HO2 := hid (hown.out.ki (KI.below hb2))
      have HB2 : Hid (Below w.heap.size w w2) := hbel.out.trans (hb2.mono hbel.out.size)
      clear hs2 hb2 hown hbel HLK
      go_wp2_with (at_builtin; refine wpList_rowI w2 w.heap.size rfl _ _ rfl _ _ (rows.take k) r HO2.out HS2.out rfl rfl (by rw [HKL.out]; omega) HB2.out.size ?_)
      intro v3 w3 ho3 hb3
      rw [← HTK.out] at ho3
      have HO3 := hid ho3
      have HB3 : Hid (Below w.heap.size w w3) := HB2.out.trans hb3
      clear ho3 hb3
      go_wp2_with fail
      go_roundw
      case rel => exact ⟨k + 1, by omega, by go_num, HO3, HB3⟩
      case measure => simp [intOf]; omega
    · obtain rfl : k = rows.length := by omega
      rw [List.take_length] at hown
      have HO := hid hown.out
      clear hown
      go_wp2_with fail
      go_ret
      exact ⟨_, rfl, HO.out, hbel.out⟩

end Go.Proofs.YtfppkjpgihnibaaGreatDoor

namespace Go.Proofs.YtfppkjpgihnibaaGreatDoor
open Go.RowKit

set_option maxRecDepth 100000 in
set_option maxHeartbeats 4000000 in
theorem opened_I (cp cr cn : Nat) (ap ar an' : Option Addr) (ps : List Int) (rows nodes : List (List Int)) (w : World) (hps : ps.length ≤ 17592186044416) (hnr : rows.length ≤ 5864062014805) (hnn : nodes.length ≤ 5864062014805) (hfr : ∀ k, k < rows.length → (rat rows k).length ≤ 17592186044416) (hfn : ∀ k, k < nodes.length → (rat nodes k).length ≤ 17592186044416)
    (hlp : Lst w.heap.size w ap cp ps) (hlr : LstR w.heap.size w ar cr rows) (hln : LstR w.heap.size w an' cn nodes) :
    Calls Tryz.prog 54 #[.agg #[.slice ap ps.length cp, .slice ar rows.length cr, .slice an' nodes.length cn]] w fun e w' =>
      ∃ vp vr vn, e = .returned (.agg #[vp, vr, vn]) ∧ SlI w' ps vp ∧ OwnI w.heap.size w' vr rows ∧ OwnI w.heap.size w' vn nodes ∧ Below w.heap.size w w' := by
  have HCR : Hid (∀ W, Below w.heap.size w W → Calls Tryz.prog 20 #[.slice ar rows.length cr] W fun e w' => ∃ v, e = .returned v ∧ OwnI W.heap.size w' v rows ∧ Below W.heap.size W w') := fun W h => copied_I cr ar rows W hnr hfr ((hlr.below h).mono h.size)
  have HCN : Hid (∀ W, Below w.heap.size w W → Calls Tryz.prog 20 #[.slice an' nodes.length cn] W fun e w' => ∃ v, e = .returned v ∧ OwnI W.heap.size w' v nodes ∧ Below W.heap.size W w') := fun W h => copied_I cn an' nodes W hnn hfn ((hln.below h).mono h.size)
  have HLP := hid hlp
  clear hlp hlr hln hfr hfn
  go_enter Tryz.func54, Tryz.ntmps54
  have HP0 := hid (tri_new w 107 (.slice ap ps.length cp) (.slice ar rows.length cr) (.slice an' nodes.length cn))
  have hs0 : (w.alloc (.cells #[.slice ap ps.length cp, .slice ar rows.length cr, .slice an' nodes.length cn] 107)).heap.size = w.heap.size + 1 := by simp
  have HR0 := hid (tri_new (w.alloc (.cells #[.slice ap ps.length cp, .slice ar rows.length cr, .slice an' nodes.length cn] 107)) 107 (.slice none 0 0) (.slice none 0 0) (.slice none 0 0))
  rw [hs0] at HR0
  have HPP := hid (HP0.out.alloc (.cells #[.slice none 0 0, .slice none 0 0, .slice none 0 0] 107))
  have HB0 : Hid (Below w.heap.size w ((w.alloc (.cells #[.slice ap ps.length cp, .slice ar rows.length cr, .slice an' nodes.length cn] 107)).alloc (.cells #[.slice none 0 0, .slice none 0 0, .slice none 0 0] 107))) := ((Below.refl _ _).alloc (Nat.le_refl _) _).alloc (by simp) _
  have HSZ : Hid (((w.alloc (.cells #[.slice ap ps.length cp, .slice ar rows.length cr, .slice an' nodes.length cn] 107)).alloc (.cells #[.slice none 0 0, .slice none 0 0, .slice none 0 0] 107)).heap.size = w.heap.size + 1 + 1) := by unfold Hid; simp
  have HL0 := hid ((HLP.out.below HB0.out).mono HB0.out.size)
  clear hs0 HP0 HLP
  go_wp2_with (at_builtin; refine wpList_copyN ((w.alloc (.cells #[.slice ap ps.length cp, .slice ar rows.length cr, .slice an' nodes.length cn] 107)).alloc (.cells #[.slice none 0 0, .slice none 0 0, .slice none 0 0] 107)) _ (w.heap.size + 1 + 1) HSZ.out rfl _ _ rfl rfl ap cp ps rfl hps (Nat.le_refl _) HL0.out ?_)
  intro a2 c2 w1 hs1 hb1
  clear HL0
  generalize (w.alloc (.cells #[.slice ap ps.length cp, .slice ar rows.length cr, .slice an' nodes.length cn] 107)).alloc (.cells #[.slice none 0 0, .slice none 0 0, .slice none 0 0] 107) = W0 at *
  have hP1 := HPP.out.of_block (hb1.block _ (by omega))
  have hR1 := HR0.out.of_block (hb1.block _ (by omega))
  have HB1 : Hid (Below w.heap.size w w1) := HB0.out.trans (hb1.mono (by omega))
  have HS1 : Hid (SlI w1 ps (.slice a2 ps.length c2)) := ⟨a2, c2, rfl, hs1⟩
  have HR1 := hid hR1
  have HP1 := hid hP1
  have x1 := hP1.cell (i := 1) (by omega)
  simp only [tri] at x1
  clear hs1 hb1 hP1 hR1 HPP HR0 HSZ HB0
  go_wp2_with fail
  refine (HCR.out _ HB1.out).mono ?_
  rintro e w2 ⟨vr, rfl, ho2, hb2⟩
  have HB2 : Hid (Below w.heap.size w w2) := HB1.out.trans (hb2.mono HB1.out.size)
  have HS2 := hid (HS1.out.ki (KI.below hb2))
  have HO2 := hid (ho2.mono HB1.out.size)
  have HR2 := hid (HR1.out.of_block (hb2.block _ HR1.out.lt))
  have hP2 := HP1.out.of_block (hb2.block _ HP1.out.lt)
  have x2 := hP2.cell (i := 2) (by omega)
  simp only [tri] at x2
  obtain ⟨a3, c3, hv3, _⟩ := ho2.lst
  subst hv3
  clear ho2 hb2 hP2 x1 HS1 HB1 HR1 HP1 HCR
  go_wp2_with fail
  refine (HCN.out _ HB2.out).mono ?_
  rintro e w3 ⟨vn, rfl, ho3, hb3⟩
  obtain ⟨a4, c4, hv4, _⟩ := ho3.lst
  subst hv4
  have HB3 : Hid (Below w.heap.size w w3) := HB2.out.trans (hb3.mono HB2.out.size)
  have HX : Hid (SlI w3 ps (.slice a2 ps.length c2) ∧ OwnI w.heap.size w3 (.slice a3 rows.length c3) rows ∧ OwnI w.heap.size w3 (.slice a4 nodes.length c4) nodes) := ⟨HS2.out.ki (KI.below hb3), HO2.out.ki (KI.below hb3), ho3.mono HB2.out.size⟩
  have HRR : Hid (w3.heap[w.heap.size + 1]? = some (.cells #[.slice none 0 0, .slice none 0 0, .slice none 0 0] 107 (0, 0))) := tri_arr (HR2.out.of_block (hb3.block _ HR2.out.lt))
  clear ho3 hb3 x2 HS2 HB2 HR2 HO2 HCN
  go_wp2_with (refine wpList_store_row rfl 107 _ _ rfl (w.heap.size + 1) #[.slice a2 ps.length c2, .slice a3 rows.length c3, .slice a4 nodes.length c4] rfl rfl _ _ HRR.out (by kernel_rfl) rfl (by simp [Value.oneCell']) ?_)
  refine bodyPost_ret (results_cell_row rfl _ _ (w.heap.size + 1) 107 #[.slice a2 ps.length c2, .slice a3 rows.length c3, .slice a4 nodes.length c4] (0, 0) _ rfl (setRow_heap _ _ _ _ _ _ HRR.out) Tryz.underlying107 rfl (by kernel_rfl)) rfl ?_
  have hK : KI w3 (w3.setRow (w.heap.size + 1) #[.slice a2 ps.length c2, .slice a3 rows.length c3, .slice a4 nodes.length c4]) := KI.oth HRR.out (by decide) (by decide) (by simp) (fun b _ hb => setRow_other _ _ _ _ hb)
  exact ⟨_, _, _, rfl, HX.out.1.ki hK, HX.out.2.1.ki hK, HX.out.2.2.ki hK, below_setRow HB3.out (by omega) _⟩


/-- Openings of the call's own -/
def OwnK (base : Nat) (w : World) (v : Value) (os : List OnZ) : Prop := ∃ vals : List Value, w.ownsRow base 107 3 v os.length vals ∧ ∀ j, j < os.length → ∃ vp vr vn, vals[j * 3]? = some vp ∧ vals[j * 3 + 1]? = some vr ∧ vals[j * 3 + 2]? = some vn ∧ SlI w (onat os j).ps vp ∧ OwnI 0 w vr (onat os j).rows ∧ OwnI 0 w vn (onat os j).nodes
theorem OwnK.nil (base : Nat) (w : World) : OwnK base w (.slice none 0 0) [] := ⟨[], World.ownsRow_nil _ _ _ _, fun j hj => by simp at hj⟩
theorem OwnK.ko {base : Nat} {w w' : World} {v : Value} {os : List OnZ} (h : OwnK base w v os) (k : KO w w') : OwnK base w' v os := by
  obtain ⟨vals, h1, h2⟩ := h
  refine ⟨vals, ⟨h1.1, ?_⟩, fun j hj => ?_⟩
  · rcases h1.2 with hn | ⟨g, cap, cur, rfl, hb, hg, rest⟩
    · exact .inl hn
    · exact .inr ⟨g, cap, cur, rfl, hb, (k.2 g _ _ hg).trans hg, rest⟩
  · obtain ⟨vp, vr, vn, e1, e2, e3, e4, e5, e6⟩ := h2 j hj
    exact ⟨vp, vr, vn, e1, e2, e3, e4.ki k.1, e5.ki k.1, e6.ki k.1⟩
theorem OwnK.lst {base : Nat} {w : World} {v : Value} {os : List OnZ} (h : OwnK base w v os) : ∃ a c, v = .slice a os.length c ∧ LstF w.heap.size w a c os := by
  obtain ⟨vals, h1, h2⟩ := h
  rcases h1.2 with ⟨rfl, h0⟩ | ⟨g, cap, cur, rfl, hb, hg, hn, hm, hs, ht⟩
  · exact ⟨none, 0, by rw [h0], fun k hk => by omega, by omega, fun _ => rfl⟩
  · refine ⟨some ⟨g, 0, none⟩, cap, rfl, fun k hk => ?_, hn, fun e => by cases e⟩
    obtain ⟨vp, vr, vn, e1, e2, e3, e4, e5, e6⟩ := h2 k hk
    obtain ⟨ap, cp, rfl, l1⟩ := e4.lst
    obtain ⟨ar, cr, rfl, l2⟩ := e5.lst
    obtain ⟨an', cn, rfl, l3⟩ := e6.lst
    have hc : ∀ j u, vals[j]? = some u → w.cell? ⟨g, 0 + j, none⟩ = some u := fun j u hu => by
      have := h1.cells (g := g) rfl j u hu
      have hadd : (⟨g, 0, none⟩ : Addr).add j = ⟨g, 0 + j, none⟩ := by unfold Addr.add; split <;> simp_all
      rw [hadd] at this
      exact this
    exact ⟨g, 0, ap, cp, ar, cr, an', cn, rfl, (Array.getElem?_eq_some_iff.1 hg).1, hc _ _ e1, by rw [Nat.add_assoc]; exact hc _ _ e2, by rw [Nat.add_assoc]; exact hc _ _ e3, l1, l2, l3⟩

theorem OwnK.mono {base base' : Nat} {w : World} {v : Value} {os : List OnZ} (h : OwnK base w v os) (e : base' ≤ base) : OwnK base' w v os := by
  obtain ⟨vals, h1, h2⟩ := h
  exact ⟨vals, World.ownsRow.mono h1 e, h2⟩

/-- append(out.Opens, x) -/
theorem wpList_onI {ops : Array Oper} {rest : List Oper} {o : Oper} {act : Act} {Q : Exit → Act → World → Prop} (W : World) (base : Nat) (hgd : o.guard = none) (s x : Operand)
    (ho : o.op = .call { callee := .builtin .append, args := #[s, x], argTypes := #[34, 34] }) (v vp vr vn : Value) (os : List OnZ) (z : OnZ)
    (hown : OwnK base W v os) (h1 : SlI W z.ps vp) (h2 : OwnI 0 W vr z.rows) (h3 : OwnI 0 W vn z.nodes) (hs : act.eval s = v) (hx : act.eval x = .slice (some ⟨W.heap.size, 0, none⟩) 1 1) (hlen : (os.length + 1) * 72 ≤ 140737488355328) (hbase : base ≤ W.heap.size)
    (h : ∀ v' w2, OwnK base w2 v' (os ++ [z]) → Below base W w2 → W.heap.size ≤ w2.heap.size → (∀ (b : Nat) (c : Array Value) (t : TypeId) (f : Nat × Nat), W.heap[b]? = some (.cells c t f) → t ≠ 107 → w2.heap[b]? = W.heap[b]?) → wpList Tryz.prog ops Q rest (act.put o.dst v') w2) :
    wpList Tryz.prog ops Q (o :: rest) act (W.alloc (.cells #[vp, vr, vn] 107)) := by
  obtain ⟨i0, hi, hz0, hz1, hz2⟩ := info_parts Tryz.infoOn
  have hbw : Below W.heap.size W (W.alloc (.cells #[vp, vr, vn] 107)) := (Below.refl _ _).alloc (Nat.le_refl _) _
  obtain ⟨vals, g1, g2⟩ := hown.ko (KO.below hbw)
  have hvl := g1.1
  refine wpList_append_own _ hgd s x 34 ho base 107 i0 _ 3 72 Tryz.underlying34 hi hz0 hz1 hz2 rfl (by decide) v _ _ hs g1 ⟨W.heap.size, 0, none⟩ 1 1 [vp, vr, vn] hx rfl ?_ ?_ (by unfold maxLen; omega) hlen (by simp; omega) ?_
  · intro j u hj
    match j, hj with
    | 0, hj => simp at hj; subst hj; simp [Addr.add]
    | 1, hj => simp at hj; subst hj; simp [Addr.add]
    | 2, hj => simp at hj; subst hj; simp [Addr.add]
  · intro u hu
    simp at hu
    rcases hu with rfl | rfl | rfl
    · exact h1.one
    · obtain ⟨a, c, rfl, _⟩ := h2.lst; rfl
    · obtain ⟨a, c, rfl, _⟩ := h3.lst; rfl
  · intro v' w2 hown2 hgrow _
    have hsz : W.heap.size ≤ w2.heap.size := by have := hgrow.size; simp at this; omega
    have hns : ∀ (b : Nat) (c : Array Value) (t : TypeId) (f : Nat × Nat), (W.alloc (.cells #[vp, vr, vn] 107)).heap[b]? = some (.cells c t f) → t ≠ 107 → w2.heap[b]? = (W.alloc (.cells #[vp, vr, vn] 107)).heap[b]? := fun b c t f hb ht => by
      refine hgrow.block b (Array.getElem?_eq_some_iff.1 hb).1 (fun e => ?_)
      rcases g1.2 with ⟨rfl, _⟩ | ⟨g, cap, cur, rfl, _, hg, _⟩
      · cases e
      · simp [Value.ownBlock] at e
        subst e
        rw [hb] at hg
        injection hg with hg
        injection hg with _ h5 _
        exact ht h5
    have hszw : (W.alloc (.cells #[vp, vr, vn] 107)).heap.size ≤ w2.heap.size := hgrow.size
    have hKI := KI.notO hszw hns
    refine h v' w2 ⟨vals ++ [vp, vr, vn], by rw [List.length_append]; exact hown2, fun j hj => ?_⟩ ((hbw.mono hbase).trans ((Below.refl base _).grown hgrow (by simp; omega) (fun k hk => (g1.lt k hk).1))) hsz (fun b c t f hb ht => ?_)
    · rw [List.length_append] at hj
      by_cases hjr : j < os.length
      · obtain ⟨up, ur, un, e1, e2, e3, e4, e5, e6⟩ := g2 j hjr
        have hon : onat (os ++ [z]) j = onat os j := by simp [onat, List.getElem?_append_left hjr]
        rw [hon]
        exact ⟨up, ur, un, by rw [List.getElem?_append_left (by omega)]; exact e1, by rw [List.getElem?_append_left (by omega)]; exact e2, by rw [List.getElem?_append_left (by omega)]; exact e3, e4.ki hKI, e5.ki hKI, e6.ki hKI⟩
      · obtain rfl : j = os.length := by simp at hj; omega
        have hon : onat (os ++ [z]) os.length = z := by simp [onat]
        rw [hon]
        refine ⟨vp, vr, vn, ?_, ?_, ?_, (h1.ki (KI.below hbw)).ki hKI, (h2.ki (KI.below hbw)).ki hKI, (h3.ki (KI.below hbw)).ki hKI⟩
        · rw [List.getElem?_append_right (by omega), hvl, Nat.sub_self]; rfl
        · rw [List.getElem?_append_right (by omega), hvl, show os.length * 3 + 1 - os.length * 3 = 1 from by omega]; rfl
        · rw [List.getElem?_append_right (by omega), hvl, show os.length * 3 + 2 - os.length * 3 = 2 from by omega]; rfl
    · have e := hbw.block b (Array.getElem?_eq_some_iff.1 hb).1
      exact (hns b c t f (e.trans hb) ht).trans e


/-- a store into a Folded -/
theorem KO.setF {w : World} {O : Nat} {c : Array Value} (hO : w.heap[O]? = some (.cells c 36 (0, 0))) (i : Nat) (v : Value) : KO w (w.setCell ⟨O, i, none⟩ v) :=
  KO.oth hO (by decide) (by decide) (by decide) (by simp [World.setCell]) (fun b _ hb => Below.heap_setCell _ _ _ _ hb)
theorem KI.setF {w : World} {O : Nat} {c : Array Value} (hO : w.heap[O]? = some (.cells c 36 (0, 0))) (i : Nat) (v : Value) : KI w (w.setCell ⟨O, i, none⟩ v) := (KO.setF hO i v).1

set_option maxRecDepth 100000 in
set_option maxHeartbeats 4000000 in
theorem foldeds_I (c1 c2 c3 : Nat) (a1 a2 a3 : Option Addr) (roots : List (List Int)) (last : List Int) (os : List OnZ) (w : World) (hr : roots.length ≤ 5864062014805) (hrr : ∀ k, k < roots.length → (rat roots k).length ≤ 17592186044416) (hl : last.length ≤ 17592186044416) (ho : os.length * 72 ≤ 140737488355328)
    (hoo : ∀ k, k < os.length → (onat os k).ps.length ≤ 17592186044416 ∧ (onat os k).rows.length ≤ 5864062014805 ∧ (onat os k).nodes.length ≤ 5864062014805 ∧ (∀ j, j < (onat os k).rows.length → (rat (onat os k).rows j).length ≤ 17592186044416) ∧ (∀ j, j < (onat os k).nodes.length → (rat (onat os k).nodes j).length ≤ 17592186044416))
    (x1 : LstR w.heap.size w a1 c1 roots) (x2 : Lst w.heap.size w a2 c2 last) (x3 : LstF w.heap.size w a3 c3 os) :
    Calls Tryz.prog 16 #[.agg #[.slice a1 roots.length c1, .slice a2 last.length c2, .slice a3 os.length c3]] w fun e w' => ∃ b1 d1 b2 d2 b3 d3, e = .returned (.agg #[.slice b1 roots.length d1, .slice b2 last.length d2, .slice b3 os.length d3]) ∧ OwnI 0 w' (.slice b1 roots.length d1) roots ∧ NumL w' b2 d2 last ∧ OwnK 0 w' (.slice b3 os.length d3) os ∧ Below w.heap.size w w' := by
  have HCR : Hid (∀ W, Below w.heap.size w W → Calls Tryz.prog 20 #[.slice a1 roots.length c1] W fun e w' => ∃ v, e = .returned v ∧ OwnI W.heap.size w' v roots ∧ Below W.heap.size W w') := fun W h => copied_I c1 a1 roots W hr hrr ((x1.below h).mono h.size)
  have HX2 := hid x2
  have HX3 := hid x3
  have HOO := hid hoo
  obtain ⟨rl, hrl⟩ : ∃ rl, rl = roots.length := ⟨_, rfl⟩
  obtain ⟨ll, hll⟩ : ∃ ll, ll = last.length := ⟨_, rfl⟩
  obtain ⟨ol, hol⟩ : ∃ ol, ol = os.length := ⟨_, rfl⟩
  have HRL := hid hrl
  have HLL := hid hll
  have HOL := hid hol
  rw [← hrl] at HCR
  rw [← hol] at ho
  rw [← hrl, ← hll, ← hol]
  obtain ⟨W0, hW0⟩ : ∃ W0, W0 = ((w.alloc (.cells #[.slice a1 rl c1, .slice a2 ll c2, .slice a3 ol c3] 36)).alloc (.cells #[.slice none 0 0, .slice none 0 0, .slice none 0 0] 36)).alloc (.cells #[.slice none 0 0, .slice none 0 0, .slice none 0 0] 36) := ⟨_, rfl⟩
  have HF0 : Hid (FdI w.heap.size (.slice a1 rl c1) (.slice a2 ll c2) (.slice a3 ol c3) (.slice none 0 0) (.slice none 0 0) (.slice none 0 0) w W0) := by
    obtain ⟨V1, hV1⟩ : ∃ V1, V1 = w.alloc (.cells #[.slice a1 rl c1, .slice a2 ll c2, .slice a3 ol c3] 36) := ⟨_, rfl⟩
    obtain ⟨V2, hV2⟩ : ∃ V2, V2 = V1.alloc (.cells #[.slice none 0 0, .slice none 0 0, .slice none 0 0] 36) := ⟨_, rfl⟩
    rw [← hV1, ← hV2] at hW0
    have z1 : V1.heap.size = w.heap.size + 1 := by rw [hV1]; simp
    have z2 : V2.heap.size = w.heap.size + 2 := by rw [hV2]; simp [z1]
    have b1 : Below w.heap.size w V1 := by rw [hV1]; exact (Below.refl _ _).alloc (Nat.le_refl _) _
    have b2 : Below V1.heap.size V1 V2 := by rw [hV2]; exact (Below.refl _ _).alloc (Nat.le_refl _) _
    have b3 : Below V2.heap.size V2 W0 := by rw [hW0]; exact (Below.refl _ _).alloc (Nat.le_refl _) _
    have g1 : V1.heap[w.heap.size]? = some (.cells #[.slice a1 rl c1, .slice a2 ll c2, .slice a3 ol c3] 36 (0, 0)) := by rw [hV1]; exact heap_alloc_new w _
    have g2 : V2.heap[w.heap.size + 1]? = some (.cells #[.slice none 0 0, .slice none 0 0, .slice none 0 0] 36 (0, 0)) := by rw [← z1, hV2]; exact heap_alloc_new V1 _
    have g3 : W0.heap[w.heap.size + 2]? = some (.cells #[.slice none 0 0, .slice none 0 0, .slice none 0 0] 36 (0, 0)) := by rw [← z2, hW0]; exact heap_alloc_new V2 _
    exact ⟨(b1.trans (b2.mono b1.size)).trans (b3.mono (by omega)), (b3.block _ (by omega)).trans ((b2.block _ (by omega)).trans g1), (b3.block _ (by omega)).trans g2, g3⟩
  have HC0 := hid (HCR.out W0 HF0.out.bel)
  rw [hW0] at HC0
  clear x1 x2 x3 hoo hrl hll hol hr hrr HCR
  go_enter Tryz.func16, Tryz.ntmps16
  go_wp2_with fail
  refine HC0.out.mono ?_
  rintro e w1 ⟨v1, rfl, ho1, hb1⟩
  rw [← hW0] at ho1 hb1
  obtain ⟨e1, f1, hv1, _⟩ := ho1.lst
  rw [← HRL.out] at hv1
  subst hv1
  obtain ⟨B, hB⟩ : ∃ B, B = w.heap.size := ⟨_, rfl⟩
  have HBE : Hid (w.heap.size = B) := hB.symm
  have HBB : Hid (w.heap.size ≤ B) := by rw [hB]; exact Nat.le_refl _
  rw [← hB] at HF0
  have HF1 := hid (HF0.out.step hb1)
  have HO1 := hid ho1
  rw [show w.heap.size + 1 + 1 = w.heap.size + 2 from rfl]
  simp only [HBE.out]
  clear hB ho1 hb1 HC0 HF0 hW0
  have k0 := thr0 HF1.out.out
  have y0 := thrF HF1.out.out 0
  have HF2 := hid (HF1.out.put0 HBB.out (.slice e1 rl f1))
  have HO2 := hid (HO1.out.ki (KI.setF HF1.out.out 0 (.slice e1 rl f1)))
  have o1 := thr1 HF2.out.obx
  have hL2 := (HX2.out.below HF2.out.bel).mono HF2.out.bel.size
  have o1w := thr1 HF1.out.obx
  have hbe : ¬ B + 2 = B := by omega
  rw [HLL.out] at o1 o1w ⊢
  have o1a : ((w1.setCell ⟨B + 2, 0, none⟩ (.slice e1 rl f1)).alloc (.cells #[] 3)).cell? ⟨B, 1, none⟩ = some (.slice a2 last.length c2) := (((Below.refl (w1.setCell ⟨B + 2, 0, none⟩ (.slice e1 rl f1)).heap.size _).alloc (Nat.le_refl _) _).cell (p := ⟨B, 1, none⟩) (World.block_lt_of_cell? _ _ o1)).trans o1
  have hbl : B < w1.heap.size := World.block_lt_of_cell? _ _ o1w
  have hbn : ¬ w1.heap.size = B := by omega
  have hbn2 : ¬ B = w1.heap.size := by omega
  go_wp2_with (at_builtin; refine wpList_copyN (w1.setCell ⟨B + 2, 0, none⟩ (.slice e1 rl f1)) _ w1.heap.size (by simp [World.setCell]) rfl _ _ rfl rfl a2 c2 last rfl hl (Nat.le_refl _) hL2 ?_)
  intro e2 f2 w3 hn3 hb3
  have hs3 : SlI w3 last (.slice e2 last.length f2) := ⟨e2, f2, rfl, hn3⟩
  have hz2 : (w1.setCell ⟨B + 2, 0, none⟩ (.slice e1 rl f1)).heap.size = w1.heap.size := by simp [World.setCell]
  have hb3' : Below (w1.setCell ⟨B + 2, 0, none⟩ (.slice e1 rl f1)).heap.size (w1.setCell ⟨B + 2, 0, none⟩ (.slice e1 rl f1)) w3 := by rw [hz2]; simpa using hb3
  have HF3 := hid (HF2.out.step hb3')
  have HO3 := hid (HO2.out.ki (KI.below hb3'))
  have HF4 := hid (HF3.out.put1 HBB.out (.slice e2 last.length f2))
  have HO4 := hid (HO3.out.ki (KI.setF HF3.out.out 1 (.slice e2 last.length f2)))
  have HS4 := hid (hs3.ki (KI.setF HF3.out.out 1 (.slice e2 last.length f2)))
  have k1 := thr1 HF3.out.out
  have y1 := thrF HF3.out.out 1
  clear hs3 hn3 hb3 hb3' hz2 HF2 HO2 HF1 HO1 k0 y0 o1 o1w o1a hbn hbn2 hL2 HO3
  go_wp2_with fail
  clear k1 y1 HF3
  generalize w3.setCell ⟨B + 2, 1, none⟩ (.slice e2 last.length f2) = W4 at *
  go_loopw [4] (fun iv wr => ∃ (k f3 : Nat) (e3 : Option Addr), k ≤ ol ∧ iv = .int .i64 k ∧ Hid (FdI B (.slice a1 rl c1) (.slice a2 last.length c2) (.slice a3 ol c3) (.slice e1 rl f1) (.slice e2 last.length f2) (.slice e3 k f3) w wr ∧ OwnI W0.heap.size wr (.slice e1 rl f1) roots ∧ SlI wr last (.slice e2 last.length f2) ∧ OwnK W4.heap.size wr (.slice e3 k f3) (os.take k) ∧ W4.heap.size ≤ wr.heap.size)) (fun iv _ => ol - (intOf iv).toNat)
  case atStart => exact ⟨0, 0, none, by omega, rfl, by rw [← HLL.out] at *; exact HF4.out, HO4.out, HS4.out, by rw [List.take_zero]; exact OwnK.nil _ _, Nat.le_refl _⟩
  case round =>
    obtain ⟨k, f3, e3, hk, rfl, hI⟩ := hrel
    obtain ⟨hFD, hOR, hSL, hOF, hSZ⟩ := hI.out
    have o2 := thr2 hFD.obx
    by_cases hlt : k < ol
    · have hlt2 : (k : Int) < (ol : Int) := by omega
      have hks : IntKind.i64.wrap ((k : Int) + 1) = (k : Int) + 1 := by rw [IntKind.wrap_i64]; omega
      have hko : k < os.length := by rw [← HOL.out]; exact hlt
      obtain ⟨bx, ox, p1, q1, p2, q2, p3, q3, hae, hbx, g1, g2, g3, g4, g5, g6⟩ := HX3.out.row k hko
      subst hae
      have hbw := hFD.bel
      have x1 := (hbw.cell (p := ⟨bx, ox + k * 3, none⟩) hbx).trans g1
      have x2 := (hbw.cell (p := ⟨bx, ox + k * 3 + 1, none⟩) hbx).trans g2
      have x3 := (hbw.cell (p := ⟨bx, ox + k * 3 + 2, none⟩) hbx).trans g3
      obtain ⟨z1, z2, z3, z4, z5⟩ := HOO.out k hko
      have HOP := hid (opened_I q1 q2 q3 p1 p2 p3 (onat os k).ps (onat os k).rows (onat os k).nodes wr z1 z2 z3 z4 z5 ((g4.below hbw).mono hbw.size) ((g5.below hbw).mono hbw.size) ((g6.below hbw).mono hbw.size))
      have HTK := hid (onat_take hko)
      have HTL : Hid ((os.take k).length = k) := by unfold Hid; rw [List.length_take, ← HOL.out]; omega
      have HII := hI
      generalize (onat os k).ps.length = l1 at *
      generalize (onat os k).rows.length = l2 at *
      generalize (onat os k).nodes.length = l3 at *
      clear hI hFD hOR hSL hOF g1 g2 g3 g4 g5 g6 z1 z2 z3 z4 z5 hbw
      go_wp2_with fail
      refine HOP.out.mono ?_
      rintro e w5 ⟨vp, vr, vn, rfl, s5, r5, n5, hb5⟩
      have hba : Below w5.heap.size w5 (w5.alloc (.cells #[vp, vr, vn] 107)) := (Below.refl _ _).alloc (Nat.le_refl _) _
      have hb6 : Below wr.heap.size wr (w5.alloc (.cells #[vp, vr, vn] 107)) := hb5.trans (hba.mono hb5.size)
      have HF6 := hid (HII.out.1.step hb6)
      have HO6 := hid (HII.out.2.1.ki (KI.below hb6))
      have HS6 := hid (HII.out.2.2.1.ki (KI.below hb6))
      have HW6 := hid (HII.out.2.2.2.1.ko (KO.below hb6))
      have hS6 := s5.ki (KI.below hba)
      have hR6 := (r5.ki (KI.below hba)).mono (Nat.zero_le _)
      have hN6 := (n5.ki (KI.below hba)).mono (Nat.zero_le _)
      have hz6 : W4.heap.size ≤ (w5.alloc (.cells #[vp, vr, vn] 107)).heap.size := Nat.le_trans hSZ hb6.size
      have hx6 : (w5.alloc (.cells #[vp, vr, vn] 107)).heap.size = w5.heap.size + 1 := by simp
      have m2 := thr2 HF6.out.out
      obtain ⟨ap, cp, hvp, _⟩ := s5.lst
      obtain ⟨ar, cr, hvr, _⟩ := r5.lst
      obtain ⟨an', cn, hvn, _⟩ := n5.lst
      subst hvp
      subst hvr
      subst hvn
      clear s5 r5 n5 hb5 hba hb6 HOP x1 x2 x3 o2 HII
      go_wp2_with (at_builtin; refine wpList_onI (w5.alloc (.cells #[_, _, _] 107)) W4.heap.size rfl _ _ rfl _ _ _ _ (os.take k) (onat os k) HW6.out hS6 hR6 hN6 rfl (by rw [hx6]; rfl) (by rw [HTL.out]; omega) hz6 ?_)
      intro v7 w7 ho7 hb7 hs7 hn7
      replace hn7 : ∀ (b : Nat) (c : Array Value) (t : TypeId) (f : Nat × Nat), (w5.alloc (.cells #[.slice ap (onat os k).ps.length cp, .slice ar (onat os k).rows.length cr, .slice an' (onat os k).nodes.length cn] 107)).heap[b]? = some (.cells c t f) → t ≠ 107 → w7.heap[b]? = (w5.alloc (.cells #[.slice ap (onat os k).ps.length cp, .slice ar (onat os k).rows.length cr, .slice an' (onat os k).nodes.length cn] 107)).heap[b]? := fun b c t f h1 h2 => hn7 b c t f.1 f.2 h1 h2
      replace hs7 : (w5.alloc (.cells #[.slice ap (onat os k).ps.length cp, .slice ar (onat os k).rows.length cr, .slice an' (onat os k).nodes.length cn] 107)).heap.size ≤ w7.heap.size := by rw [hx6]; exact hs7
      obtain ⟨e7, f7, hv7, _⟩ := ho7.lst
      rw [show (os.take k ++ [onat os k]).length = k + 1 from by rw [List.length_append, HTL.out]; rfl] at hv7
      subst hv7
      have hb7w : Below w.heap.size w w7 := HF6.out.bel.trans (hb7.mono HF4.out.bel.size)
      have HF7 := hid (HF6.out.notO hb7w hn7)
      have HO7 := hid (HO6.out.ki (KI.notO hs7 hn7))
      have HS7 := hid (HS6.out.ki (KI.notO hs7 hn7))
      have HE1 := hid (HF7.out.put2 HBB.out (.slice e7 (k + 1) f7))
      have HE2 := hid (HO7.out.ki (KI.setF HF7.out.out 2 (.slice e7 (k + 1) f7)))
      have HE3 := hid (HS7.out.ki (KI.setF HF7.out.out 2 (.slice e7 (k + 1) f7)))
      have HE4 := hid (ho7.ko (KO.setF HF7.out.out 2 (.slice e7 (k + 1) f7)))
      have HE5 : Hid (W4.heap.size ≤ (w7.setCell ⟨B + 2, 2, none⟩ (.slice e7 (k + 1) f7)).heap.size) := by
        unfold Hid
        rw [show (w7.setCell ⟨B + 2, 2, none⟩ (.slice e7 (k + 1) f7)).heap.size = w7.heap.size from by simp [World.setCell]]
        omega
      have k2 := thr2 HF7.out.out
      have y2 := thrF HF7.out.out 2
      clear ho7 hb7 hs7 hn7 hb7w HF6 HO6 HS6 HW6 hS6 hR6 hN6 hz6 hx6 m2 HF7 HO7 HS7
      go_wp2_with fail
      go_roundw
      case rel => exact ⟨k + 1, f7, e7, by omega, by go_num, HE1.out, HE2.out, HE3.out, by rw [HTK.out]; exact HE4.out, HE5.out⟩
      case measure => simp [intOf]; omega
    · obtain rfl : k = ol := by omega
      have hlt2 : ¬ (k : Int) < (k : Int) := by omega
      have r0 := thr0 hFD.out
      have r1 := thr1 hFD.out
      have r2 := thr2 hFD.out
      have HX := hI
      clear hI hFD hOR hSL hOF hSZ
      go_wp2_with (refine wpList_store_row rfl 36 _ _ rfl (B + 1) #[.slice e1 rl f1, .slice e2 last.length f2, .slice e3 k f3] rfl rfl _ _ HX.out.1.res (by kernel_rfl) rfl (by simp [Value.oneCell']) ?_)
      (try simp only [Exit.inBlock, Exit.then])
      refine bodyPost_ret (results_cell_row rfl _ _ (B + 1) 36 #[.slice e1 rl f1, .slice e2 last.length f2, .slice e3 k f3] (0, 0) _ rfl (setRow_heap _ _ _ _ _ _ HX.out.1.res) Tryz.underlying36 rfl (by kernel_rfl)) rfl ?_
      obtain ⟨g1, g2, g3, g4, g5⟩ := HX.out
      have hK : KO wr (wr.setRow (B + 1) #[Value.slice e1 rl f1, Value.slice e2 last.length f2, Value.slice e3 k f3]) := KO.oth g1.res (by decide) (by decide) (by decide) (by simp) (fun b _ hb => setRow_other _ _ _ _ hb)
      have l1 := (g2.ki hK.1).mono (Nat.zero_le _)
      obtain ⟨u2, n2, hu2, l2⟩ := g3.ki hK.1
      have l3 := g4.ko hK
      injection hu2 with q4 q5 q6
      subst q4 q6
      rw [List.take_of_length_le (by rw [← HOL.out]; exact Nat.le_refl _)] at l3
      exact ⟨_, _, _, _, _, _, by rw [HLL.out], l1, l2, l3.mono (Nat.zero_le _), below_setRow g1.bel (Nat.le_succ_of_le HBB.out) _⟩

end Go.Proofs.YtfppkjpgihnibaaGreatDoor
