/- attestref5.Check, where it has more or fewer Roots than rounds; attestsame.Folds. attestsame.Folds of what is the same. attestsame.Opened. -/
import Derived.Test.YtcajofdmadpmoaaDoorFolE
import Derived.Test.YtcajofdmadpmoaaDoorTres
import Derived.StillTailTactics
namespace Go.Proofs.YtcajofdmadpmoaaDoor
open Go.RowKit

end Go.Proofs.YtcajofdmadpmoaaDoor

namespace Go.Proofs.YtcajofdmadpmoaaDoor
open Go.RowKit

/-- two boxes -/
structure BxI (B : Nat) (x1 x2 x3 y1 y2 y3 : Value) (w W : World) : Prop where
  bel : Below w.heap.size w W
  one : W.heap[B]? = some (.cells #[x1, x2, x3] 26 (0, 0))
  two : W.heap[B + 1]? = some (.cells #[y1, y2, y3] 26 (0, 0))
theorem BxI.step {B : Nat} {x1 x2 x3 y1 y2 y3 : Value} {w W W' : World} (h : BxI B x1 x2 x3 y1 y2 y3 w W) (e : Below W.heap.size W W') : BxI B x1 x2 x3 y1 y2 y3 w W' :=
  ⟨h.bel.trans (e.mono h.bel.size), (e.block _ (Array.getElem?_eq_some_iff.1 h.one).1).trans h.one, (e.block _ (Array.getElem?_eq_some_iff.1 h.two).1).trans h.two⟩

set_option maxRecDepth 100000 in
set_option maxHeartbeats 4000000 in
theorem folds_same (c1 c2 c3 d1 d2 d3 : Nat) (a1 a2 a3 b1 b2 b3 : Option Addr) (roots : List (List Int)) (last : List Int) (os : List OnZ) (w : World) (hr : roots.length ≤ 9223372036854775807) (hrr : ∀ k, k < roots.length → (rat roots k).length ≤ 9223372036854775807) (hl : last.length ≤ 9223372036854775807) (ho : os.length ≤ 9223372036854775807)
    (hoo : ∀ k, k < os.length → (onat os k).ps.length ≤ 9223372036854775807 ∧ (onat os k).rows.length ≤ 9223372036854775807 ∧ (onat os k).nodes.length ≤ 9223372036854775807 ∧ (∀ j, j < (onat os k).rows.length → (rat (onat os k).rows j).length ≤ 9223372036854775807) ∧ (∀ j, j < (onat os k).nodes.length → (rat (onat os k).nodes j).length ≤ 9223372036854775807))
    (x1 : LstR w.heap.size w a1 c1 roots) (y1 : LstR w.heap.size w b1 d1 roots) (x2 : RowB w.heap.size w a2 last) (y2 : RowB w.heap.size w b2 last) (x3 : LstF w.heap.size w a3 c3 os) (y3 : LstF w.heap.size w b3 d3 os) :
    Calls Tryd.prog 23 #[.agg #[.slice a1 roots.length c1, .slice a2 last.length c2, .slice a3 os.length c3], .agg #[.slice b1 roots.length d1, .slice b2 last.length d2, .slice b3 os.length d3]] w fun e w' => e = .returned (.bool true) ∧ Below w.heap.size w w' := by
  have HRO : Hid (∀ W, Below w.heap.size w W → Calls Tryd.prog 37 #[.slice a1 roots.length c1, .slice b1 roots.length d1] W fun e w' => e = .returned (.bool true) ∧ ∃ n, w' = W.drewN n) := fun W h => by
    have := srows_any c1 d1 a1 b1 roots roots _ _ W hr hr hrr hrr (x1.below h) (y1.below h)
    rw [decide_eq_true rfl] at this
    exact this
  have HIN : Hid (∀ W, Below w.heap.size w W → Calls Tryd.prog 22 #[.slice a2 last.length c2, .slice b2 last.length d2] W fun e w' => e = .returned (.bool true) ∧ ∃ n, w' = W.drewN n) := fun W h => by
    have := ints_any last last _ _ W (rowZ_of_B c2 (x2.below h)) (rowZ_of_B d2 (y2.below h)) hl hl
    rw [decide_eq_true rfl] at this
    exact this
  have HX3 := hid x3
  have HY3 := hid y3
  have HOO := hid hoo
  obtain ⟨rl, hrl⟩ : ∃ rl, rl = roots.length := ⟨_, rfl⟩
  obtain ⟨ll, hll⟩ : ∃ ll, ll = last.length := ⟨_, rfl⟩
  obtain ⟨ol, hol⟩ : ∃ ol, ol = os.length := ⟨_, rfl⟩
  have HOL := hid hol
  rw [← hrl] at HRO
  rw [← hll] at HIN
  rw [← hrl, ← hll, ← hol]
  rw [← hol] at ho
  obtain ⟨W0, hW0⟩ : ∃ W0, W0 = (w.alloc (.cells #[.slice a1 rl c1, .slice a2 ll c2, .slice a3 ol c3] 26)).alloc (.cells #[.slice b1 rl d1, .slice b2 ll d2, .slice b3 ol d3] 26) := ⟨_, rfl⟩
  have HC0 : Hid (BxI w.heap.size (.slice a1 rl c1) (.slice a2 ll c2) (.slice a3 ol c3) (.slice b1 rl d1) (.slice b2 ll d2) (.slice b3 ol d3) w W0) := by
    rw [hW0]
    have g1 := heap_alloc_new w (.cells #[.slice a1 rl c1, .slice a2 ll c2, .slice a3 ol c3] 26)
    have g2 := heap_alloc_new (w.alloc (.cells #[.slice a1 rl c1, .slice a2 ll c2, .slice a3 ol c3] 26)) (.cells #[.slice b1 rl d1, .slice b2 ll d2, .slice b3 ol d3] 26)
    rw [show (w.alloc (.cells #[.slice a1 rl c1, .slice a2 ll c2, .slice a3 ol c3] 26)).heap.size = w.heap.size + 1 from by simp] at g2
    exact ⟨((Below.refl _ _).alloc (Nat.le_refl _) _).alloc (by simp) _, (Below.heap_alloc _ _ _ (by simp)).trans g1, g2⟩
  clear x1 y1 x2 y2 x3 y3 hoo hrl hll hol hr hrr hl
  go_enter Tryd.func23, Tryd.ntmps23
  go_wp2_with fail
  rw [← hW0]
  clear hW0
  obtain ⟨B, hB⟩ : ∃ B, B = w.heap.size := ⟨_, rfl⟩
  rw [← hB] at HC0
  have HBE : Hid (w.heap.size = B) := hB.symm
  simp only [HBE.out]
  clear hB
  have k0 := thr0 HC0.out.one
  have k1 := thr1 HC0.out.one
  have m0 := thr0 HC0.out.two
  have m1 := thr1 HC0.out.two
  have HR0 := hid (HRO.out W0 HC0.out.bel)
  go_wp2_with fail
  refine HR0.out.mono ?_
  rintro e w1 ⟨rfl, n1, rfl⟩
  have HC1 := hid (HC0.out.step (below_drewN (Below.refl _ _) n1))
  clear HR0 HC0 k0 k1 m0 m1
  generalize W0.drewN n1 = w1 at *
  have k1 := thr1 HC1.out.one
  have m1 := thr1 HC1.out.two
  have HI1 := hid (HIN.out w1 HC1.out.bel)
  go_wp2_with fail
  refine HI1.out.mono ?_
  rintro e w2 ⟨rfl, n2, rfl⟩
  have HC2 := hid (HC1.out.step (below_drewN (Below.refl _ _) n2))
  clear HI1 HC1 k1 m1
  generalize w1.drewN n2 = w2 at *
  have k2 := thr2 HC2.out.one
  have m2 := thr2 HC2.out.two
  have u1 : ((ol : Int) != (ol : Int)) = false := by simp
  go_wp2_with fail
  clear k2 m2
  go_loopw [7] (fun iv wr => ∃ i : Nat, i ≤ ol ∧ iv = .int .i64 i ∧ Hid (BxI B (.slice a1 rl c1) (.slice a2 ll c2) (.slice a3 ol c3) (.slice b1 rl d1) (.slice b2 ll d2) (.slice b3 ol d3) w wr)) (fun iv _ => ol - (intOf iv).toNat)
  case atStart => exact ⟨0, by omega, rfl, HC2⟩
  case round =>
    obtain ⟨i, hi, rfl, hI⟩ := hrel
    have k2 := thr2 hI.out.one
    by_cases hlt : i < ol
    · have hlt2 : (i : Int) < (ol : Int) := by omega
      have hks : IntKind.i64.wrap ((i : Int) + 1) = (i : Int) + 1 := by rw [IntKind.wrap_i64]; omega
      obtain ⟨bx, ox, p1, e1, p2, e2, p3, e3, hae, hbx, g1, g2, g3, g4, g5, g6⟩ := HX3.out.row i (by rw [← HOL.out]; exact hlt)
      subst hae
      obtain ⟨by', oy, r1, f1, r2, f2, r3, f3, hae, hby, j1, j2, j3, j4, j5, j6⟩ := HY3.out.row i (by rw [← HOL.out]; exact hlt)
      subst hae
      obtain ⟨z1, z2, z3, z4, z5⟩ := HOO.out i (by rw [← HOL.out]; exact hlt)
      have HOP : Hid (∀ W, Below wr.heap.size wr W → Calls Tryd.prog 24 #[.agg #[.slice p1 (onat os i).ps.length e1, .slice p2 (onat os i).rows.length e2, .slice p3 (onat os i).nodes.length e3], .agg #[.slice r1 (onat os i).ps.length f1, .slice r2 (onat os i).rows.length f2, .slice r3 (onat os i).nodes.length f3]] W fun e w' => e = .returned (.bool true) ∧ Below wr.heap.size wr w') := fun W hb => by
        have hbW := (hI.out.step hb).bel
        have := openings_any e1 e2 e3 f1 f2 f3 p1 p2 p3 r1 r2 r3 (onat os i).ps (onat os i).ps (onat os i).rows (onat os i).rows (onat os i).nodes (onat os i).nodes W z1 z1 z2 z2 z3 z3 z4 z4 z5 z5 ((g4.below hbW).mono hbW.size).row ((j4.below hbW).mono hbW.size).row ((g5.below hbW).mono hbW.size) ((j5.below hbW).mono hbW.size) ((g6.below hbW).mono hbW.size) ((j6.below hbW).mono hbW.size)
        refine this.mono ?_
        rintro e w' ⟨rfl, h2⟩
        exact ⟨by simp, hb.trans (h2.mono hb.size)⟩
      have HKe : Hid (∀ W, Below wr.heap.size wr W → W.cell? ⟨B, 2, none⟩ = some (.slice (some ⟨bx, ox, none⟩) ol c3) ∧ W.cell? ⟨bx, ox + i * 3, none⟩ = some (.slice p1 (onat os i).ps.length e1) ∧ W.cell? ⟨bx, ox + i * 3 + 1, none⟩ = some (.slice p2 (onat os i).rows.length e2) ∧ W.cell? ⟨bx, ox + i * 3 + 2, none⟩ = some (.slice p3 (onat os i).nodes.length e3) ∧ W.cell? ⟨B + 1, 2, none⟩ = some (.slice (some ⟨by', oy, none⟩) ol d3) ∧ W.cell? ⟨by', oy + i * 3, none⟩ = some (.slice r1 (onat os i).ps.length f1) ∧ W.cell? ⟨by', oy + i * 3 + 1, none⟩ = some (.slice r2 (onat os i).rows.length f2) ∧ W.cell? ⟨by', oy + i * 3 + 2, none⟩ = some (.slice r3 (onat os i).nodes.length f3)) := fun W hb => by
        have hs := hI.out.step hb
        exact ⟨thr2 hs.one, (hs.bel.cell (p := ⟨bx, ox + i * 3, none⟩) hbx).trans g1, (hs.bel.cell (p := ⟨bx, ox + i * 3 + 1, none⟩) hbx).trans g2, (hs.bel.cell (p := ⟨bx, ox + i * 3 + 2, none⟩) hbx).trans g3, thr2 hs.two, (hs.bel.cell (p := ⟨by', oy + i * 3, none⟩) hby).trans j1, (hs.bel.cell (p := ⟨by', oy + i * 3 + 1, none⟩) hby).trans j2, (hs.bel.cell (p := ⟨by', oy + i * 3 + 2, none⟩) hby).trans j3⟩
      have HII := hI
      have hdd : Below wr.heap.size wr wr.drew := (Below.refl _ _).drew
      generalize (onat os i).ps.length = l1 at *
      generalize (onat os i).rows.length = l2 at *
      generalize (onat os i).nodes.length = l3 at *
      clear hI g1 g2 g3 g4 g5 g6 j1 j2 j3 j4 j5 j6 z1 z2 z3 z4 z5
      go_wp2_with fail
      go_region_held3 (fun W => W.cell? ⟨B, 2, none⟩ = some (.slice (some ⟨bx, ox, none⟩) ol c3) ∧ W.cell? ⟨bx, ox + i * 3, none⟩ = some (.slice p1 l1 e1) ∧ W.cell? ⟨bx, ox + i * 3 + 1, none⟩ = some (.slice p2 l2 e2) ∧ W.cell? ⟨bx, ox + i * 3 + 2, none⟩ = some (.slice p3 l3 e3) ∧ W.cell? ⟨B + 1, 2, none⟩ = some (.slice (some ⟨by', oy, none⟩) ol d3) ∧ W.cell? ⟨by', oy + i * 3, none⟩ = some (.slice r1 l1 f1) ∧ W.cell? ⟨by', oy + i * 3 + 1, none⟩ = some (.slice r2 l2 f2) ∧ W.cell? ⟨by', oy + i * 3 + 2, none⟩ = some (.slice r3 l3 f3)) (exact HKe.out _ (by assumption))
        (first
          | (go_at_call 24; refine (HOP.out _ (by assumption)).mono ?_; rintro e w5 ⟨rfl, hb5⟩))
      have HE := hid (HII.out.step hb5)
      clear hb5 HOP HKe hdd HII k2
      go_wp2_with fail
      go_roundw
      case rel => exact ⟨i + 1, by omega, by go_num, HE⟩
      case measure => simp [intOf]; omega
    · obtain rfl : i = ol := by omega
      have hlt2 : ¬ (i : Int) < (i : Int) := by omega
      have HE := hid hI.out.bel
      clear hI
      go_wp2_with fail
      go_ret
      exact ⟨rfl, HE.out⟩

end Go.Proofs.YtcajofdmadpmoaaDoor

namespace Go.Proofs.YtcajofdmadpmoaaDoor
open Go.RowKit

end Go.Proofs.YtcajofdmadpmoaaDoor
