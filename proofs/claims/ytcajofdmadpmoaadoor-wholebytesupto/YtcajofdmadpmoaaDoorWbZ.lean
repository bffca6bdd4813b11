/- attestsame.Vouchers of what is the same. -/
import Derived.Test.YtcajofdmadpmoaaDoorWbAL
import Derived.Test.YtcajofdmadpmoaaDoorWbH
import Derived.Test.YtcajofdmadpmoaaDoorWbAF
namespace Go.Proofs.YtcajofdmadpmoaaDoor
open Go.RowKit

theorem vln_L (l : List Int) : l.length ≤ (vbL l).length := flat_ge vbI_len l _
theorem vln_R (l : List (List Int)) : l.length ≤ (vbR l).length := flat_ge vbL_len l _
theorem vln_rat (l : List (List Int)) (k : Nat) (hk : k < l.length) : (rat l k).length ≤ (vbR l).length := by
  have h1 := flat_pre vbL l (k + 1)
  rw [flat_succ_sl vbL l k hk, List.length_append] at h1
  have h2 := vln_L (rat l k)
  unfold vbR
  rw [List.length_append]
  omega
theorem vln_Os (l : List OnZ) : l.length ≤ (vbOs l).length := flat_ge vbO_len l _
theorem vln_onat (l : List OnZ) (k : Nat) (hk : k < l.length) : (vbO (onat l k)).length ≤ (vbOs l).length := by
  have h1 := flat_pre vbO l (k + 1)
  rw [flat_succ_on vbO l k hk, List.length_append] at h1
  unfold vbOs
  rw [List.length_append]
  omega
/-- an Opening of no great size -/
structure SmO (o : OnZ) : Prop where
  h1 : o.ps.length ≤ 9223372036854775807
  h2 : o.rows.length ≤ 9223372036854775807
  h3 : o.nodes.length ≤ 9223372036854775807
  h4 : ∀ j, j < o.rows.length → (rat o.rows j).length ≤ 9223372036854775807
  h5 : ∀ j, j < o.nodes.length → (rat o.nodes j).length ≤ 9223372036854775807
theorem smO_of {o : OnZ} (h : (vbO o).length ≤ 70368744177664) : SmO o := by
  unfold vbO at h
  rw [List.length_append, List.length_append] at h
  have h1 := vln_L o.ps
  have h2 := vln_R o.rows
  have h3 := vln_R o.nodes
  exact ⟨by omega, by omega, by omega, fun j hj => by have := vln_rat o.rows j hj; omega, fun j hj => by have := vln_rat o.nodes j hj; omega⟩
structure SmV (z : VoZ) : Prop where
  main : z.main.length ≤ 9223372036854775807
  aux : z.aux.length ≤ 9223372036854775807
  roots : z.roots.length ≤ 9223372036854775807
  rr : ∀ k, k < z.roots.length → (rat z.roots k).length ≤ 9223372036854775807
  last : z.last.length ≤ 9223372036854775807
  opens : z.opens.length ≤ 9223372036854775807
  oo : ∀ k, k < z.opens.length → SmO (onat z.opens k)
  rows : SmO z.rows
  lst : SmO z.lst
theorem smV_of {z : VoZ} (h : (vbV z).length ≤ 70368744177664) : SmV z := by
  unfold vbV at h
  simp only [List.length_append] at h
  have h1 := vln_L z.main
  have h2 := vln_L z.aux
  have h3 := vln_R z.roots
  have h4 := vln_L z.last
  have h5 := vln_Os z.opens
  exact ⟨by omega, by omega, by omega, fun j hj => by have := vln_rat z.roots j hj; omega, by omega, by omega, fun k hk => smO_of (by have := vln_onat z.opens k hk; omega), smO_of (by omega), smO_of (by omega)⟩
/-- a voucher in memory, its lists below a block -/
structure VoL (N : Nat) (w : World) (z : VoZ) (am aa ar als ao axp axr axn ayp ayr ayn : Option Addr) (cm ca cr cls co cxp cxr cxn cyp cyr cyn : Nat) : Prop where
  m : Lst N w am cm z.main
  a : Lst N w aa ca z.aux
  r : LstR N w ar cr z.roots
  ls : Lst N w als cls z.last
  o : LstF N w ao co z.opens
  xp : Lst N w axp cxp z.rows.ps
  xr : LstR N w axr cxr z.rows.rows
  xn : LstR N w axn cxn z.rows.nodes
  yp : Lst N w ayp cyp z.lst.ps
  yr : LstR N w ayr cyr z.lst.rows
  yn : LstR N w ayn cyn z.lst.nodes
theorem VoL.of {w : World} {v : Value} {z : VoZ} (h : PVo w v z) : ∃ (am aa ar als ao axp axr axn ayp ayr ayn : Option Addr) (cm ca cr cls co cxp cxr cxn cyp cyr cyn : Nat), v = .agg #[.slice am z.main.length cm, .slice aa z.aux.length ca, .int .i64 z.tries, .slice ar z.roots.length cr, .slice als z.last.length cls, .slice ao z.opens.length co, .slice axp z.rows.ps.length cxp, .slice axr z.rows.rows.length cxr, .slice axn z.rows.nodes.length cxn, .slice ayp z.lst.ps.length cyp, .slice ayr z.lst.rows.length cyr, .slice ayn z.lst.nodes.length cyn] ∧ VoL w.heap.size w z am aa ar als ao axp axr axn ayp ayr ayn cm ca cr cls co cxp cxr cxn cyp cyr cyn := by
  obtain ⟨v0, v1, v2, v3, v4, v5, v6, v7, v8, v9, va, vb, rfl, hA, hK, hx, hy⟩ := h
  obtain ⟨a0, c0, rfl, q0⟩ := hA.h0.lst
  obtain ⟨a1, c1, rfl, q1⟩ := hA.h1.lst
  obtain ⟨a3, c3, rfl, q3⟩ := hA.h3.lst
  obtain ⟨a4, c4, rfl, q4⟩ := hA.h4.lst
  obtain ⟨a5, c5, rfl, q5⟩ := hK.lst
  obtain ⟨vp, vr, vn, ex, hx1, hx2, hx3⟩ := hx
  obtain ⟨vp', vr', vn', ey, hy1, hy2, hy3⟩ := hy
  injection ex with ex
  injection ex with ex
  injection ey with ey
  injection ey with ey
  simp only [List.cons.injEq, and_true] at ex ey
  obtain ⟨rfl, rfl, rfl⟩ := ex
  obtain ⟨rfl, rfl, rfl⟩ := ey
  obtain ⟨a6, c6, rfl, q6⟩ := hx1.lst
  obtain ⟨a7, c7, rfl, q7⟩ := hx2.lst
  obtain ⟨a8, c8, rfl, q8⟩ := hx3.lst
  obtain ⟨a9, c9, rfl, q9⟩ := hy1.lst
  obtain ⟨aa, ca, rfl, qa⟩ := hy2.lst
  obtain ⟨ab, cb, rfl, qb⟩ := hy3.lst
  have h2 := hA.h2
  subst h2
  exact ⟨_, _, _, _, _, _, _, _, _, _, _, _, _, _, _, _, _, _, _, _, _, _, rfl, q0, q1, q3, q4, q5, q6, q7, q8, q9, qa, qb⟩
theorem VoL.below {N : Nat} {w w' : World} {z : VoZ} {am aa ar als ao axp axr axn ayp ayr ayn : Option Addr} {cm ca cr cls co cxp cxr cxn cyp cyr cyn : Nat} (h : VoL N w z am aa ar als ao axp axr axn ayp ayr ayn cm ca cr cls co cxp cxr cxn cyp cyr cyn) (e : Below N w w') : VoL N w' z am aa ar als ao axp axr axn ayp ayr ayn cm ca cr cls co cxp cxr cxn cyp cyr cyn :=
  ⟨h.m.below e, h.a.below e, h.r.below e, h.ls.below e, h.o.below e, h.xp.below e, h.xr.below e, h.xn.below e, h.yp.below e, h.yr.below e, h.yn.below e⟩
theorem VoL.mono {N M : Nat} {w : World} {z : VoZ} {am aa ar als ao axp axr axn ayp ayr ayn : Option Addr} {cm ca cr cls co cxp cxr cxn cyp cyr cyn : Nat} (h : VoL N w z am aa ar als ao axp axr axn ayp ayr ayn cm ca cr cls co cxp cxr cxn cyp cyr cyn) (e : N ≤ M) : VoL M w z am aa ar als ao axp axr axn ayp ayr ayn cm ca cr cls co cxp cxr cxn cyp cyr cyn :=
  ⟨h.m.mono e, h.a.mono e, h.r.mono e, h.ls.mono e, h.o.mono e, h.xp.mono e, h.xr.mono e, h.xn.mono e, h.yp.mono e, h.yr.mono e, h.yn.mono e⟩
/-- two vouchers in boxes -/
structure VxI (B : Nat) (l1 l2 : List Value) (w W : World) : Prop where
  bel : Below w.heap.size w W
  one : W.heap[B]? = some (.cells l1.toArray 30 (0, 0))
  two : W.heap[B + 1]? = some (.cells l2.toArray 30 (0, 0))
theorem VxI.step {B : Nat} {l1 l2 : List Value} {w W W' : World} (h : VxI B l1 l2 w W) (e : Below W.heap.size W W') : VxI B l1 l2 w W' :=
  ⟨h.bel.trans (e.mono h.bel.size), (e.block _ (Array.getElem?_eq_some_iff.1 h.one).1).trans h.one, (e.block _ (Array.getElem?_eq_some_iff.1 h.two).1).trans h.two⟩
theorem VxI.c1 {B : Nat} {l1 l2 : List Value} {w W : World} (h : VxI B l1 l2 w W) (i : Nat) : W.cell? ⟨B, i, none⟩ = l1[i]? := by have := h.one; simp [World.cell?, this]
theorem VxI.c2 {B : Nat} {l1 l2 : List Value} {w W : World} (h : VxI B l1 l2 w W) (i : Nat) : W.cell? ⟨B + 1, i, none⟩ = l2[i]? := by have := h.two; simp [World.cell?, this]

set_option maxRecDepth 100000 in
set_option maxHeartbeats 8000000 in
theorem vouchers_same (z : VoZ) (uam uaa uar uals uao uaxp uaxr uaxn uayp uayr uayn : Option Addr) (ucm uca ucr ucls uco ucxp ucxr ucxn ucyp ucyr ucyn : Nat) (vam vaa var vals vao vaxp vaxr vaxn vayp vayr vayn : Option Addr) (vcm vca vcr vcls vco vcxp vcxr vcxn vcyp vcyr vcyn : Nat) (w : World) (hs : SmV z) (hu : VoL w.heap.size w z uam uaa uar uals uao uaxp uaxr uaxn uayp uayr uayn ucm uca ucr ucls uco ucxp ucxr ucxn ucyp ucyr ucyn) (hv : VoL w.heap.size w z vam vaa var vals vao vaxp vaxr vaxn vayp vayr vayn vcm vca vcr vcls vco vcxp vcxr vcxn vcyp vcyr vcyn) :
    Calls Tryd.prog 7 #[.agg #[.slice uam z.main.length ucm, .slice uaa z.aux.length uca, .int .i64 z.tries, .slice uar z.roots.length ucr, .slice uals z.last.length ucls, .slice uao z.opens.length uco, .slice uaxp z.rows.ps.length ucxp, .slice uaxr z.rows.rows.length ucxr, .slice uaxn z.rows.nodes.length ucxn, .slice uayp z.lst.ps.length ucyp, .slice uayr z.lst.rows.length ucyr, .slice uayn z.lst.nodes.length ucyn], .agg #[.slice vam z.main.length vcm, .slice vaa z.aux.length vca, .int .i64 z.tries, .slice var z.roots.length vcr, .slice vals z.last.length vcls, .slice vao z.opens.length vco, .slice vaxp z.rows.ps.length vcxp, .slice vaxr z.rows.rows.length vcxr, .slice vaxn z.rows.nodes.length vcxn, .slice vayp z.lst.ps.length vcyp, .slice vayr z.lst.rows.length vcyr, .slice vayn z.lst.nodes.length vcyn]] w fun e w' => e = .returned (.bool true) ∧ Below w.heap.size w w' := by
  have HM : Hid (∀ W, Below w.heap.size w W → Calls Tryd.prog 22 #[.slice uam z.main.length ucm, .slice vam z.main.length vcm] W fun e w' => e = .returned (.bool true) ∧ Below W.heap.size W w') := fun W h => by
    have := ints_any z.main z.main _ _ W (rowZ_of_B ucm (hu.m.below h).row) (rowZ_of_B vcm (hv.m.below h).row) hs.main hs.main
    rw [decide_eq_true rfl] at this
    refine this.mono ?_
    rintro e w' ⟨rfl, n, rfl⟩
    exact ⟨rfl, below_drewN (Below.refl _ _) n⟩
  have HA : Hid (∀ W, Below w.heap.size w W → Calls Tryd.prog 22 #[.slice uaa z.aux.length uca, .slice vaa z.aux.length vca] W fun e w' => e = .returned (.bool true) ∧ Below W.heap.size W w') := fun W h => by
    have := ints_any z.aux z.aux _ _ W (rowZ_of_B uca (hu.a.below h).row) (rowZ_of_B vca (hv.a.below h).row) hs.aux hs.aux
    rw [decide_eq_true rfl] at this
    refine this.mono ?_
    rintro e w' ⟨rfl, n, rfl⟩
    exact ⟨rfl, below_drewN (Below.refl _ _) n⟩
  have HF : Hid (∀ W, Below w.heap.size w W → Calls Tryd.prog 23 #[.agg #[.slice uar z.roots.length ucr, .slice uals z.last.length ucls, .slice uao z.opens.length uco], .agg #[.slice var z.roots.length vcr, .slice vals z.last.length vcls, .slice vao z.opens.length vco]] W fun e w' => e = .returned (.bool true) ∧ Below W.heap.size W w') := fun W h =>
    folds_same ucr ucls uco vcr vcls vco uar uals uao var vals vao z.roots z.last z.opens W hs.roots hs.rr hs.last hs.opens (fun k hk => ⟨(hs.oo k hk).h1, (hs.oo k hk).h2, (hs.oo k hk).h3, (hs.oo k hk).h4, (hs.oo k hk).h5⟩) ((hu.r.below h).mono h.size) ((hv.r.below h).mono h.size) ((hu.ls.below h).mono h.size).row ((hv.ls.below h).mono h.size).row ((hu.o.below h).mono h.size) ((hv.o.below h).mono h.size)
  have HX : Hid (∀ W, Below w.heap.size w W → Calls Tryd.prog 24 #[.agg #[.slice uaxp z.rows.ps.length ucxp, .slice uaxr z.rows.rows.length ucxr, .slice uaxn z.rows.nodes.length ucxn], .agg #[.slice vaxp z.rows.ps.length vcxp, .slice vaxr z.rows.rows.length vcxr, .slice vaxn z.rows.nodes.length vcxn]] W fun e w' => e = .returned (.bool true) ∧ Below W.heap.size W w') := fun W h => by
    have := openings_any ucxp ucxr ucxn vcxp vcxr vcxn uaxp uaxr uaxn vaxp vaxr vaxn z.rows.ps z.rows.ps z.rows.rows z.rows.rows z.rows.nodes z.rows.nodes W hs.rows.h1 hs.rows.h1 hs.rows.h2 hs.rows.h2 hs.rows.h3 hs.rows.h3 hs.rows.h4 hs.rows.h4 hs.rows.h5 hs.rows.h5 ((hu.xp.below h).mono h.size).row ((hv.xp.below h).mono h.size).row ((hu.xr.below h).mono h.size) ((hv.xr.below h).mono h.size) ((hu.xn.below h).mono h.size) ((hv.xn.below h).mono h.size)
    refine this.mono ?_
    rintro e w' ⟨rfl, h2⟩
    exact ⟨by simp, h2⟩
  have HY : Hid (∀ W, Below w.heap.size w W → Calls Tryd.prog 24 #[.agg #[.slice uayp z.lst.ps.length ucyp, .slice uayr z.lst.rows.length ucyr, .slice uayn z.lst.nodes.length ucyn], .agg #[.slice vayp z.lst.ps.length vcyp, .slice vayr z.lst.rows.length vcyr, .slice vayn z.lst.nodes.length vcyn]] W fun e w' => e = .returned (.bool true) ∧ Below W.heap.size W w') := fun W h => by
    have := openings_any ucyp ucyr ucyn vcyp vcyr vcyn uayp uayr uayn vayp vayr vayn z.lst.ps z.lst.ps z.lst.rows z.lst.rows z.lst.nodes z.lst.nodes W hs.lst.h1 hs.lst.h1 hs.lst.h2 hs.lst.h2 hs.lst.h3 hs.lst.h3 hs.lst.h4 hs.lst.h4 hs.lst.h5 hs.lst.h5 ((hu.yp.below h).mono h.size).row ((hv.yp.below h).mono h.size).row ((hu.yr.below h).mono h.size) ((hv.yr.below h).mono h.size) ((hu.yn.below h).mono h.size) ((hv.yn.below h).mono h.size)
    refine this.mono ?_
    rintro e w' ⟨rfl, h2⟩
    exact ⟨by simp, h2⟩
  obtain ⟨nam, hnam⟩ : ∃ n, n = z.main.length := ⟨_, rfl⟩
  obtain ⟨naa, hnaa⟩ : ∃ n, n = z.aux.length := ⟨_, rfl⟩
  obtain ⟨nar, hnar⟩ : ∃ n, n = z.roots.length := ⟨_, rfl⟩
  obtain ⟨nals, hnals⟩ : ∃ n, n = z.last.length := ⟨_, rfl⟩
  obtain ⟨nao, hnao⟩ : ∃ n, n = z.opens.length := ⟨_, rfl⟩
  obtain ⟨naxp, hnaxp⟩ : ∃ n, n = z.rows.ps.length := ⟨_, rfl⟩
  obtain ⟨naxr, hnaxr⟩ : ∃ n, n = z.rows.rows.length := ⟨_, rfl⟩
  obtain ⟨naxn, hnaxn⟩ : ∃ n, n = z.rows.nodes.length := ⟨_, rfl⟩
  obtain ⟨nayp, hnayp⟩ : ∃ n, n = z.lst.ps.length := ⟨_, rfl⟩
  obtain ⟨nayr, hnayr⟩ : ∃ n, n = z.lst.rows.length := ⟨_, rfl⟩
  obtain ⟨nayn, hnayn⟩ : ∃ n, n = z.lst.nodes.length := ⟨_, rfl⟩
  simp only [← hnam, ← hnaa, ← hnar, ← hnals, ← hnao, ← hnaxp, ← hnaxr, ← hnaxn, ← hnayp, ← hnayr, ← hnayn] at HM HA HF HX HY ⊢
  obtain ⟨V0, hV0⟩ : ∃ W0, W0 = w.alloc (.cells #[.slice uam nam ucm, .slice uaa naa uca, .int .i64 z.tries, .slice uar nar ucr, .slice uals nals ucls, .slice uao nao uco, .slice uaxp naxp ucxp, .slice uaxr naxr ucxr, .slice uaxn naxn ucxn, .slice uayp nayp ucyp, .slice uayr nayr ucyr, .slice uayn nayn ucyn] 30) := ⟨_, rfl⟩
  obtain ⟨W0, hW0⟩ : ∃ W0, W0 = V0.alloc (.cells #[.slice vam nam vcm, .slice vaa naa vca, .int .i64 z.tries, .slice var nar vcr, .slice vals nals vcls, .slice vao nao vco, .slice vaxp naxp vcxp, .slice vaxr naxr vcxr, .slice vaxn naxn vcxn, .slice vayp nayp vcyp, .slice vayr nayr vcyr, .slice vayn nayn vcyn] 30) := ⟨_, rfl⟩
  obtain ⟨B, hB⟩ : ∃ B, B = w.heap.size := ⟨_, rfl⟩
  have hvs : V0.heap.size = B + 1 := by rw [hV0, hB]; simp
  have hb0 : Below w.heap.size w V0 := by rw [hV0]; exact (Below.refl _ _).alloc (Nat.le_refl _) _
  have hb1 : Below V0.heap.size V0 W0 := by rw [hW0]; exact (Below.refl _ _).alloc (Nat.le_refl _) _
  have g1 : V0.heap[B]? = some (.cells [.slice uam nam ucm, .slice uaa naa uca, .int .i64 z.tries, .slice uar nar ucr, .slice uals nals ucls, .slice uao nao uco, .slice uaxp naxp ucxp, .slice uaxr naxr ucxr, .slice uaxn naxn ucxn, .slice uayp nayp ucyp, .slice uayr nayr ucyr, .slice uayn nayn ucyn].toArray 30 (0, 0)) := by rw [hV0, hB]; exact heap_alloc_new w _
  have g2 : W0.heap[B + 1]? = some (.cells [.slice vam nam vcm, .slice vaa naa vca, .int .i64 z.tries, .slice var nar vcr, .slice vals nals vcls, .slice vao nao vco, .slice vaxp naxp vcxp, .slice vaxr naxr vcxr, .slice vaxn naxn vcxn, .slice vayp nayp vcyp, .slice vayr nayr vcyr, .slice vayn nayn vcyn].toArray 30 (0, 0)) := by rw [← hvs, hW0]; exact heap_alloc_new V0 _
  have HC : Hid (VxI B [.slice uam nam ucm, .slice uaa naa uca, .int .i64 z.tries, .slice uar nar ucr, .slice uals nals ucls, .slice uao nao uco, .slice uaxp naxp ucxp, .slice uaxr naxr ucxr, .slice uaxn naxn ucxn, .slice uayp nayp ucyp, .slice uayr nayr ucyr, .slice uayn nayn ucyn] [.slice vam nam vcm, .slice vaa naa vca, .int .i64 z.tries, .slice var nar vcr, .slice vals nals vcls, .slice vao nao vco, .slice vaxp naxp vcxp, .slice vaxr naxr vcxr, .slice vaxn naxn vcxn, .slice vayp nayp vcyp, .slice vayr nayr vcyr, .slice vayn nayn vcyn] w W0) := ⟨hb0.trans (hb1.mono hb0.size), (hb1.block B (by omega)).trans g1, g2⟩
  have HV0 := hid hV0
  have HW0 := hid hW0
  have HBB : Hid (w.heap.size = B) := hB.symm
  clear hV0 hW0 hvs hb0 hb1 g1 g2 hB hu hv hs hnam hnaa hnar hnals hnao hnaxp hnaxr hnaxn hnayp hnayr hnayn
  go_enter Tryd.func7, Tryd.ntmps7
  go_wp2_with fail
  rw [← HV0.out, ← HW0.out, HBB.out]
  clear HV0 HW0
  have y0 := HC.out.c1 0
  have z0 := HC.out.c2 0
  dsimp only [List.getElem?_cons_succ, List.getElem?_cons_zero] at y0 z0
  have HH := hid (HM.out _ HC.out.bel)
  go_wp2_with fail
  refine HH.out.mono ?_
  rintro e w1 ⟨rfl, hb⟩
  have HC2 := hid (HC.out.step hb)
  clear HH HC hb y0 z0
  have HC := HC2
  clear HC2
  have y1 := HC.out.c1 1
  have z1 := HC.out.c2 1
  dsimp only [List.getElem?_cons_succ, List.getElem?_cons_zero] at y1 z1
  have HH := hid (HA.out _ HC.out.bel)
  go_wp2_with fail
  refine HH.out.mono ?_
  rintro e w2 ⟨rfl, hb⟩
  have HC2 := hid (HC.out.step hb)
  clear HH HC hb y1 z1
  have HC := HC2
  clear HC2
  have y3 := HC.out.c1 3
  have z3 := HC.out.c2 3
  have y4 := HC.out.c1 4
  have z4 := HC.out.c2 4
  have y5 := HC.out.c1 5
  have z5 := HC.out.c2 5
  dsimp only [List.getElem?_cons_succ, List.getElem?_cons_zero] at y3 z3 y4 z4 y5 z5
  have HH := hid (HF.out _ HC.out.bel)
  go_wp2_with fail
  refine HH.out.mono ?_
  rintro e w3 ⟨rfl, hb⟩
  have HC2 := hid (HC.out.step hb)
  clear HH HC hb y3 z3 y4 z4 y5 z5
  have HC := HC2
  clear HC2
  have y6 := HC.out.c1 6
  have z6 := HC.out.c2 6
  have y7 := HC.out.c1 7
  have z7 := HC.out.c2 7
  have y8 := HC.out.c1 8
  have z8 := HC.out.c2 8
  dsimp only [List.getElem?_cons_succ, List.getElem?_cons_zero] at y6 z6 y7 z7 y8 z8
  have HH := hid (HX.out _ HC.out.bel)
  go_wp2_with fail
  refine HH.out.mono ?_
  rintro e w4 ⟨rfl, hb⟩
  have HC2 := hid (HC.out.step hb)
  clear HH HC hb y6 z6 y7 z7 y8 z8
  have HC := HC2
  clear HC2
  have y9 := HC.out.c1 9
  have z9 := HC.out.c2 9
  have y10 := HC.out.c1 10
  have z10 := HC.out.c2 10
  have y11 := HC.out.c1 11
  have z11 := HC.out.c2 11
  dsimp only [List.getElem?_cons_succ, List.getElem?_cons_zero] at y9 z9 y10 z10 y11 z11
  have HH := hid (HY.out _ HC.out.bel)
  go_wp2_with fail
  refine HH.out.mono ?_
  rintro e w5 ⟨rfl, hb⟩
  have HC2 := hid (HC.out.step hb)
  clear HH HC hb y9 z9 y10 z10 y11 z11
  have HC := HC2
  clear HC2
  have y2 := HC.out.c1 2
  have z2 := HC.out.c2 2
  dsimp only [List.getElem?_cons_succ, List.getElem?_cons_zero] at y2 z2
  have hq : (z.tries == z.tries) = true := by simp
  go_wp2_with fail
  go_ret
  exact ⟨rfl, HC.out.bel⟩

end Go.Proofs.YtcajofdmadpmoaaDoor
