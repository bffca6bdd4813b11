/- Arguments of type api.Voucher, opened. What the second form's bound gives: how many bytes a voucher takes. An argument of type []byte, opened. -/
import Derived.Test.YtcajofdmadpmoaaDoorWbAO
import Derived.Test.YtcajofdmadpmoaaDoorWbZ
import Derived.Test.YtcajofdmadpmoaaDoorWbAN
import Derived.Test.YtcajofdmadpmoaaDoorRows
import Derived.Test.YtcajofdmadpmoaaDoorWbAI
import Derived.Test.YtcajofdmadpmoaaDoorWbAH
import Derived.SizedLaws
import Derived.ChangeOld
import Derived.ChangeSlices
import Derived.OpenShut
namespace Go.Proofs.YtcajofdmadpmoaaDoor
open Go.ChangeShapes Go.WideShapes Go.RowKit Go.Deep

theorem array12v {α : Type} {cs : Array α} (h : cs.size = 12) : ∃ c0 c1 c2 c3 c4 c5 c6 c7 c8 c9 ca cb, cs = #[c0, c1, c2, c3, c4, c5, c6, c7, c8, c9, ca, cb] := by
  obtain ⟨l⟩ := cs
  match l, h with
  | [c0, c1, c2, c3, c4, c5, c6, c7, c8, c9, ca, cb], _ => exact ⟨c0, c1, c2, c3, c4, c5, c6, c7, c8, c9, ca, cb, rfl⟩
/-- a voucher's datum -/
def VouDat {H : Type} (d : DataW H) (z : VoZ) : Prop := ∃ d0 d1 d2 d3 d4 d5, d = .agg [d0, d1, d2, d3, d4, d5] ∧ ListDat d0 z.main ∧ ListDat d1 z.aux ∧ FoldDat d3 z.roots z.last z.opens ∧ OpenDat d4 z.rows.ps z.rows.rows z.rows.nodes ∧ OpenDat d5 z.lst.ps z.lst.rows z.lst.nodes
theorem okL_of {l : List Int} (h : Fits l) (hl : l.length ≤ 10485760) : okL l := ⟨fun x hx => by
  obtain ⟨k, hk, rfl⟩ := List.getElem_of_mem hx
  have := h k hk
  simp [zat, hk] at this
  unfold Z64
  omega, by omega⟩
theorem okR_of {l : List (List Int)} (h : ∀ k, k < l.length → Fits (rat l k)) (hl : l.length ≤ 10485760) (hk : ∀ k, k < l.length → (rat l k).length ≤ 10485760) : okR l := ⟨fun x hx => by
  obtain ⟨k, hk2, rfl⟩ := List.getElem_of_mem hx
  have a := h k hk2
  have b := hk k hk2
  have e : rat l k = l[k] := by simp [rat, hk2]
  rw [e] at a b
  exact okL_of a b, by omega⟩
set_option maxRecDepth 100000 in
theorem open_voucher {H : Type} {enc : TypeId × Value → H} {W : World} {r : Reach} {b0 : Nat} {v : Value} {d : DataW H} {p : List MemPlace} (hv : Value.okWide Tryd.prog W r b0 30 v) (h : DataW.Trod enc Tryd.prog W 0 (fun _ => true) true 30 v d p) :
    ∃ (z : VoZ) (am aa ar als ao axp axr axn ayp ayr ayn : Option Addr) (cm ca cr cls co cxp cxr cxn cyp cyr cyn : Nat),
      v = .agg #[.slice am z.main.length cm, .slice aa z.aux.length ca, .int .i64 z.tries, .slice ar z.roots.length cr, .slice als z.last.length cls, .slice ao z.opens.length co, .slice axp z.rows.ps.length cxp, .slice axr z.rows.rows.length cxr, .slice axn z.rows.nodes.length cxn, .slice ayp z.lst.ps.length cyp, .slice ayr z.lst.rows.length cyr, .slice ayn z.lst.nodes.length cyn] ∧
      VoL W.heap.size W z am aa ar als ao axp axr axn ayp ayr ayn cm ca cr cls co cxp cxr cxn cyp cyr cyn ∧
      (Fits z.main ∧ Fits z.aux ∧ Z64 z.tries ∧ ((∀ k, k < z.roots.length → Fits (rat z.roots k)) ∧ Fits z.last ∧ FitsN z.opens) ∧ (Fits z.rows.ps ∧ (∀ k, k < z.rows.rows.length → Fits (rat z.rows.rows k)) ∧ (∀ k, k < z.rows.nodes.length → Fits (rat z.rows.nodes k))) ∧ (Fits z.lst.ps ∧ (∀ k, k < z.lst.rows.length → Fits (rat z.lst.rows k)) ∧ (∀ k, k < z.lst.nodes.length → Fits (rat z.lst.nodes k)))) ∧ VouDat d z := by
  have k1 : Tryd.prog.cellsOf 22 = 1 := by kernel_rfl
  have k2 : Tryd.prog.cellsOf 23 = 1 := by kernel_rfl
  have k5 : Tryd.prog.cellsOf 24 = 1 := by kernel_rfl
  obtain ⟨cs, rfl, hsz⟩ := okWide_struct Tryd.underlying30 hv
  obtain ⟨v0, v1, v2, v3, v4, v5, v6, v7, v8, v9, va, vb, rfl⟩ := array12v (hsz.trans (by kernel_rfl))
  obtain ⟨fuel, hf⟩ := h
  obtain ⟨xs, n, _, hx, _, hlen, hall⟩ := DataW.trod_struct Tryd.underlying30 hf
  match xs, hlen with
  | [y0, y1, y2, y3, y4, y5], _ =>
  have h0 := hall 0 _ rfl
  have h1 := hall 1 _ rfl
  have h2 := hall 2 _ rfl
  have h3 := hall 3 _ rfl
  have h4 := hall 4 _ rfl
  have h5 := hall 5 _ rfl
  simp only [Value.cells, List.getElem?_cons_zero, List.getElem?_cons_succ] at h0 h1 h2 h3 h4 h5
  obtain ⟨a0, c0, main, rfl, l0, f0, e0⟩ := open_listV h0
  obtain ⟨a1, c1, aux, rfl, l1, f1, e1⟩ := open_listV h1
  obtain ⟨n2, p2, _, q2⟩ := DataW.trod_int Tryd.underlying3 h2
  obtain ⟨x0, x1, x2, m3, hz3, _, g0, g1, g2⟩ := trod_struct3 Tryd.underlying26 h3
  obtain ⟨u0, u1, u2, m4, hz4, _, g3, g4, g5⟩ := trod_struct3 Tryd.underlying28 h4
  obtain ⟨s0, s1, s2, m5, hz5, _, g6, g7, g8⟩ := trod_struct3 Tryd.underlying28 h5
  simp only [k1, k2, k5, List.drop_zero] at g0 g1 g2 g3 g4 g5 g6 g7 g8
  obtain ⟨ar, cr, roots, rfl, l3, f3, e3⟩ := open_rowsV g0
  obtain ⟨als, cls, last, rfl, l4, f4, e4⟩ := open_listV g1
  obtain ⟨ao, co, ons, rfl, l5, f5, e5⟩ := open_onsV g2
  obtain ⟨axp, cxp, xp, rfl, l6, f6, e6⟩ := open_listV g3
  obtain ⟨axr, cxr, xr, rfl, l7, f7, e7⟩ := open_rowsV g4
  obtain ⟨axn, cxn, xn, rfl, l8, f8, e8⟩ := open_rowsV g5
  obtain ⟨ayp, cyp, yp, rfl, l9, f9, e9⟩ := open_listV g6
  obtain ⟨ayr, cyr, yr, rfl, la, fa, ea⟩ := open_rowsV g7
  obtain ⟨ayn, cyn, yn, rfl, lb, fb, eb⟩ := open_rowsV g8
  obtain rfl : v2 = .int .i64 n2 := List.head_eq_of_cons_eq p2
  simp only [Prod.mk.injEq] at hx
  have hn := wf_bounds q2
  refine ⟨⟨main, aux, n2, roots, last, ons, ⟨xp, xr, xn⟩, ⟨yp, yr, yn⟩⟩, a0, a1, ar, als, ao, axp, axr, axn, ayp, ayr, ayn, c0, c1, cr, cls, co, cxp, cxr, cxn, cyp, cyr, cyn, rfl, ⟨l0, l1, l3, l4, l5, l6, l7, l8, l9, la, lb⟩, ⟨f0, f1, (show Z64 n2 from ⟨hn.1, by have := hn.2; omega⟩), ⟨f3, f4, f5⟩, ⟨f6, f7, f8⟩, ⟨f9, fa, fb⟩⟩, y0.1, y1.1, y2.1, y3.1, y4.1, y5.1, hx.1, e0, e1, ?_, ?_, ?_⟩
  · exact ⟨_, _, _, by rw [hz3], e3, e4, e5⟩
  · exact ⟨_, _, _, by rw [hz4], e6, e7, e8⟩
  · exact ⟨_, _, _, by rw [hz5], e9, ea, eb⟩
theorem okO_of {o : OnZ} (h : Fits o.ps ∧ (∀ k, k < o.rows.length → Fits (rat o.rows k)) ∧ (∀ k, k < o.nodes.length → Fits (rat o.nodes k))) (hl : (vbO o).length ≤ 1048576 * 10) : okO o := by
  unfold vbO at hl
  rw [List.length_append, List.length_append] at hl
  have h1 := vln_L o.ps
  have h2 := vln_R o.rows
  have h3 := vln_R o.nodes
  exact ⟨okL_of h.1 (by omega), okR_of h.2.1 (by omega) (fun k hk => by have := vln_rat o.rows k hk; omega), okR_of h.2.2 (by omega) (fun k hk => by have := vln_rat o.nodes k hk; omega)⟩
/-- a voucher that can be written -/
theorem okV_of {z : VoZ} (h : Fits z.main ∧ Fits z.aux ∧ Z64 z.tries ∧ ((∀ k, k < z.roots.length → Fits (rat z.roots k)) ∧ Fits z.last ∧ FitsN z.opens) ∧ (Fits z.rows.ps ∧ (∀ k, k < z.rows.rows.length → Fits (rat z.rows.rows k)) ∧ (∀ k, k < z.rows.nodes.length → Fits (rat z.rows.nodes k))) ∧ (Fits z.lst.ps ∧ (∀ k, k < z.lst.rows.length → Fits (rat z.lst.rows k)) ∧ (∀ k, k < z.lst.nodes.length → Fits (rat z.lst.nodes k)))) (hl : (vbV z).length ≤ 10485760) : okV z := by
  unfold vbV at hl
  simp only [List.length_append] at hl
  have h1 := vln_L z.main
  have h2 := vln_L z.aux
  have h3 := vln_R z.roots
  have h4 := vln_L z.last
  have h5 := vln_Os z.opens
  obtain ⟨f0, f1, f2, ⟨f3, f4, f5⟩, f6, f7⟩ := h
  refine ⟨okL_of f0 (by omega), okL_of f1 (by omega), f2, okR_of f3 (by omega) (fun k hk => by have := vln_rat z.roots k hk; omega), okL_of f4 (by omega), ⟨fun o ho => ?_, by omega⟩, okO_of f6 (by omega), okO_of f7 (by omega)⟩
  obtain ⟨k, hk, rfl⟩ := List.getElem_of_mem ho
  have e : onat z.opens k = z.opens[k] := by simp [onat, hk]
  have g := f5 k hk
  have g2 := vln_onat z.opens k hk
  rw [e] at g g2
  exact okO_of g (by omega)

end Go.Proofs.YtcajofdmadpmoaaDoor

namespace Go.Proofs.YtcajofdmadpmoaaDoor

theorem blk_one {H : Type} (d : DataW H) : 1 ≤ Rows.uptoBulk d := by
  cases d with
  | lit l => cases l <;> simp [Rows.uptoBulk]
  | nil => simp [Rows.uptoBulk]
  | ptr d => simp [Rows.uptoBulk]
  | slice elems spare => simp [Rows.uptoBulk]
  | agg parts => simp [Rows.uptoBulk]
  | iface t d => simp [Rows.uptoBulk]
  | map entries => simp [Rows.uptoBulk]
  | held h => simp [Rows.uptoBulk]
theorem blk_len {H : Type} : ∀ l : List (DataW H), l.length ≤ Rows.uptoBulkAll l
  | [] => by simp [Rows.uptoBulkAll]
  | x :: r => by have := blk_one x; have := blk_len r; simp only [Rows.uptoBulkAll, List.length_cons]; omega
/-- a flattened list is no longer than ten times its datum's bulk -/
theorem blk_flat {α H : Type} (f : α → List Nat) : ∀ (l : List α) (es : List (DataW H)), es.length = l.length → (∀ (k : Nat) (x : α) (d : DataW H), l[k]? = some x → es[k]? = some d → (f x).length ≤ 10 * Rows.uptoBulk d) → (l.map f).flatten.length ≤ 10 * Rows.uptoBulkAll es
  | [], _, _, _ => by simp
  | x :: l, [], h, _ => by simp at h
  | x :: l, d :: es, h, hk => by
    have h1 := hk 0 x d rfl rfl
    have h2 := blk_flat f l es (by simpa using h) (fun k x d a b => hk (k + 1) x d (by simpa using a) (by simpa using b))
    simp only [List.map_cons, List.flatten_cons, List.length_append, Rows.uptoBulkAll]
    omega
theorem blk_small {n : Nat} (h : n < 18446744073709551616) : (vby n).length ≤ 10 := vby_le10 h
theorem blk_L {H : Type} {d : DataW H} {l : List Int} (h : ListDat d l) (hb : Rows.uptoBulk d ≤ 1048576) : (vbL l).length ≤ 10 * Rows.uptoBulk d := by
  rcases h with ⟨rfl, rfl⟩ | ⟨es, sp, rfl, he⟩
  · have := blk_small (n := 0) (by decide)
    simp [vbL, Rows.uptoBulk]
    omega
  · simp only [Rows.uptoBulk] at hb ⊢
    have h1 := blk_len es
    have h2 := blk_small (n := l.length) (by omega)
    have h3 := blk_flat (H := H) vbI l es he (fun k x d _ _ => by
      have a := vby_le10 (uzz_lt x)
      have b := blk_one d
      unfold vbI
      omega)
    unfold vbL
    rw [List.length_append]
    omega
theorem blk_elem {H : Type} : ∀ {es : List (DataW H)} {k : Nat} {d : DataW H}, es[k]? = some d → Rows.uptoBulk d ≤ Rows.uptoBulkAll es
  | [], _, _, h => by simp at h
  | x :: r, 0, d, h => by
    simp only [List.getElem?_cons_zero, Option.some.injEq] at h
    subst h
    simp only [Rows.uptoBulkAll]
    omega
  | x :: r, k + 1, d, h => by
    simp only [List.getElem?_cons_succ] at h
    have := blk_elem h
    simp only [Rows.uptoBulkAll]
    omega
theorem blk_R {H : Type} {d : DataW H} {l : List (List Int)} (h : RowsDat d l) (hb : Rows.uptoBulk d ≤ 1048576) : (vbR l).length ≤ 10 * Rows.uptoBulk d := by
  rcases h with ⟨rfl, rfl⟩ | ⟨es, sp, rfl, he, hk⟩
  · have := blk_small (n := 0) (by decide)
    simp [vbR, Rows.uptoBulk]
    omega
  · simp only [Rows.uptoBulk] at hb ⊢
    have h1 := blk_len es
    have h2 := blk_small (n := l.length) (by omega)
    have h3 := blk_flat (H := H) vbL l es he (fun k x d a b => by
      have hkl : k < l.length := (List.getElem?_eq_some_iff.1 a).1
      obtain ⟨dk, e1, e2⟩ := hk k hkl
      rw [b] at e1
      injection e1 with e1
      subst e1
      have e3 : rat l k = x := by simp [rat, a]
      rw [e3] at e2
      exact blk_L e2 (by have := blk_elem b; omega))
    unfold vbR
    rw [List.length_append]
    omega
theorem blk_O {H : Type} {d : DataW H} {o : OnZ} (h : OpenDat d o.ps o.rows o.nodes) (hb : Rows.uptoBulk d ≤ 1048576) : (vbO o).length ≤ 10 * Rows.uptoBulk d := by
  obtain ⟨d0, d1, d2, rfl, e0, e1, e2⟩ := h
  simp only [Rows.uptoBulk, Rows.uptoBulkAll] at hb ⊢
  have h0 := blk_L e0 (by omega)
  have h1 := blk_R e1 (by omega)
  have h2 := blk_R e2 (by omega)
  unfold vbO
  rw [List.length_append, List.length_append]
  omega
theorem blk_Os {H : Type} {d : DataW H} {l : List OnZ} (h : OnsDat d l) (hb : Rows.uptoBulk d ≤ 1048576) : (vbOs l).length ≤ 10 * Rows.uptoBulk d := by
  rcases h with ⟨rfl, rfl⟩ | ⟨es, sp, rfl, he, hk⟩
  · have := blk_small (n := 0) (by decide)
    simp [vbOs, Rows.uptoBulk]
    omega
  · simp only [Rows.uptoBulk] at hb ⊢
    have h1 := blk_len es
    have h2 := blk_small (n := l.length) (by omega)
    have h3 := blk_flat (H := H) vbO l es he (fun k x d a b => by
      have hkl : k < l.length := (List.getElem?_eq_some_iff.1 a).1
      obtain ⟨dk, e1, e2⟩ := hk k hkl
      rw [b] at e1
      injection e1 with e1
      subst e1
      have e3 : onat l k = x := by simp [onat, a]
      rw [e3] at e2
      exact blk_O e2 (by have := blk_elem b; omega))
    unfold vbOs
    rw [List.length_append]
    omega
/-- the bound gives both lengths -/
theorem small_v {H : Type} {d0 d1 : DataW H} {z : VoZ} {bs : List Nat} (hk : Rows.uptoSmall H [d0, d1] = true) (h0 : VouDat d0 z) (h1 : (d1 = .nil ∧ bs = []) ∨ ∃ elems spare, d1 = .slice elems spare ∧ elems.length = bs.length) :
    (vbV z).length ≤ 10485760 ∧ bs.length ≤ 1048576 := by
  have h : Rows.uptoBulkAll [d0, d1] ≤ 1048576 := of_decide_eq_true hk
  simp only [Rows.uptoBulkAll] at h
  refine ⟨?_, ?_⟩
  · have hb : Rows.uptoBulk d0 ≤ 1048576 := by omega
    obtain ⟨e0, e1, x2, e3, e4, e5, rfl, q0, q1, ⟨f0, f1, f2, rfl, p0, p1, p2⟩, q4, q5⟩ := h0
    simp only [Rows.uptoBulk, Rows.uptoBulkAll] at hb
    have a0 := blk_L q0 (by omega)
    have a1 := blk_L q1 (by omega)
    have a2 := vby_le10 (uzz_lt z.tries)
    have a3 := blk_R p0 (by omega)
    have a4 := blk_L p1 (by omega)
    have a5 := blk_Os p2 (by omega)
    have a6 := blk_O q4 (by omega)
    have a7 := blk_O q5 (by omega)
    have a8 := blk_one x2
    unfold vbV vbI
    simp only [List.length_append]
    omega
  · rcases h1 with ⟨_, rfl⟩ | ⟨elems, spare, rfl, he⟩
    · simp
    · have := blk_len elems
      simp only [Rows.uptoBulk] at h
      omega

end Go.Proofs.YtcajofdmadpmoaaDoor

namespace Go.Proofs.YtcajofdmadpmoaaDoor
open Go.ChangeShapes Go.WideShapes Go.RowKit

theorem open_bytes {H : Type} {enc : TypeId × Value → H} {W : World} {a : Option Addr} {len cap fuel : Nat} {d : DataW H} {pl : List MemPlace}
    (hf : DataW.trod enc Tryd.prog W 0 (fun _ => true) true fuel 31 (Value.slice a len cap).cells.toList = some (d, pl)) :
    ∃ bs : List Nat, len = bs.length ∧ ByR W.heap.size W a cap bs ∧ (∀ b, b ∈ bs → b < 256) ∧ ((d = .nil ∧ bs = []) ∨ ∃ elems spare, d = .slice elems spare ∧ elems.length = bs.length) := by
  rcases open_ints Tryd.underlying31 Tryd.underlying5 (by kernel_rfl) hf with ⟨hcs, hx⟩ | ⟨x, l, c, zs, hcs, _, hl, hm, hz, hx, hcell, hwz⟩
  · simp [Value.cells] at hcs
    obtain ⟨rfl, rfl, rfl⟩ := hcs
    simp only [Prod.mk.injEq] at hx
    exact ⟨[], rfl, ⟨fun k hk => absurd hk (Nat.not_lt_zero _), Nat.le_refl _, fun _ => rfl⟩, fun b hb => by simp at hb, Or.inl ⟨hx.1, rfl⟩⟩
  · simp [Value.cells] at hcs
    obtain ⟨rfl, rfl, rfl⟩ := hcs
    have hzc : zs.length = cap := by simpa using hz
    have htk : ((zs.take len).map Int.toNat).length = len := by simp; omega
    have hb8 : ∀ z, z ∈ zs → 0 ≤ z ∧ z < 256 := fun z hz => by
      have := hwz z hz
      have := bounds_u8 this
      omega
    simp only [Prod.mk.injEq] at hx
    refine ⟨(zs.take len).map Int.toNat, htk.symm, ⟨?_, by omega, fun e => by cases e⟩, ?_, Or.inr ⟨_, _, hx.1, by simp [lits]⟩⟩
    · intro k hk
      rw [htk] at hk
      obtain ⟨b, off, rfl, hc⟩ := ints_at hcell (by omega)
      refine ⟨b, off, rfl, ?_, ?_⟩
      · have := hc k (by omega)
        rcases Nat.lt_or_ge b W.heap.size with g | g
        · exact g
        · simp [World.cell?, Array.getElem?_eq_none g] at this
      · have hk2 : k < zs.length := by omega
        have h0 := hb8 zs[k] (List.getElem_mem _)
        rw [hc k hk2]
        simp [bat, hk, hk2]
        omega
    · intro b hb
      obtain ⟨z, hz, rfl⟩ := List.mem_map.1 hb
      have := hb8 z (List.mem_of_mem_take hz)
      omega

end Go.Proofs.YtcajofdmadpmoaaDoor
