/- Package tree: checked, where it is right by its form. Package tree: Check. slices.Sorted of slices.Values, slices.Compact: the places once each, ascending. -/
import Derived.Test.YtmmlphdekeflfaaGreatDoorPcAL
import Derived.Shelf.Slices.In.SortNone
import Derived.Lib.SlKeysI
import Derived.Test.YtmmlphdekeflfaaGreatDoorPcAB
import Derived.Test.YtmmlphdekeflfaaGreatDoorPcAH
namespace Go.Proofs.YtmmlphdekeflfaaGreatDoor
open Go.RowKit

theorem gcs_at : ∀ (l : List (Nat × Nat)) (k : Nat), k < l.length → (gcs l)[k * 2]? = some (.int .i64 ((l.getD k (0, 0)).1 : Int)) ∧ (gcs l)[k * 2 + 1]? = some (.int .i64 ((l.getD k (0, 0)).2 : Int))
  | [], _, h => by simp at h
  | g :: l, 0, _ => by simp [gcs]
  | g :: l, k + 1, h => by
    have := gcs_at l k (by simpa using h)
    simp only [gcs, List.flatMap_cons] at this ⊢
    rw [show (k + 1) * 2 = (k * 2) + 2 by omega, show (k * 2) + 2 + 1 = (k * 2 + 1) + 2 by omega]
    simpa using this
theorem ownG_cells {base : Nat} {w : World} {v : Value} {l : List (Nat × Nat)} (h : OwnG base w v l) {k : Nat} (hk : k < l.length) : ∃ gv, v = .slice (some ⟨gv, 0, none⟩) l.length (match v with | .slice _ _ c => c | _ => 0) ∧ base ≤ gv ∧ gv < w.heap.size ∧ w.cell? ⟨gv, k * 2, none⟩ = some (.int .i64 ((l.getD k (0, 0)).1 : Int)) ∧ w.cell? ⟨gv, k * 2 + 1, none⟩ = some (.int .i64 ((l.getD k (0, 0)).2 : Int)) := by
  rcases h.2 with ⟨_, h0⟩ | ⟨g, cap, cur, rfl, hb, hg, hn, hm, hs, ht⟩
  · omega
  · obtain ⟨e1, e2⟩ := gcs_at l k hk
    rw [← ht, List.getElem?_take, if_pos (by omega)] at e1 e2
    refine ⟨g, rfl, hb, (Array.getElem?_eq_some_iff.1 hg).1, ?_, ?_⟩
    · simp only [World.cell?, hg]
      simpa using e1
    · simp only [World.cell?, hg]
      simpa using e2
/-- what stands while a walk goes on -/
structure CkW (w : World) (g B s : Nat) (opn : Array Value) (W : World) (M : Nat → Nat → Option (List Int)) : Prop where
  below : Below w.heap.size w W
  opn : W.heap[w.heap.size]? = some (.cells opn 49 (0, 0))
  wlk : WlkAt W g B s
  map : MapIs W B M
theorem CkW.gb {w : World} {g B s : Nat} {opn : Array Value} {W W' : World} {M M' : Nat → Nat → Option (List Int)} (h : CkW w g B s opn W M) (hB : w.heap.size < B) (e : W.grownBy W' (some B)) (hM : MapIs W' B M') : CkW w g B s opn W' M' := by
  have hBg : g ≠ B := fun e' => by
    obtain ⟨es, ck, h1, _⟩ := h.map
    have h2 := h.wlk
    unfold WlkAt at h2
    rw [e', h1] at h2
    cases h2
  refine ⟨⟨e.os.trans h.below.os, e.tape.trans h.below.tape, e.output.trans h.below.output, Nat.le_trans h.below.size e.size, fun k hk => (gb_blk e (by have := h.below.size; omega) (by omega)).trans (h.below.block k hk)⟩, (gb_blk e (Array.getElem?_eq_some_iff.1 h.opn).1 (by omega)).trans h.opn, h.wlk.block (gb_blk e h.wlk.lt hBg), hM⟩
theorem CkW.bl {w : World} {g B s : Nat} {opn : Array Value} {W W' : World} {M : Nat → Nat → Option (List Int)} (h : CkW w g B s opn W M) (e : Below W.heap.size W W') : CkW w g B s opn W' M :=
  ⟨h.below.trans (e.mono h.below.size), (e.block _ (Array.getElem?_eq_some_iff.1 h.opn).1).trans h.opn, h.wlk.block (e.block _ h.wlk.lt), h.map.below e h.map.lt⟩

/-- a walk that has come to its root -/
def WlkDone (q n N : Nat) (ps : List Int) (rows nodes : List (List Int)) (w : World) (g B s : Nat) (w' : World) : Prop :=
  w.heap.size < B ∧ WlkAt w' g B s ∧ Below w.heap.size w w' ∧ ∃ M', MapIs w' B M' ∧ Snd M' (DV q n (M0 q n N ps rows nodes)) ∧ ClM (M0 q n N ps rows nodes) M' ∧ M' 0 N ≠ none
theorem CkW.done {q n N : Nat} {ps : List Int} {rows nodes : List (List Int)} {w : World} {g B s : Nat} {opn : Array Value} {W : World} (hB : w.heap.size < B) (h : ∃ M', CkW w g B s opn W M' ∧ Snd M' (DV q n (M0 q n N ps rows nodes)) ∧ ClM (M0 q n N ps rows nodes) M' ∧ M' 0 N ≠ none) : WlkDone q n N ps rows nodes w g B s W := by
  obtain ⟨M', h1, h2, h3, h4⟩ := h
  exact ⟨hB, h1.wlk, h1.below, M', h1.map, h2, h3, h4⟩

set_option maxRecDepth 100000 in
set_option maxHeartbeats 2000000 in
theorem checked_yes (q n d b s c4 cp cr cn : Nat) (a4 ap ar an' : Option Addr) (root : List Int) (N : Nat) (ps : List Int) (rows nodes : List (List Int)) (w : World) (hs1 : 1 ≤ N) (hs2 : N ≤ 65536) (h4 : root.length = 4) (hsh : shwn N ps rows nodes) (ok : SpgOk q n d) (hs : SpgAt w s b q n d) (hpl : ps.length ≤ 281474976710656) (hnl : nodes.length ≤ 281474976710656) (hf4 : Fits root) (hfp : Fits ps) (hfr : FitsR rows) (hfn : FitsR nodes) (hl4 : Lst w.heap.size w a4 c4 root) (hp : Lst w.heap.size w ap cp ps) (hr : LstR w.heap.size w ar cr rows) (hn : LstR w.heap.size w an' cn nodes) :
    Calls Tryz.prog 75 #[.pointer (some ⟨s, 0, none⟩), .slice a4 root.length c4, .int .i64 (N : Int), .agg #[.slice ap ps.length cp, .slice ar rows.length cr, .slice an' nodes.length cn]] w fun e w' => ∃ g B, e = .returned (.tuple #[.pointer (some ⟨g, 0, none⟩), .bool (decide (DV q n (M0 q n N ps rows nodes) 0 N = elr q root))]) ∧ WlkDone q n N ps rows nodes w g B s w' := by
  have HB0 : Hid (Below w.heap.size w (w.alloc (.cells #[.slice ap ps.length cp, .slice ar rows.length cr, .slice an' nodes.length cn] 49))) := (Below.refl _ _).alloc (Nat.le_refl _) _
  have HO := hid (tri_arr (tri_new w 49 (.slice ap ps.length cp) (.slice ar rows.length cr) (.slice an' nodes.length cn)))
  have HSH := hid hsh
  have HL := hid hp
  have HNL := hid hn
  have HI := hid (fun W => issize_any (N : Int) W)
  rw [show (decide (1 ≤ (N : Int)) && decide ((N : Int) ≤ 65536)) = true by simp; omega] at HI
  have HD := hid (fun W => isdigest_any a4 root.length c4 W)
  rw [decide_eq_true h4, h4] at HD
  rw [h4]
  have HS : Hid (∀ W, Below w.heap.size w W → Calls Tryz.prog 133 #[.agg #[.int .i64 0, .int .i64 (N : Int)], .agg #[.slice ap ps.length cp, .slice ar rows.length cr, .slice an' nodes.length cn]] W fun e w' => e = .returned (.bool true) ∧ Below W.heap.size W w') := fun W h => by
    refine (isshown_any N cp cr cn ap ar an' ps rows nodes W hs1 hs2 hpl hnl ((HL.out.below h).mono h.size) ((HNL.out.below h).mono h.size)).mono ?_
    rintro e w' ⟨⟨t, rfl, ht⟩, hb⟩
    exact ⟨by rw [ht.2 HSH.out], hb⟩
  clear hsh hp hn
  go_enter Tryz.func75, Tryz.ntmps75
  go_wp2_with fail
  generalize w.alloc (.cells #[.slice ap ps.length cp, .slice ar rows.length cr, .slice an' nodes.length cn] 49) = W0 at *
  refine (HI.out W0).mono ?_
  rintro e w1 ⟨rfl, rfl⟩
  go_wp2_with fail
  refine (HD.out w1).mono ?_
  rintro e w2 ⟨rfl, rfl⟩
  have k0 := opn_c0 HO.out
  have k1 := opn_c1 HO.out
  have k2 := opn_c2 HO.out
  go_wp2_with fail
  refine (HS.out w2 HB0.out).mono ?_
  rintro e w3 ⟨rfl, hb3⟩
  have HB3 : Hid (Below w.heap.size w w3) := HB0.out.trans (hb3.mono HB0.out.size)
  have HO3 : Hid (w3.heap[w.heap.size]? = some (.cells #[.slice ap ps.length cp, .slice ar rows.length cr, .slice an' nodes.length cn] 49 (0, 0))) := (hb3.block _ (Array.getElem?_eq_some_iff.1 HO.out).1).trans HO.out
  clear hb3
  have HNW := hid (newwalk_any s w3)
  go_wp2_with fail
  refine HNW.out.mono ?_
  rintro e w4 ⟨rfl, hwl, hmp, hsz, hb4⟩
  have HCK : Hid (CkW w (w3.heap.size + 1) w3.heap.size s #[.slice ap ps.length cp, .slice ar rows.length cr, .slice an' nodes.length cn] w4 (fun _ _ => none)) := ⟨HB3.out.trans (hb4.mono HB3.out.size), (hb4.block _ (Array.getElem?_eq_some_iff.1 HO3.out).1).trans HO3.out, hwl, hmp⟩
  have hB1 : w.heap.size < w3.heap.size := (Array.getElem?_eq_some_iff.1 HO3.out).1
  have hB2 : w4.heap.size = w3.heap.size + 2 := hsz
  have k0' := opn_c0 HCK.out.opn
  clear hwl hmp hb4 hsz HB3 HO3 HNW HS HD HI HO HB0 k0 k1 k2
  have HHI : Hid (∀ W, Below w4.heap.size w4 W → Calls Tryz.prog 135 #[.agg #[.int .i64 0, .int .i64 (N : Int)], .slice ap ps.length cp] W fun e w' => ∃ v, e = .returned v ∧ OwnG w4.heap.size w' v (hd2 ps N 0 N) ∧ Below w4.heap.size w4 w') := fun W h => by
    have hsg := seg_all (N := N) (ps := ps) (fun x hx => by
      obtain ⟨j, hj, rfl⟩ := mem_zat hx
      have := HSH.out.2.1 j hj
      omega)
    have hbw := HCK.out.below.trans (h.mono HCK.out.below.size)
    have := hidden_any ps (asc_of HSH.out.2.1) N 0 N hs1 (Nat.le_refl _) (by omega) cp ap W (by rw [hsg]; exact (HL.out.below hbw).mono hbw.size)
    rw [hsg, Nat.zero_add] at this
    refine this.mono ?_
    rintro e w5 ⟨v, rfl, hov, hb5⟩
    exact ⟨v, rfl, hov.mono h.size, h.trans (hb5.mono h.size)⟩
  go_wp2_with fail
  refine (HHI.out w4 (Below.refl _ _)).mono ?_
  rintro e w5 ⟨v, rfl, hov, hb5⟩
  have HOV := hid hov
  have HCK5 := hid (HCK.out.bl hb5)
  have hs5 := hb5.size
  obtain ⟨hl, hhl⟩ : ∃ hl, hl = (hd2 ps N 0 N).length := ⟨_, rfl⟩
  have HHL := hid hhl
  obtain ⟨av, c5, rfl⟩ : ∃ av c5, v = .slice av hl c5 := by
    rcases hov.2 with ⟨rfl, h0⟩ | ⟨g5, c5, _, rfl, _⟩
    · exact ⟨none, 0, by rw [hhl, h0]⟩
    · exact ⟨_, _, by rw [hhl]⟩
  have hll : hl ≤ 65536 := by have := hd2_len ps N 0 N hs1 (Nat.le_refl _); omega
  have HCEL : Hid (∀ (W : World), w5.grownBy W (some w3.heap.size) → ∀ k, k < hl → ∃ gv, av = some ⟨gv, 0, none⟩ ∧ W.cell? ⟨gv, k * 2, none⟩ = some (.int .i64 (((hd2 ps N 0 N).getD k (0, 0)).1 : Int)) ∧ W.cell? ⟨gv, k * 2 + 1, none⟩ = some (.int .i64 (((hd2 ps N 0 N).getD k (0, 0)).2 : Int))) := fun W hW k hk => by
    rw [hhl] at hk
    obtain ⟨gv, e1, e2, e3, e4, e5⟩ := ownG_cells HOV.out hk
    simp only [Value.slice.injEq] at e1
    exact ⟨gv, e1.1, (gb_cell hW (p := ⟨gv, k * 2, none⟩) e3 (by show gv ≠ _; omega)).trans e4, (gb_cell hW (p := ⟨gv, k * 2 + 1, none⟩) e3 (by show gv ≠ _; omega)).trans e5⟩
  clear hov hb5 hhl HCK HHI k0'
  have h3 : 3 ≤ q := by have := ok.h23; omega
  have hm := ok.hm
  have HSP := hid hs
  have HFN := hid hfn
  have HOKK := hid ok
  have HRL := hid hr
  have HFR := hid hfr
  have HL4 := hid hl4
  have HF4 := hid hf4
  have HFP := hid hfp
  clear hs hfn ok hr hfr hl4 hf4 hfp
  generalize w3.heap.size = B at *
  go_wp2_with fail
  go_loopw [38] (fun iv wr => ∃ k : Nat, k ≤ hl ∧ iv = .int .i64 k ∧ Hid (CkW w (B + 1) B s #[.slice ap ps.length cp, .slice ar rows.length cr, .slice an' nodes.length cn] wr (mput (L1 q (hd2 ps N 0 N) nodes k)) ∧ w5.grownBy wr (some B))) (fun iv _ => hl - (intOf iv).toNat)
  case atStart => exact ⟨0, by omega, rfl, HCK5.out, gb_refl _ _⟩
  case round =>
    obtain ⟨k, hk, rfl, hC⟩ := hrel
    by_cases hlt : k < hl
    · have hlt2 : (k : Int) < (hl : Int) := by omega
      have hks : IntKind.i64.wrap ((k : Int) + 1) = (k : Int) + 1 := by rw [IntKind.wrap_i64]; omega
      obtain ⟨gv, rfl, hcv1, hcv2⟩ := HCEL.out wr hC.out.2 k hlt
      have hkn : k < nodes.length := by rw [HSH.out.2.2.2, ← HHL.out]; exact hlt
      have hkn2 : (k : Int) < (nodes.length : Int) := by omega
      obtain ⟨bn, on, ak, ck, hae, hbn, hcn, hln⟩ := HNL.out.row k hkn
      subst hae
      have h4k := HSH.out.2.2.1 k hkn
      rw [h4k] at hcn
      have hhd := hd_at (ps := ps) hs1 (show k < (hd2 ps N 0 N).length by rw [← HHL.out]; exact hlt)
      have HMS : Hid (mput (L1 q (hd2 ps N 0 N) nodes (k + 1)) = upd (mput (L1 q (hd2 ps N 0 N) nodes k)) ((hd2 ps N 0 N).getD k (0, 0)).1 ((hd2 ps N 0 N).getD k (0, 0)).2 (elr q (rat nodes k))) := by unfold Hid; rw [L1_succ, mput_snoc]
      obtain ⟨ga, hga⟩ : ∃ ga, ga = ((hd2 ps N 0 N).getD k (0, 0)).1 := ⟨_, rfl⟩
      obtain ⟨gb, hgb⟩ : ∃ gb, gb = ((hd2 ps N 0 N).getD k (0, 0)).2 := ⟨_, rfl⟩
      rw [← hga, ← hgb] at HMS hhd
      rw [← hga] at hcv1
      rw [← hgb] at hcv2
      have HCW := hid (hC.out.1.bl ((Below.refl _ _).alloc (Nat.le_refl _) (.cells #[.int .i64 (ga : Int), .int .i64 (gb : Int)] 135)))
      have HG1 : Hid (w5.grownBy (wr.alloc (.cells #[.int .i64 (ga : Int), .int .i64 (gb : Int)] 135)) (some B)) := gb_trans hC.out.2 (World.grownBy_alloc _ _ _)
      have HLg := hid (duo_new wr 135 (.int .i64 (ga : Int)) (.int .i64 (gb : Int)))
      have hBr : B < wr.heap.size := hC.out.1.map.lt
      clear hC hga hgb 
      go_wp2_with fail
      generalize wr.alloc (.cells #[.int .i64 (ga : Int), .int .i64 (gb : Int)] 135) = W1 at *
      have HKe : Hid (∀ W, Below W1.heap.size W1 W → W.cell? ⟨B + 1, 1, none⟩ = some (.map (some B)) ∧ W.cell? ⟨wr.heap.size, 0, none⟩ = some (.int .i64 (ga : Int)) ∧ W.cell? ⟨wr.heap.size, 1, none⟩ = some (.int .i64 (gb : Int)) ∧ W.cell? ⟨w.heap.size, 2, none⟩ = some (.slice (some ⟨bn, on, none⟩) nodes.length cn) ∧ W.cell? ⟨bn, on + k, none⟩ = some (.slice ak 4 ck)) := fun W h => by
        have hc := HCW.out.bl h
        exact ⟨hc.wlk.c1, (h.cell (p := ⟨wr.heap.size, 0, none⟩) HLg.out.lt).trans (HLg.out.cell (i := 0) (by omega)), (h.cell (p := ⟨wr.heap.size, 1, none⟩) HLg.out.lt).trans (HLg.out.cell (i := 1) (by omega)), opn_c2 hc.opn, (hc.below.cell (p := ⟨bn, on + k, none⟩) hbn).trans hcn⟩
      have HFd : Hid (∀ W, Below W1.heap.size W1 W → Calls Tryz.prog 8 #[.pointer (some ⟨s, 0, none⟩)] W fun e w' => e = .returned (.pointer (some ⟨b, 0, none⟩)) ∧ w' = W) := fun W h => sfield_any q n d b s W (HSP.out.keep (HCW.out.bl h).below)
      have HDg : Hid (∀ W, Below W1.heap.size W1 W → Calls Tryz.prog 136 #[.pointer (some ⟨b, 0, none⟩), .slice ak 4 ck] W fun e w' => e = .returned (d4 (elr q (rat nodes k))) ∧ Below W1.heap.size W1 w' ∧ ∃ w2, (Instr.mapUpdate 178 (.map (some B)) (.agg #[.int .i64 (ga : Int), .int .i64 (gb : Int)]) (d4 (elr q (rat nodes k)))).run Tryz.prog w' = .ok () w2 ∧ (w2.cell? ⟨B + 1, 1, none⟩ = some (.map (some B)) ∧ w2.cell? ⟨wr.heap.size, 0, none⟩ = some (.int .i64 (ga : Int)) ∧ w2.cell? ⟨wr.heap.size, 1, none⟩ = some (.int .i64 (gb : Int)) ∧ w2.cell? ⟨w.heap.size, 2, none⟩ = some (.slice (some ⟨bn, on, none⟩) nodes.length cn) ∧ w2.cell? ⟨bn, on + k, none⟩ = some (.slice ak 4 ck)) ∧ Hid (CkW w (B + 1) B s #[.slice ap ps.length cp, .slice ar rows.length cr, .slice (some ⟨bn, on, none⟩) nodes.length cn] w2 (mput (L1 q (hd2 ps N 0 N) nodes (k + 1))) ∧ w5.grownBy w2 (some B))) := fun W h => by
        have hc := HCW.out.bl h
        refine (digestof_any q b ck ak (rat nodes k) W h3 hm (HSP.out.keep hc.below).p h4k (HFN.out k hkn).1 ((hln.row.below hc.below).mono hc.below.size)).mono ?_
        rintro e w' ⟨rfl, hb'⟩
        have h' := h.trans (hb'.mono h.size)
        have hc' := HCW.out.bl h'
        have hk' := HKe.out w' h'
        obtain ⟨w2, r1, r2, r3⟩ := hc'.map.update (a := ga) (b := gb) (by omega) (by omega) (elr q (rat nodes k))
        have hca := hc'.gb hB1 r3 r2
        have ed : an 4 (fun j => zat (rat nodes k) j % (q : Int)) = an 4 (zat (elr q (rat nodes k))) := an_congr (fun j hj => by unfold elr; rw [ls_at _ _ _ (by omega)])
        have hne : ∀ (p : Addr), p.block < w'.heap.size → p.block ≠ B → w2.cell? p = w'.cell? p := fun p h1 h2 => gb_cell r3 h1 h2
        have hs' := h'.size
        have hlg := HLg.out.lt
        refine ⟨by rw [ed, an4]; rfl, h', w2, ?_, ⟨hca.wlk.c1, (hne ⟨wr.heap.size, 0, none⟩ (by show wr.heap.size < _; omega) (by show wr.heap.size ≠ _; omega)).trans hk'.2.1, (hne ⟨wr.heap.size, 1, none⟩ (by show wr.heap.size < _; omega) (by show wr.heap.size ≠ _; omega)).trans hk'.2.2.1, opn_c2 hca.opn, (hca.below.cell (p := ⟨bn, on + k, none⟩) hbn).trans hcn⟩, ?_, gb_trans (gb_trans HG1.out (gb_below h')) r3⟩
        · rw [an4] at r1
          exact r1
        · rw [HMS.out]
          exact hca
      have hd1 : Below W1.heap.size W1 W1.drew := (Below.refl _ _).drew
      go_region_held3 (fun W => W.cell? ⟨B + 1, 1, none⟩ = some (.map (some B)) ∧ W.cell? ⟨wr.heap.size, 0, none⟩ = some (.int .i64 (ga : Int)) ∧ W.cell? ⟨wr.heap.size, 1, none⟩ = some (.int .i64 (gb : Int)) ∧ W.cell? ⟨w.heap.size, 2, none⟩ = some (.slice (some ⟨bn, on, none⟩) nodes.length cn) ∧ W.cell? ⟨bn, on + k, none⟩ = some (.slice ak 4 ck)) (first | assumption | exact HKe.out _ (by assumption))
        (first
          | (go_at_call 8; refine (HFd.out _ (by assumption)).mono ?_; rintro e w' ⟨rfl, rfl⟩)
          | (go_at_call 136; refine (HDg.out _ (by assumption)).mono ?_; unfold d4; rintro e w' ⟨rfl, hbd, w2, hrun, hS2, hE⟩))
      go_wp2_with fail
      go_roundw
      case rel => exact ⟨k + 1, by omega, by go_num, hE⟩
      case measure => simp [intOf]; omega
    · obtain rfl : k = hl := by omega
      have HC1 := hC
      have k0' := opn_c0 hC.out.1.opn
      clear hC
      go_wp2_with fail
      go_loopw [60] (fun iv wt => ∃ j : Nat, j ≤ ps.length ∧ iv = .int .i64 j ∧ Hid (CkW w (B + 1) B s #[.slice ap ps.length cp, .slice ar rows.length cr, .slice an' nodes.length cn] wt (mput (L1 q (hd2 ps N 0 N) nodes k ++ L2 q n ps rows j)))) (fun iv _ => ps.length - (intOf iv).toNat)
      case atStart => exact ⟨0, by omega, rfl, by show CkW _ _ _ _ _ _ (mput (_ ++ [])); rw [List.append_nil]; exact HC1.out.1⟩
      case round =>
        obtain ⟨j, hj, rfl, hD⟩ := hrel
        by_cases hlt3 : j < ps.length
        · have hlt4 : (j : Int) < (ps.length : Int) := by omega
          have hks : IntKind.i64.wrap ((j : Int) + 1) = (j : Int) + 1 := by rw [IntKind.wrap_i64]; omega
          have hjr : j < rows.length := by rw [HSH.out.1]; exact hlt3
          have hjr2 : (j : Int) < (rows.length : Int) := by omega
          obtain ⟨bp, op, hae, hbp, hcp⟩ := HL.out.row j hlt3
          subst hae
          obtain ⟨br, or', ak, ck, hae, hbr, hcr, hlr⟩ := HRL.out.row j hjr
          subst hae
          have hzz := HSH.out.2.1 j hlt3
          obtain ⟨x, hx⟩ : ∃ x : Nat, zat ps j = (x : Int) := ⟨(zat ps j).toNat, by omega⟩
          rw [hx] at hcp
          have hxl : x ≤ 1000000 := by omega
          have c1 := (hD.out.below.cell (p := ⟨bp, op + j, none⟩) hbp).trans hcp
          have c2 := (hD.out.below.cell (p := ⟨br, or' + j, none⟩) hbr).trans hcr
          have c3 := opn_c1 hD.out.opn
          have HMS : Hid (mput (L1 q (hd2 ps N 0 N) nodes k ++ L2 q n ps rows (j + 1)) = upd (mput (L1 q (hd2 ps N 0 N) nodes k ++ L2 q n ps rows j)) x (x + 1) (digl q n (0 :: rat rows j))) := by
            unfold Hid
            rw [L2_succ, ← List.append_assoc, mput_snoc, hx, Int.toNat_natCast]
          have HSR := hid (seerow_any q n d b s (B + 1) B ck x ak (rat rows j) _ wr HOKK.out (HSP.out.keep hD.out.below) hD.out.wlk hD.out.map hxl (by have := (HFR.out j hjr).2; omega) (HFR.out j hjr).1 ((hlr.below hD.out.below).mono hD.out.below.size))
          have HCW := hD
          clear hD hcp hcr hzz hx hlr
          go_wp2_with fail
          refine HSR.out.mono ?_
          rintro e w6 ⟨rfl, hmp6, hgb6⟩
          have HE : Hid (CkW w (B + 1) B s #[.slice (some ⟨bp, op, none⟩) ps.length cp, .slice (some ⟨br, or', none⟩) rows.length cr, .slice an' nodes.length cn] w6 (mput (L1 q (hd2 ps N 0 N) nodes k ++ L2 q n ps rows (j + 1)))) := by
            unfold Hid
            rw [HMS.out]
            exact HCW.out.gb hB1 hgb6 hmp6
          clear hmp6 hgb6
          go_wp2_with fail
          go_roundw
          case rel => exact ⟨j + 1, by omega, by go_num, HE⟩
          case measure => simp [intOf]; omega
        · have hje : j = ps.length := by omega
          have HC2 : Hid (CkW w (B + 1) B s #[.slice ap ps.length cp, .slice ar rows.length cr, .slice an' nodes.length cn] wr (M0 q n N ps rows nodes)) := by
            have := hD.out
            rw [hje, HHL.out] at this
            exact this
          have hlt5 : ¬ (j : Int) < (ps.length : Int) := by omega
          clear hD hlt3 hj hje
          have hDv := DV_dgst (q := q) (n := n) (M := M0 q n N ps rows nodes) h3 (fun a b dd h => M0_dgst h3 (shwn_ok HSH.out) a b dd h)
          have HRT : Hid (Calls Tryz.prog 138 #[.pointer (some ⟨B + 1, 0, none⟩), .agg #[.int .i64 0, .int .i64 (N : Int)]] wr.drew fun e w' => e = .returned (d4 (DV q n (M0 q n N ps rows nodes) 0 N)) ∧ Hid (∃ M', CkW w (B + 1) B s #[.slice ap ps.length cp, .slice ar rows.length cr, .slice an' nodes.length cn] w' M' ∧ Snd M' (DV q n (M0 q n N ps rows nodes)) ∧ ClM (M0 q n N ps rows nodes) M' ∧ M' 0 N ≠ none)) := by
            have hcd : CkW w (B + 1) B s #[.slice ap ps.length cp, .slice ar rows.length cr, .slice an' nodes.length cn] wr.drew (M0 q n N ps rows nodes) := HC2.out.bl (Below.refl _ _).drew
            have hroot := wroot_any q n d b s (B + 1) B (DV q n (M0 q n N ps rows nodes)) (M0 q n N ps rows nodes) HOKK.out hDv (shwn_rd (q := q) (n := n) hs1 HSH.out).rdy (Nat.zero_le _) (by omega)
            refine (hroot (M0 q n N ps rows nodes) wr.drew (HSP.out.keep hcd.below) hcd.wlk hcd.map (fun _ _ h => h) (fun a b dd h => (DV_eq (.found h)).symm)).mono ?_
            rintro e w' ⟨rfl, ⟨M', g1, g2, g3, g4, g5⟩, hg⟩
            exact ⟨by rw [an4]; rfl, M', hcd.gb hB1 hg g1, g2, g4, g5⟩
          have HFd : Hid (∀ W, Hid (∃ M', CkW w (B + 1) B s #[.slice ap ps.length cp, .slice ar rows.length cr, .slice an' nodes.length cn] W M' ∧ Snd M' (DV q n (M0 q n N ps rows nodes)) ∧ ClM (M0 q n N ps rows nodes) M' ∧ M' 0 N ≠ none) → Calls Tryz.prog 8 #[.pointer (some ⟨s, 0, none⟩)] W fun e w' => e = .returned (.pointer (some ⟨b, 0, none⟩)) ∧ w' = W) := fun W h => by
            obtain ⟨M', h1, _⟩ := h.out
            exact sfield_any q n d b s W (HSP.out.keep h1.below)
          have HDg : Hid (∀ W, Hid (∃ M', CkW w (B + 1) B s #[.slice ap ps.length cp, .slice ar rows.length cr, .slice an' nodes.length cn] W M' ∧ Snd M' (DV q n (M0 q n N ps rows nodes)) ∧ ClM (M0 q n N ps rows nodes) M' ∧ M' 0 N ≠ none) → Calls Tryz.prog 136 #[.pointer (some ⟨b, 0, none⟩), .slice a4 4 c4] W fun e w' => e = .returned (d4 (elr q root)) ∧ Hid (∃ M', CkW w (B + 1) B s #[.slice ap ps.length cp, .slice ar rows.length cr, .slice an' nodes.length cn] w' M' ∧ Snd M' (DV q n (M0 q n N ps rows nodes)) ∧ ClM (M0 q n N ps rows nodes) M' ∧ M' 0 N ≠ none)) := fun W h => by
            obtain ⟨M', h1, h2⟩ := h.out
            refine (digestof_any q b c4 a4 root W h3 hm (HSP.out.keep h1.below).p h4 HF4.out ((HL4.out.row.below h1.below).mono h1.below.size)).mono ?_
            rintro e w' ⟨rfl, hb'⟩
            have ed : an 4 (fun j => zat root j % (q : Int)) = an 4 (zat (elr q root)) := an_congr (fun j hj => by unfold elr; rw [ls_at _ _ _ (by omega)])
            exact ⟨by rw [ed, an4]; rfl, M', h1.bl hb', h2⟩
          have hqr := fun W => eqd_run (hDv 0 N).1 (show (elr q root).length = 4 by unfold elr; rw [ls_len]; exact h4) W
          go_wp2_with fail
          go_region_held3 (fun _ => True) (trivial)
            (first
              | (go_at_call 138; refine HRT.out.mono ?_; unfold d4; rintro e w' ⟨rfl, hP6⟩)
              | (go_at_call 8; refine (HFd.out _ (by assumption)).mono ?_; rintro e w' ⟨rfl, rfl⟩)
              | (go_at_call 136; refine (HDg.out _ (by assumption)).mono ?_; unfold d4; rintro e w' ⟨rfl, hP7⟩))
          go_wp2_with fail
          go_ret2
          exact ⟨B + 1, B, rfl, CkW.done hB1 hP7.out⟩

end Go.Proofs.YtmmlphdekeflfaaGreatDoor

namespace Go.Proofs.YtmmlphdekeflfaaGreatDoor
open Go.RowKit

theorem okb_iff {q n : Nat} {root : List Int} {N : Int} {ps : List Int} {rows nodes : List (List Int)} (h : ¬ okb N root ps rows nodes) : chkf q n root N ps rows nodes = false := by
  by_cases hN : 1 ≤ N ∧ N ≤ 65536 ∧ root.length = 4
  · obtain ⟨M, rfl⟩ := Int.eq_ofNat_of_zero_le (show 0 ≤ N by omega)
    exact chk_not (by omega) (fun hs => h ⟨hN.1, hN.2.1, hN.2.2, by rw [Int.toNat_natCast]; exact hs⟩)
  · exact chkf_no (fun hc => hN ⟨hc.1, hc.2.1, hc.2.2.2.1⟩)

set_option maxRecDepth 100000 in
set_option maxHeartbeats 1000000 in
theorem check_any (q n d b s c4 cp cr cn : Nat) (a4 ap ar an' : Option Addr) (root : List Int) (N : Int) (ps : List Int) (rows nodes : List (List Int)) (W : World) (ok : SpgOk q n d) (hs : SpgAt W s b q n d) (hpl : ps.length ≤ 281474976710656) (hnl : nodes.length ≤ 281474976710656) (hN1 : -9223372036854775808 ≤ N) (hN2 : N ≤ 9223372036854775807)
    (hf4 : Fits root) (hfp : Fits ps) (hfr : FitsR rows) (hfn : FitsR nodes) (hl4 : Lst W.heap.size W a4 c4 root) (hp : Lst W.heap.size W ap cp ps) (hr : LstR W.heap.size W ar cr rows) (hn : LstR W.heap.size W an' cn nodes) :
    Calls Tryz.prog 121 #[.pointer (some ⟨s, 0, none⟩), .slice a4 root.length c4, .int .i64 N, .agg #[.slice ap ps.length cp, .slice ar rows.length cr, .slice an' nodes.length cn]] W fun e w' => e = .returned (.bool (chkf q n root N ps rows nodes)) ∧ Below W.heap.size W w' := by
  have HB0 : Hid (Below W.heap.size W (W.alloc (.cells #[.slice ap ps.length cp, .slice ar rows.length cr, .slice an' nodes.length cn] 49))) := (Below.refl _ _).alloc (Nat.le_refl _) _
  have HO := hid (tri_arr (tri_new W 49 (.slice ap ps.length cp) (.slice ar rows.length cr) (.slice an' nodes.length cn)))
  have HC : Hid (∀ w, Below W.heap.size W w → Calls Tryz.prog 75 #[.pointer (some ⟨s, 0, none⟩), .slice a4 root.length c4, .int .i64 N, .agg #[.slice ap ps.length cp, .slice ar rows.length cr, .slice an' nodes.length cn]] w fun e w' => ∃ v, e = .returned (.tuple #[v, .bool (chkf q n root N ps rows nodes)]) ∧ Below W.heap.size W w') := fun w hb => by
    by_cases hok : okb N root ps rows nodes
    · obtain ⟨h1, h2, h4, hsh⟩ := hok
      obtain ⟨M, rfl⟩ := Int.eq_ofNat_of_zero_le (show 0 ≤ N by omega)
      rw [Int.toNat_natCast] at hsh
      refine (checked_yes q n d b s c4 cp cr cn a4 ap ar an' root M ps rows nodes w (by omega) (by omega) h4 hsh ok (hs.keep hb) hpl hnl hf4 hfp hfr hfn ((hl4.below hb).mono hb.size) ((hp.below hb).mono hb.size) ((hr.below hb).mono hb.size) ((hn.below hb).mono hb.size)).mono ?_
      rintro e w' ⟨g, B, rfl, hd⟩
      rw [chk_says (by have := ok.h23; omega) (by omega) (by omega) h4 hsh]
      exact ⟨_, rfl, hb.trans (hd.2.2.1.mono hb.size)⟩
    · refine (checked_no s c4 cp cr cn a4 ap ar an' root N ps rows nodes w hN1 hN2 hpl hnl ((hp.below hb).mono hb.size) ((hn.below hb).mono hb.size) hok).mono ?_
      rintro e w' ⟨rfl, hd⟩
      rw [okb_iff hok]
      exact ⟨_, rfl, hb.trans (hd.mono hb.size)⟩
  clear hs hf4 hfp hfr hfn hl4 hp hr hn ok
  generalize chkf q n root N ps rows nodes = t at *
  go_enter Tryz.func121, Tryz.ntmps121
  go_wp2_with fail
  generalize W.alloc (.cells #[.slice ap ps.length cp, .slice ar rows.length cr, .slice an' nodes.length cn] 49) = W0 at *
  have k0 := opn_c0 HO.out
  have k1 := opn_c1 HO.out
  have k2 := opn_c2 HO.out
  go_wp2_with fail
  refine (HC.out W0 HB0.out).mono ?_
  rintro e w1 ⟨v, rfl, hb1⟩
  have HB1 := hid hb1
  clear hb1
  go_wp2_with fail
  go_ret
  exact ⟨rfl, HB1.out⟩

end Go.Proofs.YtmmlphdekeflfaaGreatDoor

namespace Go.Proofs.YtmmlphdekeflfaaGreatDoor
open Go.RowKit Go.Sort

/-! ## plain -/
theorem cmp_succ (d : Array Int) (m : Nat) : Lib.compactUpTo d (m + 1) = Lib.compactUpTo d m ++ (if Lib.keeps d m then [d[m]!] else []) := by
  unfold Lib.compactUpTo
  rw [List.range_succ, List.filter_append, List.map_append]
  congr 1
  cases h : Lib.keeps d m <;> simp [h]
theorem cmp_facts (d : Array Int) (hs : ∀ i j, i ≤ j → j < d.size → d[i]! ≤ d[j]!) : ∀ m, m ≤ d.size → (Lib.compactUpTo d m).Pairwise (· < ·) ∧ (∀ x, x ∈ Lib.compactUpTo d m ↔ ∃ j, j < m ∧ d[j]! = x)
  | 0, _ => ⟨by simp [Lib.compactUpTo], fun x => by simp [Lib.compactUpTo]⟩
  | m + 1, h => by
    obtain ⟨h1, h2⟩ := cmp_facts d hs m (by omega)
    rw [cmp_succ]
    have hmem : ∀ x, (∃ j, j < m + 1 ∧ d[j]! = x) ↔ (∃ j, j < m ∧ d[j]! = x) ∨ d[m]! = x := fun x => by
      constructor
      · rintro ⟨j, hj, e⟩
        rcases Nat.lt_or_ge j m with h' | h'
        · exact .inl ⟨j, h', e⟩
        · rw [show j = m by omega] at e
          exact .inr e
      · rintro (⟨j, hj, e⟩ | e)
        · exact ⟨j, by omega, e⟩
        · exact ⟨m, by omega, e⟩
    cases hk : Lib.keeps d m with
    | true =>
      refine ⟨?_, fun x => ?_⟩
      · simp only [if_true]
        refine List.pairwise_append.2 ⟨h1, by simp, fun a ha b hb => ?_⟩
        simp only [List.mem_singleton] at hb
        subst hb
        obtain ⟨j, hj, rfl⟩ := (h2 a).1 ha
        have hne : d[m]! ≠ d[m - 1]! := fun e => by
          rw [Lib.keeps_neg (by omega) e] at hk
          cases hk
        have a1 := hs j (m - 1) (by omega) (by omega)
        have a2 := hs (m - 1) m (by omega) (by omega)
        omega
      · simp only [if_true, List.mem_append, List.mem_singleton]
        rw [hmem, h2]
        constructor
        · rintro (h | h)
          · exact .inl h
          · exact .inr h.symm
        · rintro (h | h)
          · exact .inl h
          · exact .inr h.symm
    | false =>
      have hm : 0 < m := by
        rcases Nat.eq_zero_or_pos m with e | e
        · rw [e, Lib.keeps_lt_one d 0 (by omega)] at hk
          cases hk
        · exact e
      have he : d[m]! = d[m - 1]! := by
        rcases Classical.em (d[m]! = d[m - 1]!) with e | e
        · exact e
        · rw [Lib.keeps_pos e] at hk
          cases hk
      refine ⟨by simpa using h1, fun x => ?_⟩
      simp only [Bool.false_eq_true, if_false, List.append_nil]
      rw [hmem, h2]
      constructor
      · exact .inl
      · rintro (h | h)
        · exact h
        · exact ⟨m - 1, by omega, by rw [← he]; exact h⟩
/-- what is sorted, each but once -/
theorem once_compact (ps : List Int) : OnceIs ps (Lib.compact (ps.mergeSort fun x y => decide (x ≤ y))) := by
  have hp := List.mergeSort_perm ps (fun x y => decide (x ≤ y))
  have hs : (ps.mergeSort fun x y => decide (x ≤ y)).Pairwise (fun x y => decide (x ≤ y) = true) := List.pairwise_mergeSort (fun a b c h1 h2 => by simp at *; omega) (fun a b => by simp; omega) ps
  generalize (ps.mergeSort fun x y => decide (x ≤ y)) = zs at *
  have hs2 : ∀ i j, i ≤ j → j < zs.toArray.size → zs.toArray[i]! ≤ zs.toArray[j]! := fun i j hij hj => by
    have hj' : j < zs.length := by simpa using hj
    rcases Nat.lt_or_ge i j with h | h
    · have := List.pairwise_iff_getElem.1 hs i j (by omega) hj' h
      simp at this
      simp [List.getElem!_eq_getElem?_getD, List.getElem?_eq_getElem hj', List.getElem?_eq_getElem (show i < zs.length by omega)]
      exact this
    · rw [show i = j by omega]
      exact Int.le_refl _
  obtain ⟨h1, h2⟩ := cmp_facts zs.toArray hs2 zs.length (by simp)
  refine ⟨h1, fun x => (h2 x).trans ?_⟩
  rw [← hp.mem_iff]
  constructor
  · rintro ⟨j, hj, rfl⟩
    simp [List.getElem!_eq_getElem?_getD, List.getElem?_eq_getElem hj]
  · intro h
    obtain ⟨j, hj, e⟩ := List.getElem_of_mem h
    exact ⟨j, hj, by simp [List.getElem!_eq_getElem?_getD, List.getElem?_eq_getElem hj, e]⟩
theorem cmp_len (zs : List Int) : (Lib.compact zs).length ≤ zs.length := by
  unfold Lib.compact Lib.compactUpTo
  rw [List.length_map]
  exact Nat.le_trans (List.length_filter_le _ _) (by simp)
theorem owns_take {w : World} {base g n cap k : Nat} {e : TypeId} {xs : List Value} (h : w.ownsRow base e 1 (.slice (some ⟨g, 0, none⟩) n cap) n xs) (hk : k ≤ n) : w.ownsRow base e 1 (.slice (some ⟨g, 0, none⟩) k cap) k (xs.take k) := by
  obtain ⟨h1, h2⟩ := h
  rcases h2 with ⟨e1, _⟩ | ⟨g', cap', cur, e1, r1, r2, r3, r4, r5, r6⟩
  · cases e1
  · cases e1
    refine ⟨by rw [List.length_take]; omega, .inr ⟨g, cap, cur, rfl, r1, r2, by omega, r4, r5, ?_⟩⟩
    rw [← r6, List.take_take]
    congr 1
    omega

/-! ## slices.Sorted -/
/-! ## slices.Compact -/
set_option maxRecDepth 100000 in
set_option maxHeartbeats 1000000 in
theorem compact_nil (w : World) : Calls Tryz.prog 124 #[.slice none 0 0] w fun e w' => e = .returned (.slice none 0 0) ∧ w' = w := by
  go_enter Tryz.func124, Tryz.ntmps124
  go_wp2
  go_ret
  exact ⟨rfl, rfl⟩
theorem compact_own (base : Nat) (v : Value) (zs : List Int) (w : World) (hlen : zs.length ≤ 17592186044400) (hv : w.ownsRow base 3 1 v zs.length (zs.map (Value.int .i64))) (hbw : base ≤ w.heap.size) :
    Calls Tryz.prog 124 #[v] w fun e w' => ∃ v', e = .returned v' ∧ w'.ownsRow base 3 1 v' (Lib.compact zs).length ((Lib.compact zs).map (Value.int .i64)) ∧ Below base w w' := by
  rcases hv.2 with ⟨rfl, hz⟩ | ⟨gb, cap', cur, rfl, hbase, hgb, r1, r2, r3, r4⟩
  · obtain rfl : zs = [] := List.eq_nil_of_length_eq_zero hz
    refine (compact_nil w).mono ?_
    rintro e w' ⟨rfl, rfl⟩
    exact ⟨_, rfl, hv, Below.refl _ _⟩
  · have hH : Holds (Value.int .i64) w gb 0 zs.toArray := holds_of_block_i hgb (by simpa using r4)
    refine (Tryz.compact_any gb 0 cap' zs w hH (by omega) r1).mono ?_
    rintro e w' ⟨rfl, q, rfl⟩
    have hl : (Lib.compact zs ++ List.replicate (zs.length - (Lib.compact zs).length) 0).length = zs.length := by
      have := cmp_len zs
      simp
      omega
    have ho := ownsRow_sorted_i (n := q) (os := #[]) hl hbase hgb r1 r2 r3
    have hg := grownBy_sorted_i (w := w) (g := gb) (n := q) (os := #[]) (Lib.compact zs ++ List.replicate (zs.length - (Lib.compact zs).length) 0).toArray
    rw [grow_empty] at ho hg
    refine ⟨_, rfl, ?_, (Below.refl _ _).grown hg hbw (fun j hj => by cases hj; exact hbase)⟩
    have := owns_take ho (cmp_len zs)
    rwa [← List.map_take, List.take_left'  rfl] at this

end Go.Proofs.YtmmlphdekeflfaaGreatDoor
