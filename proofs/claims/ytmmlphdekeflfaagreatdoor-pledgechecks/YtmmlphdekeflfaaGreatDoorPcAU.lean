/- attestref5: places, Shows. Rows of pointers that the call owns. -/
import Derived.Test.YtmmlphdekeflfaaGreatDoorFolA
import Derived.Test.YtmmlphdekeflfaaGreatDoorTres
import Derived.Test.YtmmlphdekeflfaaGreatDoorPcAT
namespace Go.Proofs.YtmmlphdekeflfaaGreatDoor
open Go.RowKit

theorem RCn.below {q : Nat} {w w' : World} {r : Nat} {D : List Int} {lo : Nat} (h : RCn q w r D lo) (e : Below w.heap.size w w') : RCn q w' r D lo := by
  obtain ⟨g, c, h1, h2, h3⟩ := h
  exact ⟨g, c, (e.block _ (Array.getElem?_eq_some_iff.1 h1).1).trans h1, h2.below e, h3⟩

set_option maxRecDepth 100000 in
set_option maxHeartbeats 1000000 in
theorem rplace_new (q n r : Nat) (N : Int) (D : List Int) (w : World) (h5 : 5 ≤ q) (h4 : q ≤ 2147483647) (hpn : Spo.PowIs q n) (hlen : D.length ≤ 17592186044000) (hfd : Fits D) (hr : RCh q w r D) (hN1 : 1 ≤ N) (hN2 : N ≤ 65536) :
    Calls Tryz.prog 112 #[.pointer (some ⟨r, 0, none⟩), .int .i64 N] w fun e w' => e = .returned (.int .i64 ((zat (digl q n (4 :: D)) 0 * q + zat (digl q n (4 :: D)) 1) % N)) ∧ RCn q w' r (digl q n (4 :: D)) w.heap.size ∧ w.grownBy w' (some r) := by
  have HS := hid (rstep_new q n r 0 4 none [] D w h5 h4 hpn (by omega) (by simpa using hlen) hfd (fun j hj => by simp at hj) hr (numL_nil w).1)
  rw [List.append_nil, List.length_nil] at HS
  have t1 : ¬ N < 1 := by omega
  have t2 : ¬ 65536 < N := by omega
  have hbd : ∀ j, j < 4 → 0 ≤ zat (digl q n (4 :: D)) j ∧ zat (digl q n (4 :: D)) j < (q : Int) := fun j hj => by
    unfold digl
    rw [ls_at _ _ _ hj]
    have := hst_bounds q n (pdf q (zat (4 :: D)) (4 :: D).length) ((4 :: D).length / 4 + 1) j (by omega)
    omega
  have hz0 := hbd 0 (by omega)
  have hz1 := hbd 1 (by omega)
  clear hpn hfd hr hbd
  go_enter Tryz.func112, Tryz.ntmps112
  go_wp2_with fail
  refine HS.out.mono ?_
  rintro e w1 ⟨rfl, hr, hg⟩
  have HE : Hid (RCn q w1 r (digl q n (4 :: D)) w.heap.size ∧ w.grownBy w1 (some r)) := ⟨hr, hg⟩
  obtain ⟨a, c, hb, hn⟩ := hr.rch
  rw [digl_len] at hb
  have c0 := duo0 hb
  have c1 := duo1 hb
  obtain ⟨g, o, rfl, _, hc0⟩ := hn.1.row 0 (by rw [digl_len]; omega)
  obtain ⟨_, _, e1, _, hc1⟩ := hn.1.row 1 (by rw [digl_len]; omega)
  cases e1
  rw [Nat.add_zero] at hc0
  clear hg HS hb hn hr
  obtain ⟨x, hx⟩ : ∃ x, x = zat (digl q n (4 :: D)) 0 := ⟨_, rfl⟩
  obtain ⟨y, hy⟩ : ∃ y, y = zat (digl q n (4 :: D)) 1 := ⟨_, rfl⟩
  rw [← hx] at hc0 hz0
  rw [← hy] at hc1 hz1
  have HX := hid hx
  have HY := hid hy
  clear hx hy
  have hx2 : x * (q : Int) ≤ 2147483647 * 2147483647 := Int.mul_le_mul (by omega) (by omega) (by omega) (by omega)
  have hx0 : 0 ≤ x * (q : Int) := Int.mul_nonneg hz0.1 (by omega)
  obtain ⟨m, hm⟩ : ∃ m, m = x * (q : Int) := ⟨_, rfl⟩
  have HM := hid hm
  have hm2 := hm.symm
  rw [← hm] at hx2 hx0
  clear hm
  have hw1 : IntKind.i64.wrap m = m := by rw [IntKind.wrap_i64]; omega
  have hw2 : IntKind.i64.wrap (m + y) = m + y := by rw [IntKind.wrap_i64]; omega
  have hN0 : ¬ N = 0 := by omega
  have hte : (m + y).tmod N = (m + y) % N := Int.tmod_eq_emod_of_nonneg (by omega)
  have hw3 : IntKind.i64.wrap ((m + y) % N) = (m + y) % N := by
    rw [IntKind.wrap_i64]
    have := Int.emod_nonneg (m + y) hN0
    have := Int.emod_lt_of_pos (m + y) (show 0 < N by omega)
    omega
  go_wp2_with fail
  go_quiet (fail)
  go_wp2_with fail
  go_ret
  exact ⟨by rw [← HX.out, ← HY.out, ← HM.out]; rfl, HE.out.1.below (below_drewN (Below.refl _ _) _), gb_trans HE.out.2 (gb_below (below_drewN (Below.refl _ _) _))⟩

/-- a chain behind some places -/
def pld (q n : Nat) : Nat → List Int → List Int
  | 0, D => D
  | i + 1, D => digl q n (4 :: pld q n i D)
def plz (q n N : Nat) (D : List Int) (i : Nat) : Int := (zat (pld q n (i + 1) D) 0 * q + zat (pld q n (i + 1) D) 1) % (N : Int)
theorem pld_len {q n : Nat} {D : List Int} (h : D.length ≤ 17592186044000) : ∀ i, (pld q n i D).length ≤ 17592186044000
  | 0 => h
  | i + 1 => by rw [pld, digl_len]; omega
theorem pld_fits {q n : Nat} (h3 : 3 ≤ q) (h4 : q ≤ 2147483647) {D : List Int} (h : Fits D) : ∀ i, Fits (pld q n i D)
  | 0 => h
  | i + 1 => by rw [pld]; exact digl_fits h3 h4 _ _
/-- does an Opening show just these places? -/
noncomputable def shz5 (q n : Nat) (root : List Int) (N : Int) (ps : List Int) (rows nodes : List (List Int)) (pl : List Int) (wd : Int) : Bool :=
  decide (ps = pl) && decide (∀ k, k < rows.length → ((rat rows k).length : Int) = wd) && chkf q n root N ps rows nodes
theorem lists_eq {xs ys : List Int} (hl : xs.length = ys.length) (h : ∀ j, j < ys.length → zat xs j = zat ys j) : xs = ys := by
  apply List.ext_getElem hl
  intro i h1 h2
  have := h i h2
  simpa [zat, h1, h2] using this

set_option maxRecDepth 100000 in
set_option maxHeartbeats 2000000 in
theorem rshows_any (q n : Nat) (h5 : 5 ≤ q) (h4 : q ≤ 2147483647) (hpn : Spo.PowIs q n) (c4 cp cr cn cl : Nat) (a4 ap ar an' al : Option Addr) (root : List Int) (N wd : Int) (ps : List Int) (rows nodes : List (List Int)) (pl : List Int) (w : World) (h4l : root.length ≤ 281474976710656) (hps : ps.length ≤ 281474976710656) (hrl : rows.length ≤ 281474976710656) (hnl : nodes.length ≤ 281474976710656) (hpl : pl.length ≤ 281474976710656)
    (hf4 : Fits root) (hfr : FitsR rows) (hfn : FitsR nodes) (hr4 : RowB w.heap.size w a4 root) (hrp : RowB w.heap.size w ap ps) (hlr : LstR w.heap.size w ar cr rows) (hln : LstR w.heap.size w an' cn nodes) (hll : RowB w.heap.size w al pl) :
    Calls Tryz.prog 73 #[.int .i64 q, .slice a4 root.length c4, .int .i64 N, .agg #[.slice ap ps.length cp, .slice ar rows.length cr, .slice an' nodes.length cn], .slice al pl.length cl, .int .i64 wd] w fun e w' => e = .returned (.bool (shz5 q n root N ps rows nodes pl wd)) ∧ Below w.heap.size w w' := by
  obtain ⟨W0, hW0⟩ : ∃ W0, W0 = w.alloc (.cells #[.slice ap ps.length cp, .slice ar rows.length cr, .slice an' nodes.length cn] 49) := ⟨_, rfl⟩
  have hb0 : Below w.heap.size w W0 := by rw [hW0]; exact (Below.refl _ _).alloc (Nat.le_refl _) _
  have hO := tri_new w 49 (.slice ap ps.length cp) (.slice ar rows.length cr) (.slice an' nodes.length cn)
  rw [← hW0] at hO
  have HCK : Hid (∀ W, Below W0.heap.size W0 W → Calls Tryz.prog 128 #[.int .i64 q, .slice a4 root.length c4, .int .i64 N, .slice ap ps.length cp, .slice ar rows.length cr, .slice an' nodes.length cn] W fun e w' => e = .returned (.bool (chkf q n root N ps rows nodes)) ∧ Below W.heap.size W w') := fun W hb => by
    have hbw := hb0.trans (hb.mono hb0.size)
    exact rcheck_any q n h5 h4 hpn c4 cp cr cn a4 ap ar an' root N ps rows nodes W h4l hps hnl hf4 hfr hfn ((hr4.below hbw).mono hbw.size) ((hrp.below hbw).mono hbw.size) ((hlr.below hbw).mono hbw.size) ((hln.below hbw).mono hbw.size)
  have HRP := hid ((hrp.below hb0).mono hb0.size)
  have HLL := hid ((hll.below hb0).mono hb0.size)
  have HLR := hid ((hlr.below hb0).mono hb0.size)
  have HB0 := hid hb0
  obtain ⟨SZ, hSZ⟩ : ∃ SZ, SZ = shz5 q n root N ps rows nodes pl wd := ⟨_, rfl⟩
  have HSZ := hid hSZ
  rw [← hSZ]
  have k0 := hO.cell (i := 0) (by omega)
  have k1 := hO.cell (i := 1) (by omega)
  have k2 := hO.cell (i := 2) (by omega)
  simp only [tri] at k0 k1 k2
  have hOl := hO.lt
  obtain ⟨pn, hpn2⟩ : ∃ pn, pn = ps.length := ⟨_, rfl⟩
  obtain ⟨rn, hrn⟩ : ∃ rn, rn = rows.length := ⟨_, rfl⟩
  obtain ⟨nn, hnn⟩ : ∃ nn, nn = nodes.length := ⟨_, rfl⟩
  obtain ⟨ln, hln2⟩ : ∃ ln, ln = pl.length := ⟨_, rfl⟩
  obtain ⟨rt, hrt⟩ : ∃ rt, rt = root.length := ⟨_, rfl⟩
  have HPN := hid hpn2
  have HRN := hid hrn
  have HNN := hid hnn
  have HLN := hid hln2
  have HRT := hid hrt
  rw [← hpn2] at hps k0
  rw [← hrn] at hrl k1
  rw [← hnn] at hnl k2
  rw [← hln2] at hpl
  rw [← hpn2, ← hrn, ← hnn, ← hrt] at HCK
  rw [← hpn2, ← hrn, ← hnn] at hW0
  rw [← hpn2, ← hrn, ← hnn, ← hln2, ← hrt]
  clear hf4 hfr hfn hr4 hrp hlr hln hll hb0 hO hSZ hpn2 hrn hnn hln2 hrt h4l hpn
  by_cases hl : pn = ln
  · subst hl
    have u1 : ((pn : Int) != (pn : Int)) = false := by simp
    go_enter Tryz.func73, Tryz.ntmps73
    go_wp2_with fail
    rw [← hW0]
    clear hW0
    go_loopw [13] (fun iv wr => ∃ k nd : Nat, k ≤ pn ∧ iv = .int .i64 k ∧ Hid ((∀ j, j < k → zat ps j = zat pl j) ∧ wr = W0.drewN nd)) (fun iv _ => pn - (intOf iv).toNat)
    case atStart => exact ⟨0, 0, by omega, rfl, fun j hj => by omega, rfl⟩
    case round =>
      obtain ⟨k, nd, hk, rfl, hI⟩ := hrel
      have x0 : wr.cell? ⟨w.heap.size, 0, none⟩ = some (.slice ap pn cp) := by rw [hI.out.2]; exact k0
      by_cases hlt : k < pn
      · have hlt2 : (k : Int) < (pn : Int) := by omega
        have hks : IntKind.i64.wrap ((k : Int) + 1) = (k : Int) + 1 := by rw [IntKind.wrap_i64]; omega
        obtain ⟨b1, o1, rfl, _, hx⟩ := HRP.out k (by rw [← HPN.out]; exact hlt)
        obtain ⟨b2, o2, rfl, _, hy⟩ := HLL.out k (by rw [← HLN.out]; exact hlt)
        have hx2 : wr.cell? ⟨b1, o1 + k, none⟩ = some (.int .i64 (zat ps k)) := by rw [hI.out.2]; exact hx
        have hy2 : wr.cell? ⟨b2, o2 + k, none⟩ = some (.int .i64 (zat pl k)) := by rw [hI.out.2]; exact hy
        by_cases he : zat ps k = zat pl k
        · have HE : Hid (∀ j, j < k + 1 → zat ps j = zat pl j) := fun j hj => by
            by_cases e : j = k
            · rw [e]; exact he
            · exact hI.out.1 j (by omega)
          have HW := hid hI.out.2
          rw [← he] at hy2
          have he2 : (zat ps k != zat ps k) = false := by simp
          generalize zat ps k = x at *
          clear hI hx hy he
          go_wp2_with fail
          go_quiet (fail)
          go_wp2_with fail
          go_roundw
          case rel => exact ⟨k + 1, _, by omega, by go_num, HE.out, by rw [HW.out, World.drewN_drewN]⟩
          case measure => simp [intOf]; omega
        · have he2 : (zat ps k != zat pl k) = true := by simp [he]
          have HE : Hid (SZ = false) := by
            unfold Hid
            rw [HSZ.out]
            unfold shz5
            rw [decide_eq_false (fun e => he (by rw [e]))]
            rfl
          have HBE : Hid (Below w.heap.size w wr) := by unfold Hid; rw [hI.out.2]; exact below_drewN HB0.out _
          generalize zat ps k = x at *
          generalize zat pl k = y at *
          clear hI hx hy he
          go_wp2_with fail
          go_quiet (fail)
          go_wp2_with fail
          go_ret
          exact ⟨by rw [HE.out]; rfl, below_drewN HBE.out _⟩
      · obtain rfl : k = pn := by omega
        have hlt2 : ¬ (k : Int) < (k : Int) := by omega
        have HEQ : Hid (ps = pl) := lists_eq (by rw [← HPN.out, ← HLN.out]) (fun j hj => hI.out.1 j (by rw [HLN.out]; exact hj))
        obtain ⟨W1, hW1⟩ : ∃ W1, W1 = wr := ⟨_, rfl⟩
        have hbr : Below W0.heap.size W0 wr := by rw [hI.out.2]; exact below_drewN (Below.refl _ _) _
        have x1 : wr.cell? ⟨w.heap.size, 1, none⟩ = some (.slice ar rn cr) := (hbr.cell (p := ⟨w.heap.size, 1, none⟩) hOl).trans k1
        have x2 : wr.cell? ⟨w.heap.size, 2, none⟩ = some (.slice an' nn cn) := (hbr.cell (p := ⟨w.heap.size, 2, none⟩) hOl).trans k2
        have HLR1 := hid ((HLR.out.below hbr).mono hbr.size)
        have HC1 := hid (HCK.out wr hbr)
        have HBR : Hid (Below w.heap.size w wr) := HB0.out.trans (hbr.mono HB0.out.size)
        clear hI hbr HCK hW1
        go_wp2_with fail
        go_loop [14] (fun iv => ∃ j : Nat, j ≤ rn ∧ iv = .int .i64 j ∧ Hid (∀ i, i < j → ((rat rows i).length : Int) = wd)) (fun iv => rn - (intOf iv).toNat)
        case atStart => exact ⟨0, by omega, rfl, fun i hi => by omega⟩
        case round =>
          obtain ⟨j, hj, rfl, hJ⟩ := hrel
          by_cases hjt : j < rn
          · have hjt2 : (j : Int) < (rn : Int) := by omega
            have hjw : IntKind.i64.wrap ((j : Int) + 1) = (j : Int) + 1 := by rw [IntKind.wrap_i64]; omega
            obtain ⟨b3, o3, ak, ck, rfl, _, hc3, _⟩ := HLR1.out.row j (by rw [← HRN.out]; exact hjt)
            by_cases he : ((rat rows j).length : Int) = wd
            · have HE : Hid (∀ i, i < j + 1 → ((rat rows i).length : Int) = wd) := fun i hi => by
                by_cases e : i = j
                · rw [e]; exact he
                · exact hJ.out i (by omega)
              have he2 : (((rat rows j).length : Int) != wd) = false := by simp [he]
              generalize (rat rows j).length = L at *
              clear hJ he
              go_wp2_with fail
              go_round
              case rel => exact ⟨j + 1, by omega, by go_num, HE⟩
              case measure => simp [intOf]; omega
            · have he2 : (((rat rows j).length : Int) != wd) = true := by simp [he]
              have HE : Hid (SZ = false) := by
                unfold Hid
                rw [HSZ.out]
                unfold shz5
                have hno : decide (∀ k, k < rows.length → ((rat rows k).length : Int) = wd) = false := decide_eq_false (fun h => he (h j (by rw [← HRN.out]; exact hjt)))
                rw [hno]
                simp
              generalize (rat rows j).length = L at *
              clear hJ he
              go_wp2_with fail
              go_ret
              exact ⟨by rw [HE.out]; rfl, HBR.out⟩
          · obtain rfl : j = rn := by omega
            have hjt2 : ¬ (j : Int) < (j : Int) := by omega
            have HE : Hid (SZ = chkf q n root N ps rows nodes) := by
              unfold Hid
              rw [HSZ.out]
              unfold shz5
              rw [decide_eq_true HEQ.out, decide_eq_true (fun i hi => hJ.out i (by rw [HRN.out]; exact hi))]
              rfl
            generalize chkf q n root N ps rows nodes = CF at *
            clear hJ
            go_wp2_with fail
            refine HC1.out.mono ?_
            rintro e w5 ⟨rfl, hb5⟩
            have HB5 : Hid (Below w.heap.size w w5) := HBR.out.trans (hb5.mono HBR.out.size)
            clear hb5 HC1
            go_wp2_with fail
            go_ret
            exact ⟨by rw [HE.out]; rfl, HB5.out⟩
  · have u1 : ((pn : Int) != (ln : Int)) = true := by simp; omega
    have HE : Hid (SZ = false) := by
      unfold Hid
      rw [HSZ.out]
      unfold shz5
      rw [decide_eq_false (fun e => hl (by rw [HPN.out, HLN.out, e]))]
      rfl
    clear hl
    rw [hW0] at HB0
    clear hW0
    go_enter Tryz.func73, Tryz.ntmps73
    go_wp2_with fail
    go_ret
    exact ⟨by rw [HE.out]; rfl, HB0.out⟩

end Go.Proofs.YtmmlphdekeflfaaGreatDoor

namespace Go.Proofs.YtmmlphdekeflfaaGreatDoor
open Go.RowKit

def ptrs (cs : List Nat) : List Value := cs.map fun c => .pointer (some ⟨c, 0, none⟩)
def OwnP (base : Nat) (w : World) (t : TypeId) (v : Value) (cs : List Nat) : Prop := w.ownsRow base t 1 v cs.length (ptrs cs)
theorem ptrs_at {cs : List Nat} {k : Nat} (h : k < cs.length) : (ptrs cs)[k]? = some (.pointer (some ⟨cs.getD k 0, 0, none⟩)) := by
  unfold ptrs
  simp [h]
theorem OwnP.one (w : World) (t : TypeId) (c : Nat) : OwnP w.heap.size (w.alloc (.cells #[.pointer (some ⟨c, 0, none⟩)] t)) t (.slice (some ⟨w.heap.size, 0, none⟩) 1 1) [c] :=
  ⟨by simp [ptrs], .inr ⟨w.heap.size, 1, #[.pointer (some ⟨c, 0, none⟩)], rfl, Nat.le_refl _, heap_alloc_new w _, Nat.le_refl _, by unfold maxLen; omega, rfl, by simp [ptrs]⟩⟩
theorem OwnP.mono {base base' : Nat} {w : World} {t : TypeId} {v : Value} {cs : List Nat} (h : OwnP base w t v cs) (hb : base' ≤ base) : OwnP base' w t v cs := by
  obtain ⟨h1, h2⟩ := h
  refine ⟨h1, h2.imp id ?_⟩
  rintro ⟨g, cap, cur, e, hg, r⟩
  exact ⟨g, cap, cur, e, by omega, r⟩
/-- its form, where it holds something -/
theorem OwnP.form {base : Nat} {w : World} {t : TypeId} {v : Value} {cs : List Nat} (h : OwnP base w t v cs) (h0 : 0 < cs.length) : ∃ g cap, v = .slice (some ⟨g, 0, none⟩) cs.length cap ∧ base ≤ g ∧ g < w.heap.size ∧ v.ownBlock = some g ∧ (∃ cur f, w.heap[g]? = some (.cells cur t f)) ∧ cs.length ≤ cap ∧ ∀ k, k < cs.length → w.cell? ⟨g, k, none⟩ = some (.pointer (some ⟨cs.getD k 0, 0, none⟩)) := by
  have h' := h
  obtain ⟨h1, h2⟩ := h
  rcases h2 with ⟨_, h3⟩ | ⟨g, cap, cur, rfl, hg, hb, hn, hm, hs, ht⟩
  · omega
  · refine ⟨g, cap, rfl, hg, (Array.getElem?_eq_some_iff.1 hb).1, rfl, ⟨cur, _, hb⟩, hn, fun k hk => ?_⟩
    rw [← ptrs_at hk]
    exact World.ownsRow.cellAt h' k (by omega)
/-- another block's turn leaves it -/
theorem OwnP.kept {base : Nat} {w w' : World} {t : TypeId} {v : Value} {cs : List Nat} {own : Option Nat} (h : OwnP base w t v cs) (e : w.grownBy w' own) (hne : v.ownBlock = none ∨ v.ownBlock ≠ own) : OwnP base w' t v cs := World.ownsRow.kept h e hne
theorem OwnP.below {base : Nat} {w w' : World} {t : TypeId} {v : Value} {cs : List Nat} (h : OwnP base w t v cs) (e : Below w.heap.size w w') : OwnP base w' t v cs := by
  refine h.kept (own := none) ⟨e.os, e.tape, e.output, e.size, fun k hk _ => e.block k hk⟩ ?_
  cases v.ownBlock with
  | none => exact .inl rfl
  | some k => exact .inr (by simp)
/-- l[:k] -/
theorem OwnP.take {base : Nat} {w : World} {t : TypeId} {g cap k : Nat} {cs : List Nat} (h : OwnP base w t (.slice (some ⟨g, 0, none⟩) cs.length cap) cs) (hk : k ≤ cs.length) : OwnP base w t (.slice (some ⟨g, 0, none⟩) k cap) (cs.take k) := by
  obtain ⟨h1, h2⟩ := h
  rcases h2 with ⟨e1, _⟩ | ⟨g', cap', cur, e1, r1, r2, r3, r4, r5, r6⟩
  · cases e1
  · cases e1
    refine ⟨by simp [ptrs], .inr ⟨g, cap, cur, by rw [List.length_take, Nat.min_eq_left hk], r1, r2, by rw [List.length_take]; omega, r4, r5, ?_⟩⟩
    have e2 : ptrs (cs.take k) = (ptrs cs).take k := by unfold ptrs; rw [List.map_take]
    rw [e2, ← r6, List.take_take, List.length_take]
    congr 1
    omega

end Go.Proofs.YtmmlphdekeflfaaGreatDoor
