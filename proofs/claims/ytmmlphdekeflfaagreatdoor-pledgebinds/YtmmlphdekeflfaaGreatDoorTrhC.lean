/- Package tree: Collide, where both are taken. -/
import Derived.Test.YtmmlphdekeflfaaGreatDoorPbBA
namespace Go.Proofs.YtmmlphdekeflfaaGreatDoor
open Go.RowKit

theorem elr_elr (q : Nat) (l : List Int) : elr q (elr q l) = elr q l := by
  rw [elr_map, elr_map, List.map_map]
  exact List.map_congr_left fun x _ => Int.emod_emod_of_dvd _ (Int.dvd_refl _)
theorem digl_elr (q n : Nat) (l : List Int) : digl q n (elr q l) = digl q n l := by
  have hl : (elr q l).length = l.length := by unfold elr; rw [ls_len]
  refine digl_congr hl (fun j hj => ?_)
  rw [hl] at hj
  unfold elr
  rw [ls_at _ _ _ hj]
  exact Int.emod_emod_of_dvd _ (Int.dvd_refl _)
theorem elr_cons0 {q : Nat} {r r' : List Int} : elr q (0 :: r) = elr q (0 :: r') ↔ elr q r = elr q r' := by
  rw [elr_map, elr_map, elr_map, elr_map, List.map_cons, List.map_cons]
  simp
theorem elr_len (q : Nat) (l : List Int) : (elr q l).length = l.length := by unfold elr; rw [ls_len]
theorem elr_fits2 {q : Nat} (h3 : 3 ≤ q) (h4 : q ≤ 2147483647) (l : List Int) : Fits (elr q l) := elr_fits h3 h4 l
theorem CollR.yes {q n : Nat} {tt : Prop} {w w' : World} {v1 v2 : Value} {U V : List Int} (h1 : LstV w' v1 U) (h2 : LstV w' v2 V) (hc : Clash q n U V) (h : tt) (hb : Below w.heap.size w w') : CollR q n tt w (.returned (.tuple #[v1, v2, .bool true])) w' := ⟨.inr ⟨v1, v2, U, V, rfl, h1, h2, hc, h⟩, hb⟩

/-- a walk that is done, later -/
structure WDn (q n N : Nat) (ps : List Int) (rows nodes : List (List Int)) (g B s : Nat) (M' : Nat → Nat → Option (List Int)) (W : World) : Prop where
  wlk : WlkAt W g B s
  map : MapIs W B M'
  snd : Snd M' (DV q n (M0 q n N ps rows nodes))
  cl : ClM (M0 q n N ps rows nodes) M'
  top : M' 0 N ≠ none
theorem WDn.keep {q n N : Nat} {ps : List Int} {rows nodes : List (List Int)} {g B s : Nat} {M' : Nat → Nat → Option (List Int)} {W W' : World} (h : WDn q n N ps rows nodes g B s M' W) (e : Below W.heap.size W W') : WDn q n N ps rows nodes g B s M' W' := ⟨h.wlk.block (e.block _ h.wlk.lt), h.map.below e h.map.lt, h.snd, h.cl, h.top⟩

set_option maxRecDepth 100000 in
set_option maxHeartbeats 4000000 in
theorem collide_yes (q n d b s c4 cp cr cn cp2 cr2 cn2 : Nat) (a4 ap ar an' ap2 ar2 an2 : Option Addr) (root : List Int) (N : Nat) (ps : List Int) (rows nodes : List (List Int)) (ps2 : List Int) (rows2 nodes2 : List (List Int)) (w : World) (h : TwoO q n d b s c4 cp cr cn cp2 cr2 cn2 a4 ap ar an' ap2 ar2 an2 root (N : Int) ps rows nodes ps2 rows2 nodes2 w)
    (h1 : 1 ≤ N) (h2 : N ≤ 65536) (h4 : root.length = 4) (shA : shwn N ps rows nodes) (dA : DV q n (M0 q n N ps rows nodes) 0 N = elr q root) (shB : shwn N ps2 rows2 nodes2) (dB : DV q n (M0 q n N ps2 rows2 nodes2) 0 N = elr q root) :
    Calls Tryz.prog 29 #[.pointer (some ⟨s, 0, none⟩), .slice a4 root.length c4, .int .i64 (N : Int), .agg #[.slice ap ps.length cp, .slice ar rows.length cr, .slice an' nodes.length cn], .agg #[.slice ap2 ps2.length cp2, .slice ar2 rows2.length cr2, .slice an2 nodes2.length cn2]] w (CollR q n (Apart q ps rows ps2 rows2) w) := by
  have h3 : 3 ≤ q := by have := h.ok.h23; omega
  have hq := h.ok.hm
  have HT := hid h
  have HO1 := hid (tri_arr ((tri_new w 49 (.slice ap ps.length cp) (.slice ar rows.length cr) (.slice an' nodes.length cn)).alloc (.cells #[.slice ap2 ps2.length cp2, .slice ar2 rows2.length cr2, .slice an2 nodes2.length cn2] 49)))
  have HO2 : Hid (((w.alloc (.cells #[.slice ap ps.length cp, .slice ar rows.length cr, .slice an' nodes.length cn] 49)).alloc (.cells #[.slice ap2 ps2.length cp2, .slice ar2 rows2.length cr2, .slice an2 nodes2.length cn2] 49)).heap[w.heap.size + 1]? = some (.cells #[.slice ap2 ps2.length cp2, .slice ar2 rows2.length cr2, .slice an2 nodes2.length cn2] 49 (0, 0))) := by
    have := tri_arr (tri_new (w.alloc (.cells #[.slice ap ps.length cp, .slice ar rows.length cr, .slice an' nodes.length cn] 49)) 49 (.slice ap2 ps2.length cp2) (.slice ar2 rows2.length cr2) (.slice an2 nodes2.length cn2))
    rwa [show (w.alloc (.cells #[.slice ap ps.length cp, .slice ar rows.length cr, .slice an' nodes.length cn] 49)).heap.size = w.heap.size + 1 from by simp] at this
  have HB0 : Hid (Below w.heap.size w ((w.alloc (.cells #[.slice ap ps.length cp, .slice ar rows.length cr, .slice an' nodes.length cn] 49)).alloc (.cells #[.slice ap2 ps2.length cp2, .slice ar2 rows2.length cr2, .slice an2 nodes2.length cn2] 49))) := ((Below.refl _ _).alloc (Nat.le_refl _) _).alloc (by simp) _
  have HC1 : Hid (∀ W, Below w.heap.size w W → Calls Tryz.prog 75 #[.pointer (some ⟨s, 0, none⟩), .slice a4 root.length c4, .int .i64 (N : Int), .agg #[.slice ap ps.length cp, .slice ar rows.length cr, .slice an' nodes.length cn]] W fun e w' => ∃ g B, e = .returned (.tuple #[.pointer (some ⟨g, 0, none⟩), .bool true]) ∧ Hid (WlkDone q n N ps rows nodes W g B s w')) := fun W hb => by
    have h := HT.out.below hb
    exact checked_true q n d b s c4 cp cr cn a4 ap ar an' root N ps rows nodes W h.ok h.hs h.pl h.nl h.f4 h.fp h.fr h.fn h.l4 h.lp h.lr h.ln h1 h2 h4 shA dA
  have HC2 : Hid (∀ W, Below w.heap.size w W → Calls Tryz.prog 75 #[.pointer (some ⟨s, 0, none⟩), .slice a4 root.length c4, .int .i64 (N : Int), .agg #[.slice ap2 ps2.length cp2, .slice ar2 rows2.length cr2, .slice an2 nodes2.length cn2]] W fun e w' => ∃ g B, e = .returned (.tuple #[.pointer (some ⟨g, 0, none⟩), .bool true]) ∧ Hid (WlkDone q n N ps2 rows2 nodes2 W g B s w')) := fun W hb => by
    have h := HT.out.below hb
    exact checked_true q n d b s c4 cp2 cr2 cn2 a4 ap2 ar2 an2 root N ps2 rows2 nodes2 W h.ok h.hs h.pl2 h.nl2 h.f4 h.fp2 h.fr2 h.fn2 h.l4 h.lp2 h.lr2 h.ln2 h1 h2 h4 shB dB
  have hpl2 := h.pl2
  have HSA := hid shA
  have HSB := hid shB
  have HSM : Hid (DV q n (M0 q n N ps rows nodes) 0 N = DV q n (M0 q n N ps2 rows2 nodes2) 0 N) := dA.trans dB.symm
  have HDA := hid (DV_dgst (q := q) (n := n) (M := M0 q n N ps rows nodes) h3 (fun a b dd h => M0_dgst h3 (shwn_ok shA) a b dd h))
  have HDB := hid (DV_dgst (q := q) (n := n) (M := M0 q n N ps2 rows2 nodes2) h3 (fun a b dd h => M0_dgst h3 (shwn_ok shB) a b dd h))
  clear h shA shB dA dB h4
  go_enter Tryz.func29, Tryz.ntmps29
  go_wp2_with fail
  generalize ((w.alloc (.cells #[.slice ap ps.length cp, .slice ar rows.length cr, .slice an' nodes.length cn] 49)).alloc (.cells #[.slice ap2 ps2.length cp2, .slice ar2 rows2.length cr2, .slice an2 nodes2.length cn2] 49)) = W0 at *
  have k0 := opn_c0 HO1.out
  have k1 := opn_c1 HO1.out
  have k2 := opn_c2 HO1.out
  go_wp2_with fail
  refine (HC1.out W0 HB0.out).mono ?_
  rintro e w1 ⟨gA, BA, rfl, hdn⟩
  obtain ⟨_, wA, bA, MA, mA, sA, cA, tA⟩ := hdn.out
  have HB1 := hid (HB0.out.trans (bA.mono HB0.out.size))
  have HWA1 : Hid (WDn q n N ps rows nodes gA BA s MA w1) := ⟨wA, mA, sA, cA, tA⟩
  have ho1 := (bA.block _ (Array.getElem?_eq_some_iff.1 HO1.out).1).trans HO1.out
  have ho2 := (bA.block _ (Array.getElem?_eq_some_iff.1 HO2.out).1).trans HO2.out
  have HP1 := hid ho1
  have HP2 := hid ho2
  have k0' := opn_c0 ho2
  have k1' := opn_c1 ho2
  have k2' := opn_c2 ho2
  clear hdn ho2 ho1 k0 k1 k2 wA bA mA sA cA tA HO1 HO2 HB0
  go_wp2_with fail
  refine (HC2.out w1 HB1.out).mono ?_
  rintro e w2 ⟨gB, BB, rfl, hdn⟩
  obtain ⟨_, wB, bB, MB, mB, sB, cB, tB⟩ := hdn.out
  have HB2 := hid (HB1.out.trans (bB.mono HB1.out.size))
  have HWB : Hid (WDn q n N ps2 rows2 nodes2 gB BB s MB w2) := ⟨wB, mB, sB, cB, tB⟩
  have HWA := hid (HWA1.out.keep bB)
  have HQ1 := hid ((bB.block _ (Array.getElem?_eq_some_iff.1 HP1.out).1).trans HP1.out)
  have HQ2 := hid ((bB.block _ (Array.getElem?_eq_some_iff.1 HP2.out).1).trans HP2.out)
  have j0 := opn_c0 HQ2.out
  clear hdn wB bB mB sB cB tB HWA1 HP1 HP2 HB1 HC1 HC2 k0' k1' k2'
  have HTW : Hid (∀ W, Below w2.heap.size w2 W → TwoO q n d b s c4 cp cr cn cp2 cr2 cn2 a4 ap ar an' ap2 ar2 an2 root (N : Int) ps rows nodes ps2 rows2 nodes2 W ∧ Below w.heap.size w W ∧ W.heap[w.heap.size]? = some (.cells #[.slice ap ps.length cp, .slice ar rows.length cr, .slice an' nodes.length cn] 49 (0, 0)) ∧ W.heap[w.heap.size + 1]? = some (.cells #[.slice ap2 ps2.length cp2, .slice ar2 rows2.length cr2, .slice an2 nodes2.length cn2] 49 (0, 0))) := fun W h => by
    have hb := HB2.out.trans (h.mono HB2.out.size)
    exact ⟨HT.out.below hb, hb, (h.block _ (Array.getElem?_eq_some_iff.1 HQ1.out).1).trans HQ1.out, (h.block _ (Array.getElem?_eq_some_iff.1 HQ2.out).1).trans HQ2.out⟩
  go_wp2_with fail
  go_loopw [43] (fun iv wr => ∃ j : Nat, j ≤ ps2.length ∧ iv = .int .i64 j ∧ Hid (Below w2.heap.size w2 wr ∧ ∀ j', j' < j → ∀ i, i < ps.length → zat ps i = zat ps2 j' → elr q (rat rows i) = elr q (rat rows2 j'))) (fun iv _ => ps2.length - (intOf iv).toNat)
  case atStart => exact ⟨0, by omega, rfl, Below.refl _ _, fun j' hj => by omega⟩
  case round =>
    obtain ⟨j, hj, rfl, hC⟩ := hrel
    by_cases hlt : j < ps2.length
    · have hlt2 : (j : Int) < (ps2.length : Int) := by omega
      have hks : IntKind.i64.wrap ((j : Int) + 1) = (j : Int) + 1 := by rw [IntKind.wrap_i64]; omega
      obtain ⟨tw, bw, o1, o2⟩ := HTW.out wr hC.out.1
      obtain ⟨bp, op, hae, hbp, hcp⟩ := tw.lp2.row j hlt
      subst hae
      have hzz := HSB.out.2.1 j hlt
      obtain ⟨x0, hx0⟩ : ∃ x0 : Nat, zat ps2 j = (x0 : Int) := ⟨(zat ps2 j).toNat, by omega⟩
      rw [hx0] at hcp
      have c0 := opn_c0 o1
      have HSR := hid (search_asc ap cp ps (x0 : Int) wr (asc_of HSA.out.2.1) tw.pl tw.lp)
      have HJ := hid hx0
      have hxN : x0 < N := by omega
      clear tw bw o1 o2 hzz hx0
      go_wp2_with fail
      refine HSR.out.mono ?_
      rintro e w3 ⟨⟨k, rfl, hk⟩, hb3⟩
      have HB3 := hid (hC.out.1.trans (hb3.mono hC.out.1.size))
      clear hb3
      cases hcon : ps.contains (x0 : Int) with
      | false =>
        have HE : Hid (Below w2.heap.size w2 w3 ∧ ∀ j', j' < j + 1 → ∀ i, i < ps.length → zat ps i = zat ps2 j' → elr q (rat rows i) = elr q (rat rows2 j')) := ⟨HB3.out, fun j' hj' i hi e => by
          rcases Nat.lt_or_ge j' j with h' | h'
          · exact hC.out.2 j' h' i hi e
          · rw [show j' = j by omega, HJ.out] at e
            have : ps.contains (x0 : Int) = true := by simpa using (by rw [← e]; exact zat_mem hi : (x0 : Int) ∈ ps)
            rw [hcon] at this
            cases this⟩
        clear hk hcon hC
        go_wp2_with fail
        go_roundw
        case rel => exact ⟨j + 1, by omega, by go_num, HE⟩
        case measure => simp [intOf]; omega
      | true =>
        obtain ⟨hk1, hk2⟩ := hk hcon
        have hkr : k < rows.length := by rw [HSA.out.1]; exact hk1
        have hjr : j < rows2.length := by rw [HSB.out.1]; exact hlt
        have hkr2 : (k : Int) < (rows.length : Int) := by omega
        have hjr2 : (j : Int) < (rows2.length : Int) := by omega
        obtain ⟨tw, bw, o1, o2⟩ := HTW.out w3 HB3.out
        obtain ⟨brA, orA, akA, ckA, hae, hbrA, hcrA, hlrA⟩ := tw.lr.row k hkr
        subst hae
        obtain ⟨brB, orB, akB, ckB, hae, hbrB, hcrB, hlrB⟩ := tw.lr2.row j hjr
        subst hae
        have HTW3 := hid tw
        have HKe : Hid (∀ W, Below w3.heap.size w3 W → W.cell? ⟨w.heap.size, 1, none⟩ = some (.slice (some ⟨brA, orA, none⟩) rows.length cr) ∧ W.cell? ⟨brA, orA + k, none⟩ = some (.slice akA (rat rows k).length ckA) ∧ W.cell? ⟨w.heap.size + 1, 1, none⟩ = some (.slice (some ⟨brB, orB, none⟩) rows2.length cr2) ∧ W.cell? ⟨brB, orB + j, none⟩ = some (.slice akB (rat rows2 j).length ckB)) := fun W h =>
          ⟨(h.cell (p := ⟨w.heap.size, 1, none⟩) (Array.getElem?_eq_some_iff.1 o1).1).trans (opn_c1 o1), (h.cell (p := ⟨brA, orA + k, none⟩) hbrA).trans hcrA, (h.cell (p := ⟨w.heap.size + 1, 1, none⟩) (Array.getElem?_eq_some_iff.1 o2).1).trans (opn_c1 o2), (h.cell (p := ⟨brB, orB + j, none⟩) hbrB).trans hcrB⟩
        obtain ⟨LX, hLX⟩ : ∃ LX, LX = elr q (0 :: rat rows k) := ⟨_, rfl⟩
        obtain ⟨LY, hLY⟩ : ∃ LY, LY = elr q (0 :: rat rows2 j) := ⟨_, rfl⟩
        have hfA := tw.fr k hkr
        have hfB := tw.fr2 j hjr
        have HFd : Hid (∀ W, Below w3.heap.size w3 W → Calls Tryz.prog 8 #[.pointer (some ⟨s, 0, none⟩)] W fun e w' => e = .returned (.pointer (some ⟨b, 0, none⟩)) ∧ w' = W) := fun W h => sfield_any q n d b s W (HTW3.out.hs.keep h)
        have HRA : Hid (∀ W, Below w3.heap.size w3 W → Calls Tryz.prog 77 #[.pointer (some ⟨b, 0, none⟩), .slice akA (rat rows k).length ckA] W fun e w' => ∃ a' c', e = .returned (.slice a' LX.length c') ∧ Hid (LstV w' (.slice a' LX.length c') LX) ∧ Below w3.heap.size w3 w') := fun W h => by
          refine (rowlist_any q b ckA akA (rat rows k) W h3 hq (HTW3.out.hs.keep h).p (by have := hfA.2; omega) hfA.1 ((hlrA.below h).mono h.size)).mono ?_
          rintro e w' ⟨v, rfl, ⟨a', c', rfl, hl⟩, hb'⟩
          rw [← hLX] at hl ⊢
          exact ⟨a', c', rfl, ⟨a', c', rfl, hl⟩, h.trans (hb'.mono h.size)⟩
        have HRB : Hid (∀ (W : World) (vx : Value), Hid (LstV W vx LX) → Below w3.heap.size w3 W → Calls Tryz.prog 77 #[.pointer (some ⟨b, 0, none⟩), .slice akB (rat rows2 j).length ckB] W fun e w' => ∃ a' c', e = .returned (.slice a' LY.length c') ∧ Hid (LstV w' (.slice a' LY.length c') LY) ∧ Hid (LstV w' vx LX) ∧ Below w3.heap.size w3 w') := fun W vx hvx h => by
          refine (rowlist_any q b ckB akB (rat rows2 j) W h3 hq (HTW3.out.hs.keep h).p (by have := hfB.2; omega) hfB.1 ((hlrB.below h).mono h.size)).mono ?_
          rintro e w' ⟨v, rfl, ⟨a', c', rfl, hl⟩, hb'⟩
          rw [← hLY] at hl ⊢
          exact ⟨a', c', rfl, ⟨a', c', rfl, hl⟩, hvx.out.keep hb', h.trans (hb'.mono h.size)⟩
        have HLX := hid hLX
        have HLY := hid hLY
        have HFA := hid hfA
        have HFB := hid hfB
        have HK2 := hid hk2
        have hd1 : Below w3.heap.size w3 w3.drew := (Below.refl _ _).drew
        clear hLX hLY hfA hfB hk2 tw bw o1 o2 hcrA hcrB hlrA hlrB hk hcon HSR hcp c0
        go_wp2_with fail
        go_region_held3 (fun W => W.cell? ⟨w.heap.size, 1, none⟩ = some (.slice (some ⟨brA, orA, none⟩) rows.length cr) ∧ W.cell? ⟨brA, orA + k, none⟩ = some (.slice akA (rat rows k).length ckA) ∧ W.cell? ⟨w.heap.size + 1, 1, none⟩ = some (.slice (some ⟨brB, orB, none⟩) rows2.length cr2) ∧ W.cell? ⟨brB, orB + j, none⟩ = some (.slice akB (rat rows2 j).length ckB)) (exact HKe.out _ (by assumption))
          (first
            | (go_at_call 8; refine (HFd.out _ (by assumption)).mono ?_; rintro e w' ⟨rfl, rfl⟩)
            | (go_at_call 77; with_reducible refine (HRA.out _ (by assumption)).mono ?_; rintro e w' ⟨xa, xc, rfl, hox, hbx⟩)
            | (go_at_call 77; with_reducible refine (HRB.out _ _ (by assumption) (by assumption)).mono ?_; rintro e w' ⟨ya, yc, rfl, hoy, hox2, hby⟩))
        have HEQ : Hid (Calls Tryz.prog 78 #[.slice xa LX.length xc, .slice ya LY.length yc] w' fun e w'' => e = .returned (.bool (decide (LX = LY))) ∧ Below w'.heap.size w' w'') := by
          obtain ⟨a1, c1, e1, hl1⟩ := hox2.out
          obtain ⟨a2, c2, e2, hl2⟩ := hoy.out
          cases e1
          cases e2
          exact equal_any xc yc xa ya LX LY w' (by rw [HLX.out, elr_len, List.length_cons]; have := HFA.out.2; omega) hl1.row hl2.row
        have HB4 := hid (HB3.out.trans (hby.mono HB3.out.size))
        by_cases hxy : LX = LY
        · rw [decide_eq_true hxy] at HEQ
          have hel : elr q (rat rows k) = elr q (rat rows2 j) := by
            rw [HLX.out, HLY.out] at hxy
            exact elr_cons0.1 hxy
          have HEL : Hid (∀ j', j' < j + 1 → ∀ i, i < ps.length → zat ps i = zat ps2 j' → elr q (rat rows i) = elr q (rat rows2 j')) := fun j' hj' i hi e => by
            rcases Nat.lt_or_ge j' j with h' | h'
            · exact hC.out.2 j' h' i hi e
            · rw [show j' = j by omega] at e ⊢
              rw [HJ.out, ← HK2.out] at e
              rw [asc_inj (asc_of HSA.out.2.1) hi hk1 e]
              exact hel
          clear hxy hel hox hoy hox2 hbx hby HRA HRB HFd HKe
          go_wp2_with fail
          refine HEQ.out.mono ?_
          rintro e w5 ⟨rfl, hb5⟩
          have HE : Hid (Below w2.heap.size w2 w5 ∧ ∀ j', j' < j + 1 → ∀ i, i < ps.length → zat ps i = zat ps2 j' → elr q (rat rows i) = elr q (rat rows2 j')) := ⟨HB4.out.trans (hb5.mono HB4.out.size), HEL.out⟩
          clear hb5
          go_wp2_with fail
          go_roundw
          case rel => exact ⟨j + 1, by omega, by go_num, HE⟩
          case measure => simp [intOf]; omega
        · rw [decide_eq_false hxy] at HEQ
          have HAP : Hid (Apart q ps rows ps2 rows2) := ⟨k, j, hk1, hlt, by rw [HK2.out, HJ.out], fun e => hxy (by rw [HLX.out, HLY.out]; exact elr_cons0.2 e)⟩
          have HEND : Hid (DV q n (M0 q n N ps rows nodes) x0 (x0 + 1) = DV q n (M0 q n N ps2 rows2 nodes2) x0 (x0 + 1) → Clash q n LX LY) := fun e => by
            have eA := M0_row (q := q) (n := n) (rows := rows) (nodes := nodes) h1 HSA.out.2.1 hk1
            have eB := M0_row (q := q) (n := n) (rows := rows2) (nodes := nodes2) h1 HSB.out.2.1 hlt
            rw [HK2.out, Int.toNat_natCast] at eA
            rw [HJ.out, Int.toNat_natCast] at eB
            rw [DV_eq (.found eA), DV_eq (.found eB)] at e
            refine ⟨hxy, by rw [HLX.out]; exact elr_elr q _, by rw [HLY.out]; exact elr_elr q _, ?_, by rw [HLX.out]; exact elr_fits2 h3 hq _, by rw [HLY.out]; exact elr_fits2 h3 hq _, ?_, ?_⟩
            · rw [HLX.out, HLY.out, digl_elr, digl_elr]; exact e
            · rw [HLX.out, elr_len, List.length_cons]; have := HFA.out.2; omega
            · rw [HLY.out, elr_len, List.length_cons]; have := HFB.out.2; omega
          have HPAR : Hid (∀ W, Below w'.heap.size w' W → Calls Tryz.prog 79 #[.pointer (some ⟨gA, 0, none⟩), .pointer (some ⟨gB, 0, none⟩), .agg #[.int .i64 0, .int .i64 (N : Int)], .int .i64 (x0 : Int), .slice xa LX.length xc, .slice ya LY.length yc] W (PartR q n W)) := fun W hW => by
            have hA := (HWA.out.keep HB4.out).keep hW
            have hB := (HWB.out.keep HB4.out).keep hW
            have rA := shwn_rd (q := q) (n := n) h1 HSA.out
            have rB := shwn_rd (q := q) (n := n) h1 HSB.out
            exact parting_any q n N s gA BA gB BB x0 k j ps ps2 rows nodes rows2 nodes2 MA MB LX LY _ _ W h3 hq h1 h2 HDA.out HDB.out hk1 HK2.out hlt HJ.out hxN hA.wlk hA.map hA.snd hA.cl hB.wlk hB.map hB.snd hB.cl ⟨by rw [DV_eq rA]; exact rA, hA.top⟩ ⟨by rw [DV_eq rB]; exact rB, hB.top⟩ HSM.out (hox2.out.keep hW) (hoy.out.keep hW) HEND.out
          have HBX := hid (HTW.out w' HB4.out).2.1
          have HFIN : Hid (∀ (W w7 : World) (v1 v2 : Value) (U V : List Int), Below w'.heap.size w' W → LstV w7 v1 U → LstV w7 v2 V → Clash q n U V → Below W.heap.size W w7 → CollR q n (Apart q ps rows ps2 rows2) w (.returned (.tuple #[v1, v2, .bool true])) w7) := fun W w7 v1 v2 U V hW l1 l2 hc hb7 => CollR.yes l1 l2 hc HAP.out ((HBX.out.trans (hW.mono HBX.out.size)).trans (hb7.mono (by have := HBX.out.size; have := hW.size; omega)))
          clear hxy hox hoy hox2 hbx hby HRA HRB HFd HKe HAP HEND
          go_wp2_with fail
          refine HEQ.out.mono ?_
          rintro e w5 ⟨rfl, hb5⟩
          have HP5 := hid (HPAR.out w5 hb5)
          have HB5 := hid hb5
          clear hb5 HPAR
          go_wp2_with fail
          refine HP5.out.mono ?_
          rintro e w7 ⟨v1, v2, U, V, rfl, l1, l2, hc, hb7⟩
          have HX := hid (HFIN.out w5 w7 v1 v2 U V HB5.out l1 l2 hc hb7)
          clear l1 l2 hc hb7
          go_wp2_with fail
          go_ret3
          exact HX.out
    · obtain rfl : j = ps2.length := by omega
      have HX : Hid (CollR q n (Apart q ps rows ps2 rows2) w (.returned (.tuple #[.slice none 0 0, .slice none 0 0, .bool false])) wr) := CollR.no (fun ⟨i, j, hi, hj, e, hne⟩ => hne (hC.out.2 j hj i hi e)) (HTW.out wr hC.out.1).2.1
      clear hC
      generalize CollR q n (Apart q ps rows ps2 rows2) w = RR at *
      go_wp2_with fail
      go_ret3
      exact HX.out

theorem collide_any (q n d b s c4 cp cr cn cp2 cr2 cn2 : Nat) (a4 ap ar an' ap2 ar2 an2 : Option Addr) (root : List Int) (N : Int) (ps : List Int) (rows nodes : List (List Int)) (ps2 : List Int) (rows2 nodes2 : List (List Int)) (w : World) (h : TwoO q n d b s c4 cp cr cn cp2 cr2 cn2 a4 ap ar an' ap2 ar2 an2 root N ps rows nodes ps2 rows2 nodes2 w) :
    Calls Tryz.prog 29 #[.pointer (some ⟨s, 0, none⟩), .slice a4 root.length c4, .int .i64 N, .agg #[.slice ap ps.length cp, .slice ar rows.length cr, .slice an' nodes.length cn], .agg #[.slice ap2 ps2.length cp2, .slice ar2 rows2.length cr2, .slice an2 nodes2.length cn2]] w (CollR q n (chkf q n root N ps rows nodes = true ∧ chkf q n root N ps2 rows2 nodes2 = true ∧ Apart q ps rows ps2 rows2) w) := by
  by_cases hb : chkf q n root N ps rows nodes = true ∧ chkf q n root N ps2 rows2 nodes2 = true
  · have h3 : 3 ≤ q := by have := h.ok.h23; omega
    obtain ⟨M, rfl, m1, m2, h4, shA, dA⟩ := chk_true h3 hb.1
    obtain ⟨M', e, _, _, _, shB, dB⟩ := chk_true h3 hb.2
    obtain rfl : M = M' := by omega
    refine (collide_yes q n d b s c4 cp cr cn cp2 cr2 cn2 a4 ap ar an' ap2 ar2 an2 root M ps rows nodes ps2 rows2 nodes2 w h m1 m2 h4 shA dA shB dB).mono ?_
    rintro e w' ⟨hh, hbl⟩
    refine ⟨?_, hbl⟩
    rcases hh with ⟨e1, e2⟩ | ⟨v1, v2, U, V, e1, l1, l2, hc, ht⟩
    · exact .inl ⟨e1, fun hx => e2 hx.2.2⟩
    · exact .inr ⟨v1, v2, U, V, e1, l1, l2, hc, hb.1, hb.2, ht⟩
  · exact collide_no q n d b s c4 cp cr cn cp2 cr2 cn2 a4 ap ar an' ap2 ar2 an2 root N ps rows nodes ps2 rows2 nodes2 w h hb

end Go.Proofs.YtmmlphdekeflfaaGreatDoor
