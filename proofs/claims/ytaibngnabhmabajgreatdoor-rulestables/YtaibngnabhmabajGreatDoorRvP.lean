/- attestref8.Table, where there may be a table. -/
import Derived.Test.YtaibngnabhmabajGreatDoorBtBG
namespace Go.Proofs.YtaibngnabhmabajGreatDoor
open Go.RowKit Go.Maps

theorem mem_fillH {R : List (List Int)} {hs : List Int} {a : Int} : a ∈ allc (fillH R hs) ↔ a ∈ allc R := by
  rw [mem_allc, mem_allc, fillH_len]
  have e : ∀ k, k < R.length → ∀ j, j ≠ 6 → zat (rat (fillH R hs) k) j = zat (rat R k) j := fun k hk j hj => by
    rw [fillH_rat hk]
    split
    · exact zat_other hj
    · rfl
  constructor
  · rintro ⟨k, hk, h⟩
    rw [e k hk 3 (by decide), e k hk 4 (by decide), e k hk 5 (by decide)] at h
    exact ⟨k, hk, h⟩
  · rintro ⟨k, hk, h⟩
    rw [← e k hk 3 (by decide), ← e k hk 4 (by decide), ← e k hk 5 (by decide)] at h
    exact ⟨k, hk, h⟩
theorem allc_fillH (R : List (List Int)) (hs : List Int) (a : Int) : decide (a ∈ allc (fillH R hs)) = decide (a ∈ allc R) := decide_eq_decide.2 mem_fillH

/-- a row on its way, beside its step and the code -/
structure RwS (wr : World) (C k : Nat) (s : List Int) (size : Int) (aL : Option Addr) (nL cL : Nat) (l : List Int) (W : World) : Prop where
  row : BRow (wr.heap.size + 1) W l
  stp : W.heap[wr.heap.size]? = some (.cells #[.int .i64 (k : Int), .int .i64 (zat s 1), .int .i64 (zat s 2), .int .i64 (zat s 3), .int .i64 (zat s 4), .int .i64 (zat s 5), .int .i64 (zat s 6), .int .i64 (zat s 7), .int .i64 (zat s 8), .int .i64 (zat s 9)] 135 (0, 0))
  cod : W.heap[C]? = some (.cells #[.int .i64 size, .slice aL nL cL] 47 (0, 0))
  bel : Below wr.heap.size wr W
theorem RwS.set {wr : World} {C k : Nat} {s : List Int} {size : Int} {aL : Option Addr} {nL cL : Nat} {l : List Int} {W : World} (h : RwS wr C k s size aL nL cL l W) (hC : C < wr.heap.size) {j : Nat} (x : Int) (hj : j < l.length) : RwS wr C k s size aL nL cL (l.set j x) (W.setCell ⟨wr.heap.size + 1, j, none⟩ (.int .i64 x)) :=
  ⟨h.row.set x hj, (Below.heap_setCell _ _ _ _ (show wr.heap.size ≠ wr.heap.size + 1 by omega)).trans h.stp, (Below.heap_setCell _ _ _ _ (show C ≠ wr.heap.size + 1 by omega)).trans h.cod, h.bel.setCell (p := ⟨wr.heap.size + 1, j, none⟩) (show wr.heap.size ≤ wr.heap.size + 1 by omega) _⟩
theorem RwS.step {wr : World} {C k : Nat} {s : List Int} {size : Int} {aL : Option Addr} {nL cL : Nat} {l : List Int} {W W' : World} (h : RwS wr C k s size aL nL cL l W) (e : Below W.heap.size W W') : RwS wr C k s size aL nL cL l W' :=
  ⟨h.row.block (e.block _ h.row.row.lt), (e.block _ (Array.getElem?_eq_some_iff.1 h.stp).1).trans h.stp, (e.block _ (Array.getElem?_eq_some_iff.1 h.cod).1).trans h.cod, h.bel.trans (e.mono h.bel.size)⟩
theorem RwS.at {wr : World} {C k : Nat} {s : List Int} {size : Int} {aL : Option Addr} {nL cL : Nat} {l : List Int} {W : World} (h : RwS wr C k s size aL nL cL l W) {j : Nat} (h1 : 1 ≤ j) (hj : j < 10) : W.cell? ⟨wr.heap.size, j, none⟩ = some (.int .i64 (zat s j)) := by
  have : j = 1 ∨ j = 2 ∨ j = 3 ∨ j = 4 ∨ j = 5 ∨ j = 6 ∨ j = 7 ∨ j = 8 ∨ j = 9 := by omega
  rcases this with rfl | rfl | rfl | rfl | rfl | rfl | rfl | rfl | rfl <;> simp [World.cell?, h.stp]

set_option maxRecDepth 100000 in
set_option maxHeartbeats 8000000 in
theorem rtable_yes (p N cL : Nat) (size : Int) (aL : Option Addr) (L : List InsZ) (w : World) (h3 : 3 ≤ p) (h4 : p ≤ 2147483647) (hN1 : 1 ≤ N) (hN2 : N ≤ 512) (hL64 : L.length ≤ 64) (hL : LstI w.heap.size w aL cL L) (hIB : InsB L) :
    Calls Tryz.prog 25 #[.int .i64 (p : Int), .agg #[.int .i64 size, .slice aL L.length cL], .int .i64 (N : Int)] w (RtR p size L (N : Int) w) := by
  have hmx : Tryz.prog.follows .mixedOrders = true := by kernel_rfl
  obtain ⟨i0, hi, hz0, hz1, hz2⟩ := info_parts (show (Tryz.prog.info? 3).map (fun i => (i.zero, i.size, i.bytes)) = some (some (.int .i64 0), 1, 8) by kernel_rfl)
  obtain ⟨j0, hj, hy0, hy1, hy2⟩ := info_parts (show (Tryz.prog.info? 22).map (fun i => (i.zero, i.size, i.bytes)) = some (some (.slice none 0 0), 1, 24) by kernel_rfl)
  obtain ⟨W0, hW0⟩ : ∃ W0, W0 = w.alloc (.cells #[.int .i64 size, .slice aL L.length cL] 47) := ⟨_, rfl⟩
  have hb0 : Below w.heap.size w W0 := by rw [hW0]; exact (Below.refl _ _).alloc (Nat.le_refl _) _
  have hs0 : W0.heap[w.heap.size]? = some (.cells #[.int .i64 size, .slice aL L.length cL] 47 (0, 0)) := by rw [hW0]; exact heap_alloc_new w _
  have hCl : w.heap.size < W0.heap.size := (Array.getElem?_eq_some_iff.1 hs0).1
  have HWK := hid (rwalk_table (p := p) (N := N) (size := size) (aL := aL) (cL := cL) (L := L) (w := w) (W := W0) h3 h4 hL64 hN1 hN2 hIB ((hL.below hb0).mono hb0.size))
  have HB0 := hid hb0
  have HS0 := hid hs0
  have HL := hid hL
  obtain ⟨nL, hnl⟩ : ∃ nL, nL = L.length := ⟨_, rfl⟩
  have HNL := hid hnl
  have k0 : W0.cell? ⟨w.heap.size, 0, none⟩ = some (.int .i64 size) := by simp [World.cell?, hs0]
  have k1 : W0.cell? ⟨w.heap.size, 1, none⟩ = some (.slice aL L.length cL) := by simp [World.cell?, hs0]
  rw [← hnl] at hW0 k1 hL64 HWK HS0 ⊢
  have t1 : ¬ (N : Int) < 1 := by omega
  have t2 : ¬ (512 : Int) < (N : Int) := by omega
  have t3 : ¬ (64 : Int) < (nL : Int) := by omega
  have wm : IntKind.i64.wrap ((N : Int) - 1) = (N : Int) - 1 := by rw [IntKind.wrap_i64]; omega
  clear hb0 hs0 hnl hL
  go_enter Tryz.func25, Tryz.ntmps25
  go_wp2_with fail
  rw [← hW0]
  clear hW0
  go_wp2_with fail
  refine HWK.out.mono ?_
  rintro e w1 ⟨hb1, hcase⟩
  have HB1 := hid hb1
  have HC1 := hid ((hb1.block _ hCl).trans HS0.out)
  clear HWK k0 k1 t1 t2 t3 wm HS0
  rcases hcase with ⟨z, hz, rfl, hR⟩ | ⟨st, v1, v2, rfl, hst, hsb, hs0, hR⟩
  · have HR := hid hR
    have HBW := hid (HB0.out.trans (hb1.mono HB0.out.size))
    have hne : (z != 0) = true := by simp [hz]
    clear hR hb1 HB1 hz
    go_wp2_with fail
    go_ret3
    exact HR.out _ _ HBW.out rfl
  obtain ⟨g, cap, rfl, hsm, hgl, hcel⟩ := hst.at hs0 (fun s h => (hsb s h).1)
  have HR := hid hR
  have HSB := hid hsb
  have HCE := hid hcel
  obtain ⟨ns, hns⟩ : ∃ ns, ns = st.length := ⟨_, rfl⟩
  have HNS := hid hns
  rw [← hns] at hs0 hsm ⊢
  have HBW := hid (HB0.out.trans (hb1.mono HB0.out.size))
  have hCw : w.heap.size < w1.heap.size := Nat.lt_of_lt_of_le hCl hb1.size
  have HCw := hid hCw
  obtain ⟨R, hRR⟩ : ∃ R, R = shns p L st N := ⟨_, rfl⟩
  have HRR := hid hRR
  clear hst hR hsb hcel hns hb1 hRR hCl hCw
  go_wp2_with fail
  go_loopw [12, 13, 14] (fun v tv iv wr => ∃ (i : Nat) (t : Int), i ≤ N ∧ iv = .int .i64 (i : Int) ∧ tv = .int .i64 t ∧ Hid (TopOk (allc (R.take i)) t) ∧ Hid (t ≤ 2147483647) ∧ Hid (RtI w1.heap.size (20 + nL) i R v w1 wr)) (fun _ _ iv _ => N - (intOf iv).toNat)
  case atStart => exact ⟨0, 0, Nat.zero_le _, rfl, rfl, topOk_nil, by unfold Hid; omega, RtI.first⟩
  case round =>
    obtain ⟨i, t, hi', rfl, rfl, HTO, HTB, HI⟩ := hrel
    obtain ⟨wo, rfl⟩ : ∃ wo, wo = wr := ⟨_, rfl⟩
    by_cases hlt : i < N
    · have hlt2 : (i : Int) < (N : Int) := by omega
      have his : IntKind.i64.wrap ((i : Int) + 1) = (i : Int) + 1 := by rw [IntKind.wrap_i64]; omega
      obtain ⟨m, hm⟩ : ∃ m, m = min i (ns - 1) := ⟨_, rfl⟩
      have hmn : m < ns := by omega
      have hmi : (m : Int) < (ns : Int) := by omega
      have hmem : rat st m ∈ st := rat_mem (by have := HNS.out; omega)
      have hSB := HSB.out _ hmem
      have hRi : rat R i = srow p nL (insat L (zat (rat st m) 0).toNat).op (rat st m) := by
        rw [HRR.out, shns_rat _ _ _ hlt, shn, ← HNS.out, ← hm, ← HNL.out]
      have hcel : ∀ j, j < 10 → wo.cell? ⟨g, m * 10 + j, none⟩ = some (.int .i64 (zat (rat st m) j)) := fun j hj => (HI.out.bel.cell (p := ⟨g, m * 10 + j, none⟩) hgl).trans (HCE.out m j (by have := HNS.out; omega) hj)
      have d0 : wo.cell? ⟨g, m * 10, none⟩ = some (.int .i64 (zat (rat st m) 0)) := hcel 0 (by omega)
      have d1 := hcel 1 (by omega)
      have d2 := hcel 2 (by omega)
      have d3 := hcel 3 (by omega)
      have d4 := hcel 4 (by omega)
      have d5 := hcel 5 (by omega)
      have d6 := hcel 6 (by omega)
      have d7 := hcel 7 (by omega)
      have d8 := hcel 8 (by omega)
      have d9 := hcel 9 (by omega)
      generalize rat st m = s at *
      obtain ⟨k, hk⟩ : ∃ k : Nat, zat s 0 = (k : Int) := ⟨(zat s 0).toNat, by have := (hSB.2.1 0 (by omega)).1; omega⟩
      have hkL : k < nL := by have := hSB.2.2; have := HNL.out; omega
      have hcode : wo.heap[w.heap.size]? = some (.cells #[.int .i64 size, .slice aL nL cL] 47 (0, 0)) := (HI.out.bel.block _ HCw.out).trans HC1.out
      obtain ⟨W1, hW1⟩ : ∃ W1, W1 = wo.alloc (.cells #[.int .i64 (k : Int), .int .i64 (zat s 1), .int .i64 (zat s 2), .int .i64 (zat s 3), .int .i64 (zat s 4), .int .i64 (zat s 5), .int .i64 (zat s 6), .int .i64 (zat s 7), .int .i64 (zat s 8), .int .i64 (zat s 9)] 135) := ⟨_, rfl⟩
      have hbA : Below wo.heap.size wo W1 := by rw [hW1]; exact (Below.refl _ _).alloc (Nat.le_refl _) _
      have hS1 : W1.heap[wo.heap.size]? = some (.cells #[.int .i64 (k : Int), .int .i64 (zat s 1), .int .i64 (zat s 2), .int .i64 (zat s 3), .int .i64 (zat s 4), .int .i64 (zat s 5), .int .i64 (zat s 6), .int .i64 (zat s 7), .int .i64 (zat s 8), .int .i64 (zat s 9)] 135 (0, 0)) := by rw [hW1]; exact heap_alloc_new wo _
      have hcl := (Array.getElem?_eq_some_iff.1 hcode).1
      have hcode1 := (hbA.block _ hcl).trans hcode
      have c1 : W1.cell? ⟨w.heap.size, 1, none⟩ = some (.slice aL nL cL) := by simp [World.cell?, hcode1]
      have c1' : (wo.alloc (.cells #[.int .i64 (k : Int), .int .i64 (zat s 1), .int .i64 (zat s 2), .int .i64 (zat s 3), .int .i64 (zat s 4), .int .i64 (zat s 5), .int .i64 (zat s 6), .int .i64 (zat s 7), .int .i64 (zat s 8), .int .i64 (zat s 9)] 135)).cell? ⟨w.heap.size, 1, none⟩ = some (.slice aL nL cL) := by rw [← hW1]; exact c1
      have HS1 := hid hS1
      have HCO1 := hid hcode1
      have HBA := hid hbA
      have HSBs := hid hSB
      have HRi := hid hRi
      have wnl : IntKind.i64.wrap (20 + (nL : Int)) = 20 + (nL : Int) := by rw [IntKind.wrap_i64]; omega
      rw [hk] at d0
      have HK := hid hk
      clear hSB hRi hcel hmem hbA hS1 hcode hcode1 hk c1
      by_cases hki : (ns : Int) ≤ (i : Int)
      · have e1 : (ns : Int) - 1 = (m : Int) := by omega
        have w1' : IntKind.i64.wrap (m : Int) = (m : Int) := by unfold maxLen at hsm; rw [IntKind.wrap_i64]; omega
        clear hm
        go_wp2_with (refine wpList_make_full _ rfl _ _ _ rfl wo.heap.size 3 i0 _ 1 Tryz.underlying22 hi hz0 hz1 .i64 .i64 _ _ (20 + nL) rfl rfl (by simp) (by simp) (by rw [hz2]; omega) (by unfold maxLen; omega) (by simp) ?_)
        intro w2 hown hgr
        rw [← hW1] at hgr
        have hb2 : Below W1.heap.size W1 w2 := ⟨hgr.os, hgr.tape, hgr.output, hgr.size, fun k hk => hgr.block k hk (by simp)⟩
        have hCr : w.heap.size < wo.heap.size := hcl
        have hW : RwS wo w.heap.size k s size aL nL cL (List.replicate (20 + nL) 0) w2 :=
          ⟨brow_made (base := wo.heap.size) (n := 20 + nL) (by rw [Nat.mul_one]; exact hown), (hb2.block _ (Array.getElem?_eq_some_iff.1 HS1.out).1).trans HS1.out, (hb2.block _ (Array.getElem?_eq_some_iff.1 HCO1.out).1).trans HCO1.out, HBA.out.trans (hb2.mono HBA.out.size)⟩
        have hlen : (List.replicate (20 + nL) (0 : Int)).length = 20 + nL := by simp
        have hW3 := ((hW.set hCr (j := 0) (zat s 1) (by rw [hlen]; omega)).set hCr (j := 1) (zat s 2) (by rw [List.length_set, hlen]; omega)).set hCr (j := 2) (zat s 3) (by rw [List.length_set, List.length_set, hlen]; omega)
        have a1 := hW.at (j := 1) (by omega) (by omega)
        have a2 := hW.at (j := 2) (by omega) (by omega)
        have a3 := hW.at (j := 3) (by omega) (by omega)
        have q0 := hW.row.row.cells 0 (by rw [hlen]; omega)
        have q1 := hW.row.row.cells 1 (by rw [hlen]; omega)
        have q2 := hW.row.row.cells 2 (by rw [hlen]; omega)
        have f0 := hW.row.row.soft
        have HW3 : Hid (RwS wo w.heap.size k s size aL nL cL (rwj nL s 0) (((w2.setCell ⟨wo.heap.size + 1, 0, none⟩ (.int .i64 (zat s 1))).setCell ⟨wo.heap.size + 1, 1, none⟩ (.int .i64 (zat s 2))).setCell ⟨wo.heap.size + 1, 2, none⟩ (.int .i64 (zat s 3)))) := hW3
        have l0 : (0 : Int) < 20 + (nL : Int) := by omega
        have l1 : (1 : Int) < 20 + (nL : Int) := by omega
        have l2 : (2 : Int) < 20 + (nL : Int) := by omega
        generalize zat (List.replicate (20 + nL) (0 : Int)) 0 = z0 at *
        generalize zat (List.replicate (20 + nL) (0 : Int)) 1 = z1 at *
        generalize zat (List.replicate (20 + nL) (0 : Int)) 2 = z2 at *
        clear hown hgr hb2 hW hW1 hW3 HS1 HCO1 HBA hlen d0 d1 d2 d3 d4 d5 d6 d7 d8 d9 c1' hcl
        go_wp2_with fail
        generalize ((w2.setCell ⟨wo.heap.size + 1, 0, none⟩ (.int .i64 (zat s 1))).setCell ⟨wo.heap.size + 1, 1, none⟩ (.int .i64 (zat s 2))).setCell ⟨wo.heap.size + 1, 2, none⟩ (.int .i64 (zat s 3)) = w3 at *
        clear q0 q1 q2 f0 a1 a2 a3 l0 l1 l2
        go_loopw [13, 18] (fun tv jv W => ∃ (j : Nat) (t : Int), j ≤ 3 ∧ jv = .int .i64 (j : Int) ∧ tv = .int .i64 t ∧ Hid (TopOk (allc (R.take i) ++ cj s j) t) ∧ Hid (t ≤ 2147483647) ∧ Hid (RwS wo w.heap.size k s size aL nL cL (rwj nL s j) W)) (fun _ jv _ => 3 - (intOf jv).toNat)
        case atStart => exact ⟨0, t, Nat.zero_le _, rfl, rfl, by unfold Hid cj; rw [List.append_nil]; exact HTO.out, HTB, HW3⟩
        case round =>
          clear HW3 HTO HTB
          obtain ⟨j, t, hj3, rfl, rfl, HTO, HTB, HW⟩ := hrel
          by_cases hjl : j < 3
          · have hjl2 : (j : Int) < 3 := by omega
            have hjs : IntKind.i64.wrap ((j : Int) + 1) = (j : Int) + 1 := by rw [IntKind.wrap_i64]; omega
            obtain ⟨ja, hja⟩ : ∃ ja, ja = 3 + j := ⟨_, rfl⟩
            obtain ⟨jv, hjv⟩ : ∃ jv, jv = 7 + j := ⟨_, rfl⟩
            have e3 : (3 : Int) + (j : Int) = (ja : Int) := by omega
            have e7 : (7 : Int) + (j : Int) = (jv : Int) := by omega
            have u3 : IntKind.i64.wrap (ja : Int) = (ja : Int) := by rw [IntKind.wrap_i64]; omega
            have u7 : IntKind.i64.wrap (jv : Int) = (jv : Int) := by rw [IntKind.wrap_i64]; omega
            have b3 : (ja : Int) < 20 + (nL : Int) := by omega
            have b7 : (jv : Int) < 20 + (nL : Int) := by omega
            have hln := rwj_len nL s j
            have r4 := HW.out.at (j := 4 + j) (by omega) (by omega)
            have r7 := HW.out.at (j := 7 + j) (by omega) (by omega)
            have p3 := HW.out.row.row.cells ja (by rw [hln]; omega)
            have f3 := HW.out.row.row.soft ja
            have hWA := HW.out.set hCr (j := ja) (zat s (4 + j)) (by rw [hln]; omega)
            have r4' := hWA.at (j := 4 + j) (by omega) (by omega)
            have r7' := hWA.at (j := 7 + j) (by omega) (by omega)
            have p7 := hWA.row.row.cells jv (by rw [List.length_set, hln]; omega)
            have f7 := hWA.row.row.soft jv
            have hWB := hWA.set hCr (j := jv) (zat s (7 + j)) (by rw [List.length_set, hln]; omega)
            have r4'' := hWB.at (j := 4 + j) (by omega) (by omega)
            have HWB : Hid (RwS wo w.heap.size k s size aL nL cL (rwj nL s (j + 1)) ((wr.setCell ⟨wo.heap.size + 1, ja, none⟩ (.int .i64 (zat s (4 + j)))).setCell ⟨wo.heap.size + 1, jv, none⟩ (.int .i64 (zat s (7 + j))))) := by
              have : rwj nL s (j + 1) = ((rwj nL s j).set ja (zat s (4 + j))).set jv (zat s (7 + j)) := by rw [hja, hjv]; rfl
              unfold Hid
              rw [this]
              exact hWB
            have hat := (HSBs.out.2.1 (4 + j) (by omega))
            have HTK : Hid (¬ t < zat s (4 + j) → TopOk (allc (R.take i) ++ cj s (j + 1)) t) := fun h => by
              rw [show cj s (j + 1) = cj s j ++ [zat s (4 + j)] from rfl, ← List.append_assoc]
              exact HTO.out.keep h
            have HTU : Hid (t < zat s (4 + j) → TopOk (allc (R.take i) ++ cj s (j + 1)) (zat s (4 + j))) := fun h => by
              rw [show cj s (j + 1) = cj s j ++ [zat s (4 + j)] from rfl, ← List.append_assoc]
              exact HTO.out.up h
            have HAT : Hid (zat s (4 + j) ≤ 2147483647) := by unfold Hid; omega
            clear hWA hWB HTO HW hln hja hjv hat
            generalize zat s (4 + j) = xa at *
            generalize zat s (7 + j) = xv at *
            generalize zat (rwj nL s j) ja = y3 at *
            generalize zat ((rwj nL s j).set ja xa) jv = y7 at *
            by_cases htx : t < xa
            · go_wp2_with fail
              go_roundw
              case rel => exact ⟨j + 1, xa, by omega, by go_num, rfl, HTU.out htx, HAT, HWB⟩
              case measure => simp [intOf]; omega
            · go_wp2_with fail
              go_roundw
              case rel => exact ⟨j + 1, t, by omega, by go_num, rfl, HTK.out htx, HTB, HWB⟩
              case measure => simp [intOf]; omega
          · obtain rfl : j = 3 := by omega
            obtain ⟨bL, oL, rfl, hbL, eop, _, _, _⟩ := HL.out.row k (by have := HNL.out; omega)
            have hsz9 : w.heap.size ≤ w1.heap.size := Nat.le_of_lt HCw.out
            have hbwo : ∀ W, Below wo.heap.size wo W → Below w.heap.size w W := fun W h => (HBW.out.trans (HI.out.bel.mono hsz9)).trans (h.mono (Nat.le_of_lt hCr))
            have HLI : Hid (∀ W, Below wo.heap.size wo W → W.cell? ⟨bL, oL + k * 4, none⟩ = some (.int .i64 (insat L k).op)) := fun W h => ((hbwo W h).cell (p := ⟨bL, oL + k * 4, none⟩) hbL).trans eop
            have hs7 := HSBs.out.2.1 7 (by omega)
            have hs8 := HSBs.out.2.1 8 (by omega)
            have HHT := hid (fun W => rhint_any p (insat L k).op (k : Int) (zat s 1) (zat s 2) (zat s 3) (zat s 4) (zat s 5) (zat s 6) (zat s 7) (zat s 8) (zat s 9) W h3 h4 (by omega) (by omega) (by omega) (by omega))
            have HHD : Hid (∀ l W, RwS wo w.heap.size k s size (some ⟨bL, oL, none⟩) nL cL l W → W.cell? ⟨w.heap.size, 1, none⟩ = some (.slice (some ⟨bL, oL, none⟩) nL cL) ∧ W.cell? ⟨wo.heap.size, 0, none⟩ = some (.int .i64 (k : Int)) ∧ W.cell? ⟨bL, oL + k * 4, none⟩ = some (.int .i64 (insat L k).op) ∧ W.cell? ⟨wo.heap.size, 1, none⟩ = some (.int .i64 (zat s 1)) ∧ W.cell? ⟨wo.heap.size, 2, none⟩ = some (.int .i64 (zat s 2)) ∧ W.cell? ⟨wo.heap.size, 3, none⟩ = some (.int .i64 (zat s 3)) ∧ W.cell? ⟨wo.heap.size, 4, none⟩ = some (.int .i64 (zat s 4)) ∧ W.cell? ⟨wo.heap.size, 5, none⟩ = some (.int .i64 (zat s 5)) ∧ W.cell? ⟨wo.heap.size, 6, none⟩ = some (.int .i64 (zat s 6)) ∧ W.cell? ⟨wo.heap.size, 7, none⟩ = some (.int .i64 (zat s 7)) ∧ W.cell? ⟨wo.heap.size, 8, none⟩ = some (.int .i64 (zat s 8)) ∧ W.cell? ⟨wo.heap.size, 9, none⟩ = some (.int .i64 (zat s 9)) ∧ True) := fun l W h =>
              ⟨by simp [World.cell?, h.cod], by simp [World.cell?, h.stp], HLI.out W h.bel, h.at (by omega) (by omega), h.at (by omega) (by omega), h.at (by omega) (by omega), h.at (by omega) (by omega), h.at (by omega) (by omega), h.at (by omega) (by omega), h.at (by omega) (by omega), h.at (by omega) (by omega), h.at (by omega) (by omega), trivial⟩
            have hu0 := HHD.out _ _ HW.out
            obtain ⟨Kb, hKb⟩ : ∃ Kb, Kb = wo.heap.size + 1 := ⟨_, rfl⟩
            obtain ⟨S, hS⟩ : ∃ S, S = wo.heap.size := ⟨_, rfl⟩
            obtain ⟨x1, hx1⟩ : ∃ x, x = zat s 1 := ⟨_, rfl⟩
            obtain ⟨x2, hx2⟩ : ∃ x, x = zat s 2 := ⟨_, rfl⟩
            obtain ⟨x3, hx3⟩ : ∃ x, x = zat s 3 := ⟨_, rfl⟩
            obtain ⟨x4, hx4⟩ : ∃ x, x = zat s 4 := ⟨_, rfl⟩
            obtain ⟨x5, hx5⟩ : ∃ x, x = zat s 5 := ⟨_, rfl⟩
            obtain ⟨x6, hx6⟩ : ∃ x, x = zat s 6 := ⟨_, rfl⟩
            obtain ⟨x7, hx7⟩ : ∃ x, x = zat s 7 := ⟨_, rfl⟩
            obtain ⟨x8, hx8⟩ : ∃ x, x = zat s 8 := ⟨_, rfl⟩
            obtain ⟨x9, hx9⟩ : ∃ x, x = zat s 9 := ⟨_, rfl⟩
            obtain ⟨op, hop⟩ : ∃ x, x = (insat L k).op := ⟨_, rfl⟩
            rw [← hS, ← hx1, ← hx2, ← hx3, ← hx4, ← hx5, ← hx6, ← hx7, ← hx8, ← hx9, ← hop] at HHD hu0
            rw [← hx1, ← hx2, ← hx3, ← hx4, ← hx5, ← hx6, ← hx7, ← hx8, ← hx9, ← hop] at HHT
            obtain ⟨hv, hhv⟩ : ∃ x, x = hlp p op x7 x8 := ⟨_, rfl⟩
            rw [← hhv] at HHT
            have HSR : Hid (((rwj nL s 3).set 11 hv).set (20 + k) 1 = rat R i) := by
              unfold Hid
              rw [HRi.out, ← rwj_srow, HK.out, Int.toNat_natCast, hhv, hop, hx7, hx8]
            rw [← hKb, ← hS]
            have HKb := hid hKb
            have hkl : (k : Int) < (nL : Int) := by omega
            have l11 : (11 : Int) < 20 + (nL : Int) := by omega
            clear hx1 hx2 hx3 hx4 hx5 hx6 hx7 hx8 hx9 hop hhv hKb hs7 hs8 hsz9 hbwo eop HLI
            have HS := hid hS
            clear hS
            go_wp2_with fail
            refine wp_region_held_drew (S := (fun W => W.cell? ⟨w.heap.size, 1, none⟩ = some (.slice (some ⟨bL, oL, none⟩) nL cL) ∧ W.cell? ⟨S, 0, none⟩ = some (.int .i64 (k : Int)) ∧ W.cell? ⟨bL, oL + k * 4, none⟩ = some (.int .i64 op) ∧ W.cell? ⟨S, 1, none⟩ = some (.int .i64 x1) ∧ W.cell? ⟨S, 2, none⟩ = some (.int .i64 x2) ∧ W.cell? ⟨S, 3, none⟩ = some (.int .i64 x3) ∧ W.cell? ⟨S, 4, none⟩ = some (.int .i64 x4) ∧ W.cell? ⟨S, 5, none⟩ = some (.int .i64 x5) ∧ W.cell? ⟨S, 6, none⟩ = some (.int .i64 x6) ∧ W.cell? ⟨S, 7, none⟩ = some (.int .i64 x7) ∧ W.cell? ⟨S, 8, none⟩ = some (.int .i64 x8) ∧ W.cell? ⟨S, 9, none⟩ = some (.int .i64 x9) ∧ True)) (by kernel_rfl) hu0 (fun hHeld => ?_)
            refine wpAnyH_takeU (i := 0) (v := .slice (some ⟨Kb, 0, none⟩) (20 + nL) (20 + nL)) rfl (by kernel_rfl) (by kernel_rfl) (by kernel_rfl) (fun _ _ _ h => h) (by rfl) (fun W hC => by go_simp) hHeld ?_
            simp only [Act.put, List.setIfInBounds_toArray, List.set_cons_zero, List.set_cons_succ]
            refine wpAnyH_takeU (i := 1) (v := .int .i64 (p : Int)) rfl (by kernel_rfl) (by kernel_rfl) (by kernel_rfl) (fun _ _ _ h => h) (by rfl) (fun W hC => by go_simp) hHeld ?_
            simp only [Act.put, List.setIfInBounds_toArray, List.set_cons_zero, List.set_cons_succ]
            refine wpAnyH_takeU (i := 2) (v := .pointer (some ⟨w.heap.size, 1, none⟩)) rfl (by kernel_rfl) (by kernel_rfl) (by kernel_rfl) (fun _ _ _ h => h) (by rfl) (fun W hC => by go_simp) hHeld ?_
            simp only [Act.put, List.setIfInBounds_toArray, List.set_cons_zero, List.set_cons_succ]
            refine wpAnyH_takeU (i := 3) (v := .slice (some ⟨bL, oL, none⟩) nL cL) rfl (by kernel_rfl) (by kernel_rfl) (by kernel_rfl) (fun _ _ _ h => h) (by rfl) (fun W hC => by (obtain ⟨y1, y2, y3, a0, a1, a2, a3, a4, a5, a6, a7, a8, a9⟩ := hC); go_simp) hHeld ?_
            simp only [Act.put, List.setIfInBounds_toArray, List.set_cons_zero, List.set_cons_succ]
            refine wpAnyH_takeU (i := 4) (v := .pointer (some ⟨S, 0, none⟩)) rfl (by kernel_rfl) (by kernel_rfl) (by kernel_rfl) (fun _ _ _ h => h) (by rfl) (fun W hC => by go_simp) hHeld ?_
            simp only [Act.put, List.setIfInBounds_toArray, List.set_cons_zero, List.set_cons_succ]
            refine wpAnyH_takeU (i := 5) (v := .int .i64 (k : Int)) rfl (by kernel_rfl) (by kernel_rfl) (by kernel_rfl) (fun _ _ _ h => h) (by rfl) (fun W hC => by (obtain ⟨y1, y2, y3, a0, a1, a2, a3, a4, a5, a6, a7, a8, a9⟩ := hC); go_simp) hHeld ?_
            simp only [Act.put, List.setIfInBounds_toArray, List.set_cons_zero, List.set_cons_succ]
            refine wpAnyH_takeU (i := 6) (v := .pointer (some ⟨bL, oL + k * 4, none⟩)) rfl (by kernel_rfl) (by kernel_rfl) (by kernel_rfl) (fun _ _ _ h => h) (by rfl) (fun W hC => by go_simp) hHeld ?_
            simp only [Act.put, List.setIfInBounds_toArray, List.set_cons_zero, List.set_cons_succ]
            refine wpAnyH_takeU (i := 7) (v := .pointer (some ⟨bL, oL + k * 4, none⟩)) rfl (by kernel_rfl) (by kernel_rfl) (by kernel_rfl) (fun _ _ _ h => h) (by rfl) (fun W hC => by go_simp) hHeld ?_
            simp only [Act.put, List.setIfInBounds_toArray, List.set_cons_zero, List.set_cons_succ]
            refine wpAnyH_takeU (i := 8) (v := .int .i64 op) rfl (by kernel_rfl) (by kernel_rfl) (by kernel_rfl) (fun _ _ _ h => h) (by rfl) (fun W hC => by (obtain ⟨y1, y2, y3, a0, a1, a2, a3, a4, a5, a6, a7, a8, a9⟩ := hC); go_simp) hHeld ?_
            simp only [Act.put, List.setIfInBounds_toArray, List.set_cons_zero, List.set_cons_succ]
            refine wpAnyH_takeU (i := 9) (v := .agg #[.int .i64 (k : Int), .int .i64 x1, .int .i64 x2, .int .i64 x3, .int .i64 x4, .int .i64 x5, .int .i64 x6, .int .i64 x7, .int .i64 x8, .int .i64 x9]) rfl (by kernel_rfl) (by kernel_rfl) (by kernel_rfl) (fun _ _ _ h => h) (by rfl) (fun W hC => by (obtain ⟨y1, y2, y3, a0, a1, a2, a3, a4, a5, a6, a7, a8, a9⟩ := hC); go_simp) hHeld ?_
            simp only [Act.put, List.setIfInBounds_toArray, List.set_cons_zero, List.set_cons_succ]
            refine wpAnyH_ready (rs := [10]) (by kernel_rfl) (by simp) ?_
            refine AllReadyH.consU rfl (fun K' hK' => ?_) AllReadyH.nil
            go_simp
            refine (HHT.out _).mono ?_
            rintro e w7 ⟨rfl, hb7⟩
            have hb67 : Below wr.heap.size wr w7 := ⟨hb7.os, hb7.tape, hb7.output, hb7.size, hb7.block⟩
            have HW7 := hid (HW.out.step hb67)
            refine hK'.out _ _ (HHD.out _ _ HW7.out) (fun hHeld => ?_)
            clear hK' K' hb7 hb67 HW hu0
            refine wpAnyH_takeU (i := 11) (v := .pointer (some ⟨Kb, 11, none⟩)) rfl (by kernel_rfl) (by kernel_rfl) (by kernel_rfl) (fun _ _ _ h => h) (by rfl) (fun W hC => by go_simp) hHeld ?_
            simp only [Act.put, List.setIfInBounds_toArray, List.set_cons_zero, List.set_cons_succ]
            refine wpAnyH_ready (rs := [12]) (by kernel_rfl) (by simp) ?_
            refine AllReadyH.consU rfl (fun K' hK' => ?_) AllReadyH.nil
            have hln := rwj_len nL s 3
            have q11 : w7.cell? ⟨Kb, 11, none⟩ = some (.int .i64 (zat (rwj nL s 3) 11)) := by rw [HKb.out]; exact HW7.out.row.row.cells 11 (by rw [hln]; omega)
            have f11 : w7.frozen? ⟨Kb, 11, none⟩ = false := by rw [HKb.out]; exact HW7.out.row.row.soft 11
            have HW8 : Hid (RwS wo w.heap.size k s size (some ⟨bL, oL, none⟩) nL cL ((rwj nL s 3).set 11 hv) (w7.setCell ⟨Kb, 11, none⟩ (.int .i64 hv))) := by unfold Hid; rw [HKb.out]; exact HW7.out.set hCr (j := 11) hv (by rw [hln]; omega)
            generalize zat (rwj nL s 3) 11 = z11 at *
            go_simp
            refine hK'.out _ _ (HHD.out _ _ HW8.out) (fun hHeld => ?_)
            clear hK' K' hHeld q11 f11 HW7
            refine wpAnyH_done (by kernel_rfl) ?_ _
            generalize w7.setCell ⟨Kb, 11, none⟩ (.int .i64 hv) = w8 at *
            obtain ⟨m2, hm2⟩ : ∃ m2, m2 = 20 + k := ⟨_, rfl⟩
            have e20 : (20 : Int) + (k : Int) = (m2 : Int) := by omega
            have hw20 : IntKind.i64.wrap (m2 : Int) = (m2 : Int) := by rw [IntKind.wrap_i64]; omega
            have l20 : (m2 : Int) < 20 + (nL : Int) := by omega
            have hl8 : ((rwj nL s 3).set 11 hv).length = 20 + nL := by rw [List.length_set, hln]
            have q20 : w8.cell? ⟨Kb, m2, none⟩ = some (.int .i64 (zat ((rwj nL s 3).set 11 hv) m2)) := by rw [HKb.out]; exact HW8.out.row.row.cells m2 (by rw [hl8]; omega)
            have f20 : w8.frozen? ⟨Kb, m2, none⟩ = false := by rw [HKb.out]; exact HW8.out.row.row.soft m2
            have c20 := (HHD.out _ _ HW8.out).2.1
            have HW9 : Hid (RwS wo w.heap.size k s size (some ⟨bL, oL, none⟩) nL cL (rat R i) (w8.setCell ⟨Kb, m2, none⟩ (.int .i64 1))) := by
              unfold Hid
              rw [← HSR.out, HKb.out, hm2]
              exact HW8.out.set hCr (j := 20 + k) 1 (by rw [hl8]; omega)
            generalize zat ((rwj nL s 3).set 11 hv) m2 = z20 at *
            clear HW8 HHD HHT hm2 hl8 hln
            obtain ⟨KK, hKo, hK1, hK2, hK3⟩ := HI.out.rows
            have hlto := fun b hb => World.ownsRow.lt hKo b hb
            have hoX : (w8.setCell ⟨Kb, m2, none⟩ (.int .i64 1)).ownsRow w1.heap.size 22 1 u12 i (slcs KK (20 + nL) i) := ownsRow_belowR hKo HW9.out.bel
            have hszX := HW9.out.bel.size
            have hszW := HI.out.bel.size
            have HTE : Hid (TopOk (allc (R.take (i + 1))) t) := by
              unfold Hid
              rw [allc_take R i (by rw [HRR.out, shns_len]; exact hlt), HRi.out, srow_cells]
              exact HTO.out
            clear HTO
            go_wp2_with (at_builtin; refine wpList_append_own_at _ rfl _ _ 69 rfl w1.heap.size 22 j0 (.slice none 0 0) 1 24 Tryz.underlying69 hj hy0 hy1 hy2 rfl (by decide) _ _ _ rfl (hoX.alloc _) ⟨w8.heap.size, 0, none⟩ 1 1 [.slice (some ⟨Kb, 0, none⟩) (20 + nL) (20 + nL)] rfl rfl ?c1 ?c2 ?c3 ?c4 ?c5 ?_)
            case c1 =>
              intro j u hju
              match j, hju with
              | 0, hju =>
                simp at hju
                subst hju
                have hn := heap_alloc_new (w8.setCell ⟨Kb, m2, none⟩ (.int .i64 1)) (.cells #[.slice (some ⟨Kb, 0, none⟩) (20 + nL) (20 + nL)] 22)
                have hsz : (w8.setCell ⟨Kb, m2, none⟩ (.int .i64 1)).heap.size = w8.heap.size := by simp
                rw [hsz] at hn
                have hadd : (⟨w8.heap.size, 0, none⟩ : Addr).add 0 = ⟨w8.heap.size, 0, none⟩ := by unfold Addr.add; split <;> simp_all
                rw [hadd]
                simp only [World.cell?, hn]
                rfl
            case c2 => intro u hu; simp at hu; subst hu; rfl
            case c3 => unfold maxLen; omega
            case c4 => omega
            case c5 => rw [World.size_alloc]; omega
            intro v' w9 hown2 hgrow _ hwhere
            have hY : Below (w8.setCell ⟨Kb, m2, none⟩ (.int .i64 1)).heap.size (w8.setCell ⟨Kb, m2, none⟩ (.int .i64 1)) ((w8.setCell ⟨Kb, m2, none⟩ (.int .i64 1)).alloc (.cells #[.slice (some ⟨Kb, 0, none⟩) (20 + nL) (20 + nL)] 22)) := (Below.refl _ _).alloc (Nat.le_refl _) _
            have hrow9 : IRow Kb (w8.setCell ⟨Kb, m2, none⟩ (.int .i64 1)) (rat R i) := by have := HW9.out.row.row; rw [← HKb.out] at this; exact this
            have HI9 := hid (RtI.more HI.out hszW HW9.out.bel hrow9 (by have := HKb.out; omega) hY KK hK1 hK2 hK3 hlto hown2 hgrow (by simpa using hwhere))
            clear hY hrow9 hown2 hgrow hwhere hKo hK1 hK2 hK3 hlto hoX HW9 HI q20 f20 c20
            go_wp2_with fail
            go_roundw
            case rel => exact ⟨i + 1, t, by omega, by go_num, rfl, HTE, HTB, HI9⟩
            case measure => simp [intOf]; omega
      · obtain rfl : i = m := by omega
        clear hm
        go_wp2_with (refine wpList_make_full _ rfl _ _ _ rfl wo.heap.size 3 i0 _ 1 Tryz.underlying22 hi hz0 hz1 .i64 .i64 _ _ (20 + nL) rfl rfl (by simp) (by simp) (by rw [hz2]; omega) (by unfold maxLen; omega) (by simp) ?_)
        intro w2 hown hgr
        rw [← hW1] at hgr
        have hb2 : Below W1.heap.size W1 w2 := ⟨hgr.os, hgr.tape, hgr.output, hgr.size, fun k hk => hgr.block k hk (by simp)⟩
        have hCr : w.heap.size < wo.heap.size := hcl
        have hW : RwS wo w.heap.size k s size aL nL cL (List.replicate (20 + nL) 0) w2 :=
          ⟨brow_made (base := wo.heap.size) (n := 20 + nL) (by rw [Nat.mul_one]; exact hown), (hb2.block _ (Array.getElem?_eq_some_iff.1 HS1.out).1).trans HS1.out, (hb2.block _ (Array.getElem?_eq_some_iff.1 HCO1.out).1).trans HCO1.out, HBA.out.trans (hb2.mono HBA.out.size)⟩
        have hlen : (List.replicate (20 + nL) (0 : Int)).length = 20 + nL := by simp
        have hW3 := ((hW.set hCr (j := 0) (zat s 1) (by rw [hlen]; omega)).set hCr (j := 1) (zat s 2) (by rw [List.length_set, hlen]; omega)).set hCr (j := 2) (zat s 3) (by rw [List.length_set, List.length_set, hlen]; omega)
        have a1 := hW.at (j := 1) (by omega) (by omega)
        have a2 := hW.at (j := 2) (by omega) (by omega)
        have a3 := hW.at (j := 3) (by omega) (by omega)
        have q0 := hW.row.row.cells 0 (by rw [hlen]; omega)
        have q1 := hW.row.row.cells 1 (by rw [hlen]; omega)
        have q2 := hW.row.row.cells 2 (by rw [hlen]; omega)
        have f0 := hW.row.row.soft
        have HW3 : Hid (RwS wo w.heap.size k s size aL nL cL (rwj nL s 0) (((w2.setCell ⟨wo.heap.size + 1, 0, none⟩ (.int .i64 (zat s 1))).setCell ⟨wo.heap.size + 1, 1, none⟩ (.int .i64 (zat s 2))).setCell ⟨wo.heap.size + 1, 2, none⟩ (.int .i64 (zat s 3)))) := hW3
        have l0 : (0 : Int) < 20 + (nL : Int) := by omega
        have l1 : (1 : Int) < 20 + (nL : Int) := by omega
        have l2 : (2 : Int) < 20 + (nL : Int) := by omega
        generalize zat (List.replicate (20 + nL) (0 : Int)) 0 = z0 at *
        generalize zat (List.replicate (20 + nL) (0 : Int)) 1 = z1 at *
        generalize zat (List.replicate (20 + nL) (0 : Int)) 2 = z2 at *
        clear hown hgr hb2 hW hW1 hW3 HS1 HCO1 HBA hlen d0 d1 d2 d3 d4 d5 d6 d7 d8 d9 c1' hcl
        go_wp2_with fail
        generalize ((w2.setCell ⟨wo.heap.size + 1, 0, none⟩ (.int .i64 (zat s 1))).setCell ⟨wo.heap.size + 1, 1, none⟩ (.int .i64 (zat s 2))).setCell ⟨wo.heap.size + 1, 2, none⟩ (.int .i64 (zat s 3)) = w3 at *
        clear q0 q1 q2 f0 a1 a2 a3 l0 l1 l2
        go_loopw [13, 18] (fun tv jv W => ∃ (j : Nat) (t : Int), j ≤ 3 ∧ jv = .int .i64 (j : Int) ∧ tv = .int .i64 t ∧ Hid (TopOk (allc (R.take i) ++ cj s j) t) ∧ Hid (t ≤ 2147483647) ∧ Hid (RwS wo w.heap.size k s size aL nL cL (rwj nL s j) W)) (fun _ jv _ => 3 - (intOf jv).toNat)
        case atStart => exact ⟨0, t, Nat.zero_le _, rfl, rfl, by unfold Hid cj; rw [List.append_nil]; exact HTO.out, HTB, HW3⟩
        case round =>
          clear HW3 HTO HTB
          obtain ⟨j, t, hj3, rfl, rfl, HTO, HTB, HW⟩ := hrel
          by_cases hjl : j < 3
          · have hjl2 : (j : Int) < 3 := by omega
            have hjs : IntKind.i64.wrap ((j : Int) + 1) = (j : Int) + 1 := by rw [IntKind.wrap_i64]; omega
            obtain ⟨ja, hja⟩ : ∃ ja, ja = 3 + j := ⟨_, rfl⟩
            obtain ⟨jv, hjv⟩ : ∃ jv, jv = 7 + j := ⟨_, rfl⟩
            have e3 : (3 : Int) + (j : Int) = (ja : Int) := by omega
            have e7 : (7 : Int) + (j : Int) = (jv : Int) := by omega
            have u3 : IntKind.i64.wrap (ja : Int) = (ja : Int) := by rw [IntKind.wrap_i64]; omega
            have u7 : IntKind.i64.wrap (jv : Int) = (jv : Int) := by rw [IntKind.wrap_i64]; omega
            have b3 : (ja : Int) < 20 + (nL : Int) := by omega
            have b7 : (jv : Int) < 20 + (nL : Int) := by omega
            have hln := rwj_len nL s j
            have r4 := HW.out.at (j := 4 + j) (by omega) (by omega)
            have r7 := HW.out.at (j := 7 + j) (by omega) (by omega)
            have p3 := HW.out.row.row.cells ja (by rw [hln]; omega)
            have f3 := HW.out.row.row.soft ja
            have hWA := HW.out.set hCr (j := ja) (zat s (4 + j)) (by rw [hln]; omega)
            have r4' := hWA.at (j := 4 + j) (by omega) (by omega)
            have r7' := hWA.at (j := 7 + j) (by omega) (by omega)
            have p7 := hWA.row.row.cells jv (by rw [List.length_set, hln]; omega)
            have f7 := hWA.row.row.soft jv
            have hWB := hWA.set hCr (j := jv) (zat s (7 + j)) (by rw [List.length_set, hln]; omega)
            have r4'' := hWB.at (j := 4 + j) (by omega) (by omega)
            have HWB : Hid (RwS wo w.heap.size k s size aL nL cL (rwj nL s (j + 1)) ((wr.setCell ⟨wo.heap.size + 1, ja, none⟩ (.int .i64 (zat s (4 + j)))).setCell ⟨wo.heap.size + 1, jv, none⟩ (.int .i64 (zat s (7 + j))))) := by
              have : rwj nL s (j + 1) = ((rwj nL s j).set ja (zat s (4 + j))).set jv (zat s (7 + j)) := by rw [hja, hjv]; rfl
              unfold Hid
              rw [this]
              exact hWB
            have hat := (HSBs.out.2.1 (4 + j) (by omega))
            have HTK : Hid (¬ t < zat s (4 + j) → TopOk (allc (R.take i) ++ cj s (j + 1)) t) := fun h => by
              rw [show cj s (j + 1) = cj s j ++ [zat s (4 + j)] from rfl, ← List.append_assoc]
              exact HTO.out.keep h
            have HTU : Hid (t < zat s (4 + j) → TopOk (allc (R.take i) ++ cj s (j + 1)) (zat s (4 + j))) := fun h => by
              rw [show cj s (j + 1) = cj s j ++ [zat s (4 + j)] from rfl, ← List.append_assoc]
              exact HTO.out.up h
            have HAT : Hid (zat s (4 + j) ≤ 2147483647) := by unfold Hid; omega
            clear hWA hWB HTO HW hln hja hjv hat
            generalize zat s (4 + j) = xa at *
            generalize zat s (7 + j) = xv at *
            generalize zat (rwj nL s j) ja = y3 at *
            generalize zat ((rwj nL s j).set ja xa) jv = y7 at *
            by_cases htx : t < xa
            · go_wp2_with fail
              go_roundw
              case rel => exact ⟨j + 1, xa, by omega, by go_num, rfl, HTU.out htx, HAT, HWB⟩
              case measure => simp [intOf]; omega
            · go_wp2_with fail
              go_roundw
              case rel => exact ⟨j + 1, t, by omega, by go_num, rfl, HTK.out htx, HTB, HWB⟩
              case measure => simp [intOf]; omega
          · obtain rfl : j = 3 := by omega
            obtain ⟨bL, oL, rfl, hbL, eop, _, _, _⟩ := HL.out.row k (by have := HNL.out; omega)
            have hsz9 : w.heap.size ≤ w1.heap.size := Nat.le_of_lt HCw.out
            have hbwo : ∀ W, Below wo.heap.size wo W → Below w.heap.size w W := fun W h => (HBW.out.trans (HI.out.bel.mono hsz9)).trans (h.mono (Nat.le_of_lt hCr))
            have HLI : Hid (∀ W, Below wo.heap.size wo W → W.cell? ⟨bL, oL + k * 4, none⟩ = some (.int .i64 (insat L k).op)) := fun W h => ((hbwo W h).cell (p := ⟨bL, oL + k * 4, none⟩) hbL).trans eop
            have hs7 := HSBs.out.2.1 7 (by omega)
            have hs8 := HSBs.out.2.1 8 (by omega)
            have HHT := hid (fun W => rhint_any p (insat L k).op (k : Int) (zat s 1) (zat s 2) (zat s 3) (zat s 4) (zat s 5) (zat s 6) (zat s 7) (zat s 8) (zat s 9) W h3 h4 (by omega) (by omega) (by omega) (by omega))
            have HHD : Hid (∀ l W, RwS wo w.heap.size k s size (some ⟨bL, oL, none⟩) nL cL l W → W.cell? ⟨w.heap.size, 1, none⟩ = some (.slice (some ⟨bL, oL, none⟩) nL cL) ∧ W.cell? ⟨wo.heap.size, 0, none⟩ = some (.int .i64 (k : Int)) ∧ W.cell? ⟨bL, oL + k * 4, none⟩ = some (.int .i64 (insat L k).op) ∧ W.cell? ⟨wo.heap.size, 1, none⟩ = some (.int .i64 (zat s 1)) ∧ W.cell? ⟨wo.heap.size, 2, none⟩ = some (.int .i64 (zat s 2)) ∧ W.cell? ⟨wo.heap.size, 3, none⟩ = some (.int .i64 (zat s 3)) ∧ W.cell? ⟨wo.heap.size, 4, none⟩ = some (.int .i64 (zat s 4)) ∧ W.cell? ⟨wo.heap.size, 5, none⟩ = some (.int .i64 (zat s 5)) ∧ W.cell? ⟨wo.heap.size, 6, none⟩ = some (.int .i64 (zat s 6)) ∧ W.cell? ⟨wo.heap.size, 7, none⟩ = some (.int .i64 (zat s 7)) ∧ W.cell? ⟨wo.heap.size, 8, none⟩ = some (.int .i64 (zat s 8)) ∧ W.cell? ⟨wo.heap.size, 9, none⟩ = some (.int .i64 (zat s 9)) ∧ True) := fun l W h =>
              ⟨by simp [World.cell?, h.cod], by simp [World.cell?, h.stp], HLI.out W h.bel, h.at (by omega) (by omega), h.at (by omega) (by omega), h.at (by omega) (by omega), h.at (by omega) (by omega), h.at (by omega) (by omega), h.at (by omega) (by omega), h.at (by omega) (by omega), h.at (by omega) (by omega), h.at (by omega) (by omega), trivial⟩
            have hu0 := HHD.out _ _ HW.out
            obtain ⟨Kb, hKb⟩ : ∃ Kb, Kb = wo.heap.size + 1 := ⟨_, rfl⟩
            obtain ⟨S, hS⟩ : ∃ S, S = wo.heap.size := ⟨_, rfl⟩
            obtain ⟨x1, hx1⟩ : ∃ x, x = zat s 1 := ⟨_, rfl⟩
            obtain ⟨x2, hx2⟩ : ∃ x, x = zat s 2 := ⟨_, rfl⟩
            obtain ⟨x3, hx3⟩ : ∃ x, x = zat s 3 := ⟨_, rfl⟩
            obtain ⟨x4, hx4⟩ : ∃ x, x = zat s 4 := ⟨_, rfl⟩
            obtain ⟨x5, hx5⟩ : ∃ x, x = zat s 5 := ⟨_, rfl⟩
            obtain ⟨x6, hx6⟩ : ∃ x, x = zat s 6 := ⟨_, rfl⟩
            obtain ⟨x7, hx7⟩ : ∃ x, x = zat s 7 := ⟨_, rfl⟩
            obtain ⟨x8, hx8⟩ : ∃ x, x = zat s 8 := ⟨_, rfl⟩
            obtain ⟨x9, hx9⟩ : ∃ x, x = zat s 9 := ⟨_, rfl⟩
            obtain ⟨op, hop⟩ : ∃ x, x = (insat L k).op := ⟨_, rfl⟩
            rw [← hS, ← hx1, ← hx2, ← hx3, ← hx4, ← hx5, ← hx6, ← hx7, ← hx8, ← hx9, ← hop] at HHD hu0
            rw [← hx1, ← hx2, ← hx3, ← hx4, ← hx5, ← hx6, ← hx7, ← hx8, ← hx9, ← hop] at HHT
            obtain ⟨hv, hhv⟩ : ∃ x, x = hlp p op x7 x8 := ⟨_, rfl⟩
            rw [← hhv] at HHT
            have HSR : Hid (((rwj nL s 3).set 11 hv).set (20 + k) 1 = rat R i) := by
              unfold Hid
              rw [HRi.out, ← rwj_srow, HK.out, Int.toNat_natCast, hhv, hop, hx7, hx8]
            rw [← hKb, ← hS]
            have HKb := hid hKb
            have hkl : (k : Int) < (nL : Int) := by omega
            have l11 : (11 : Int) < 20 + (nL : Int) := by omega
            clear hx1 hx2 hx3 hx4 hx5 hx6 hx7 hx8 hx9 hop hhv hKb hs7 hs8 hsz9 hbwo eop HLI
            have HS := hid hS
            clear hS
            go_wp2_with fail
            refine wp_region_held_drew (S := (fun W => W.cell? ⟨w.heap.size, 1, none⟩ = some (.slice (some ⟨bL, oL, none⟩) nL cL) ∧ W.cell? ⟨S, 0, none⟩ = some (.int .i64 (k : Int)) ∧ W.cell? ⟨bL, oL + k * 4, none⟩ = some (.int .i64 op) ∧ W.cell? ⟨S, 1, none⟩ = some (.int .i64 x1) ∧ W.cell? ⟨S, 2, none⟩ = some (.int .i64 x2) ∧ W.cell? ⟨S, 3, none⟩ = some (.int .i64 x3) ∧ W.cell? ⟨S, 4, none⟩ = some (.int .i64 x4) ∧ W.cell? ⟨S, 5, none⟩ = some (.int .i64 x5) ∧ W.cell? ⟨S, 6, none⟩ = some (.int .i64 x6) ∧ W.cell? ⟨S, 7, none⟩ = some (.int .i64 x7) ∧ W.cell? ⟨S, 8, none⟩ = some (.int .i64 x8) ∧ W.cell? ⟨S, 9, none⟩ = some (.int .i64 x9) ∧ True)) (by kernel_rfl) hu0 (fun hHeld => ?_)
            refine wpAnyH_takeU (i := 0) (v := .slice (some ⟨Kb, 0, none⟩) (20 + nL) (20 + nL)) rfl (by kernel_rfl) (by kernel_rfl) (by kernel_rfl) (fun _ _ _ h => h) (by rfl) (fun W hC => by go_simp) hHeld ?_
            simp only [Act.put, List.setIfInBounds_toArray, List.set_cons_zero, List.set_cons_succ]
            refine wpAnyH_takeU (i := 1) (v := .int .i64 (p : Int)) rfl (by kernel_rfl) (by kernel_rfl) (by kernel_rfl) (fun _ _ _ h => h) (by rfl) (fun W hC => by go_simp) hHeld ?_
            simp only [Act.put, List.setIfInBounds_toArray, List.set_cons_zero, List.set_cons_succ]
            refine wpAnyH_takeU (i := 2) (v := .pointer (some ⟨w.heap.size, 1, none⟩)) rfl (by kernel_rfl) (by kernel_rfl) (by kernel_rfl) (fun _ _ _ h => h) (by rfl) (fun W hC => by go_simp) hHeld ?_
            simp only [Act.put, List.setIfInBounds_toArray, List.set_cons_zero, List.set_cons_succ]
            refine wpAnyH_takeU (i := 3) (v := .slice (some ⟨bL, oL, none⟩) nL cL) rfl (by kernel_rfl) (by kernel_rfl) (by kernel_rfl) (fun _ _ _ h => h) (by rfl) (fun W hC => by (obtain ⟨y1, y2, y3, a0, a1, a2, a3, a4, a5, a6, a7, a8, a9⟩ := hC); go_simp) hHeld ?_
            simp only [Act.put, List.setIfInBounds_toArray, List.set_cons_zero, List.set_cons_succ]
            refine wpAnyH_takeU (i := 4) (v := .pointer (some ⟨S, 0, none⟩)) rfl (by kernel_rfl) (by kernel_rfl) (by kernel_rfl) (fun _ _ _ h => h) (by rfl) (fun W hC => by go_simp) hHeld ?_
            simp only [Act.put, List.setIfInBounds_toArray, List.set_cons_zero, List.set_cons_succ]
            refine wpAnyH_takeU (i := 5) (v := .int .i64 (k : Int)) rfl (by kernel_rfl) (by kernel_rfl) (by kernel_rfl) (fun _ _ _ h => h) (by rfl) (fun W hC => by (obtain ⟨y1, y2, y3, a0, a1, a2, a3, a4, a5, a6, a7, a8, a9⟩ := hC); go_simp) hHeld ?_
            simp only [Act.put, List.setIfInBounds_toArray, List.set_cons_zero, List.set_cons_succ]
            refine wpAnyH_takeU (i := 6) (v := .pointer (some ⟨bL, oL + k * 4, none⟩)) rfl (by kernel_rfl) (by kernel_rfl) (by kernel_rfl) (fun _ _ _ h => h) (by rfl) (fun W hC => by go_simp) hHeld ?_
            simp only [Act.put, List.setIfInBounds_toArray, List.set_cons_zero, List.set_cons_succ]
            refine wpAnyH_takeU (i := 7) (v := .pointer (some ⟨bL, oL + k * 4, none⟩)) rfl (by kernel_rfl) (by kernel_rfl) (by kernel_rfl) (fun _ _ _ h => h) (by rfl) (fun W hC => by go_simp) hHeld ?_
            simp only [Act.put, List.setIfInBounds_toArray, List.set_cons_zero, List.set_cons_succ]
            refine wpAnyH_takeU (i := 8) (v := .int .i64 op) rfl (by kernel_rfl) (by kernel_rfl) (by kernel_rfl) (fun _ _ _ h => h) (by rfl) (fun W hC => by (obtain ⟨y1, y2, y3, a0, a1, a2, a3, a4, a5, a6, a7, a8, a9⟩ := hC); go_simp) hHeld ?_
            simp only [Act.put, List.setIfInBounds_toArray, List.set_cons_zero, List.set_cons_succ]
            refine wpAnyH_takeU (i := 9) (v := .agg #[.int .i64 (k : Int), .int .i64 x1, .int .i64 x2, .int .i64 x3, .int .i64 x4, .int .i64 x5, .int .i64 x6, .int .i64 x7, .int .i64 x8, .int .i64 x9]) rfl (by kernel_rfl) (by kernel_rfl) (by kernel_rfl) (fun _ _ _ h => h) (by rfl) (fun W hC => by (obtain ⟨y1, y2, y3, a0, a1, a2, a3, a4, a5, a6, a7, a8, a9⟩ := hC); go_simp) hHeld ?_
            simp only [Act.put, List.setIfInBounds_toArray, List.set_cons_zero, List.set_cons_succ]
            refine wpAnyH_ready (rs := [10]) (by kernel_rfl) (by simp) ?_
            refine AllReadyH.consU rfl (fun K' hK' => ?_) AllReadyH.nil
            go_simp
            refine (HHT.out _).mono ?_
            rintro e w7 ⟨rfl, hb7⟩
            have hb67 : Below wr.heap.size wr w7 := ⟨hb7.os, hb7.tape, hb7.output, hb7.size, hb7.block⟩
            have HW7 := hid (HW.out.step hb67)
            refine hK'.out _ _ (HHD.out _ _ HW7.out) (fun hHeld => ?_)
            clear hK' K' hb7 hb67 HW hu0
            refine wpAnyH_takeU (i := 11) (v := .pointer (some ⟨Kb, 11, none⟩)) rfl (by kernel_rfl) (by kernel_rfl) (by kernel_rfl) (fun _ _ _ h => h) (by rfl) (fun W hC => by go_simp) hHeld ?_
            simp only [Act.put, List.setIfInBounds_toArray, List.set_cons_zero, List.set_cons_succ]
            refine wpAnyH_ready (rs := [12]) (by kernel_rfl) (by simp) ?_
            refine AllReadyH.consU rfl (fun K' hK' => ?_) AllReadyH.nil
            have hln := rwj_len nL s 3
            have q11 : w7.cell? ⟨Kb, 11, none⟩ = some (.int .i64 (zat (rwj nL s 3) 11)) := by rw [HKb.out]; exact HW7.out.row.row.cells 11 (by rw [hln]; omega)
            have f11 : w7.frozen? ⟨Kb, 11, none⟩ = false := by rw [HKb.out]; exact HW7.out.row.row.soft 11
            have HW8 : Hid (RwS wo w.heap.size k s size (some ⟨bL, oL, none⟩) nL cL ((rwj nL s 3).set 11 hv) (w7.setCell ⟨Kb, 11, none⟩ (.int .i64 hv))) := by unfold Hid; rw [HKb.out]; exact HW7.out.set hCr (j := 11) hv (by rw [hln]; omega)
            generalize zat (rwj nL s 3) 11 = z11 at *
            go_simp
            refine hK'.out _ _ (HHD.out _ _ HW8.out) (fun hHeld => ?_)
            clear hK' K' hHeld q11 f11 HW7
            refine wpAnyH_done (by kernel_rfl) ?_ _
            generalize w7.setCell ⟨Kb, 11, none⟩ (.int .i64 hv) = w8 at *
            obtain ⟨m2, hm2⟩ : ∃ m2, m2 = 20 + k := ⟨_, rfl⟩
            have e20 : (20 : Int) + (k : Int) = (m2 : Int) := by omega
            have hw20 : IntKind.i64.wrap (m2 : Int) = (m2 : Int) := by rw [IntKind.wrap_i64]; omega
            have l20 : (m2 : Int) < 20 + (nL : Int) := by omega
            have hl8 : ((rwj nL s 3).set 11 hv).length = 20 + nL := by rw [List.length_set, hln]
            have q20 : w8.cell? ⟨Kb, m2, none⟩ = some (.int .i64 (zat ((rwj nL s 3).set 11 hv) m2)) := by rw [HKb.out]; exact HW8.out.row.row.cells m2 (by rw [hl8]; omega)
            have f20 : w8.frozen? ⟨Kb, m2, none⟩ = false := by rw [HKb.out]; exact HW8.out.row.row.soft m2
            have c20 := (HHD.out _ _ HW8.out).2.1
            have HW9 : Hid (RwS wo w.heap.size k s size (some ⟨bL, oL, none⟩) nL cL (rat R i) (w8.setCell ⟨Kb, m2, none⟩ (.int .i64 1))) := by
              unfold Hid
              rw [← HSR.out, HKb.out, hm2]
              exact HW8.out.set hCr (j := 20 + k) 1 (by rw [hl8]; omega)
            generalize zat ((rwj nL s 3).set 11 hv) m2 = z20 at *
            clear HW8 HHD HHT hm2 hl8 hln
            obtain ⟨KK, hKo, hK1, hK2, hK3⟩ := HI.out.rows
            have hlto := fun b hb => World.ownsRow.lt hKo b hb
            have hoX : (w8.setCell ⟨Kb, m2, none⟩ (.int .i64 1)).ownsRow w1.heap.size 22 1 u12 i (slcs KK (20 + nL) i) := ownsRow_belowR hKo HW9.out.bel
            have hszX := HW9.out.bel.size
            have hszW := HI.out.bel.size
            have HTE : Hid (TopOk (allc (R.take (i + 1))) t) := by
              unfold Hid
              rw [allc_take R i (by rw [HRR.out, shns_len]; exact hlt), HRi.out, srow_cells]
              exact HTO.out
            clear HTO
            go_wp2_with (at_builtin; refine wpList_append_own_at _ rfl _ _ 69 rfl w1.heap.size 22 j0 (.slice none 0 0) 1 24 Tryz.underlying69 hj hy0 hy1 hy2 rfl (by decide) _ _ _ rfl (hoX.alloc _) ⟨w8.heap.size, 0, none⟩ 1 1 [.slice (some ⟨Kb, 0, none⟩) (20 + nL) (20 + nL)] rfl rfl ?c1 ?c2 ?c3 ?c4 ?c5 ?_)
            case c1 =>
              intro j u hju
              match j, hju with
              | 0, hju =>
                simp at hju
                subst hju
                have hn := heap_alloc_new (w8.setCell ⟨Kb, m2, none⟩ (.int .i64 1)) (.cells #[.slice (some ⟨Kb, 0, none⟩) (20 + nL) (20 + nL)] 22)
                have hsz : (w8.setCell ⟨Kb, m2, none⟩ (.int .i64 1)).heap.size = w8.heap.size := by simp
                rw [hsz] at hn
                have hadd : (⟨w8.heap.size, 0, none⟩ : Addr).add 0 = ⟨w8.heap.size, 0, none⟩ := by unfold Addr.add; split <;> simp_all
                rw [hadd]
                simp only [World.cell?, hn]
                rfl
            case c2 => intro u hu; simp at hu; subst hu; rfl
            case c3 => unfold maxLen; omega
            case c4 => omega
            case c5 => rw [World.size_alloc]; omega
            intro v' w9 hown2 hgrow _ hwhere
            have hY : Below (w8.setCell ⟨Kb, m2, none⟩ (.int .i64 1)).heap.size (w8.setCell ⟨Kb, m2, none⟩ (.int .i64 1)) ((w8.setCell ⟨Kb, m2, none⟩ (.int .i64 1)).alloc (.cells #[.slice (some ⟨Kb, 0, none⟩) (20 + nL) (20 + nL)] 22)) := (Below.refl _ _).alloc (Nat.le_refl _) _
            have hrow9 : IRow Kb (w8.setCell ⟨Kb, m2, none⟩ (.int .i64 1)) (rat R i) := by have := HW9.out.row.row; rw [← HKb.out] at this; exact this
            have HI9 := hid (RtI.more HI.out hszW HW9.out.bel hrow9 (by have := HKb.out; omega) hY KK hK1 hK2 hK3 hlto hown2 hgrow (by simpa using hwhere))
            clear hY hrow9 hown2 hgrow hwhere hKo hK1 hK2 hK3 hlto hoX HW9 HI q20 f20 c20
            go_wp2_with fail
            go_roundw
            case rel => exact ⟨i + 1, t, by omega, by go_num, rfl, HTE, HTB, HI9⟩
            case measure => simp [intOf]; omega
    · obtain rfl : i = N := by omega
      have hRl : R.length = i := by rw [HRR.out, shns_len]
      have hrl : ∀ k, k < i → (rat R k).length = 20 + nL := fun k hk => by rw [HRR.out, shns_rat _ _ _ hk, shn_len, HNL.out]
      obtain ⟨G, K, cq, hv, hcq, hT⟩ := HI.out.tbl (by omega) hRl hrl
      have HTO2 : Hid (TopOk (allc R) t) := by
        have := HTO.out
        rw [List.take_of_length_le (by rw [hRl]; exact Nat.le_refl _)] at this
        exact this
      have hth : tho p L st i = (gap 0 t).filter fun a => !decide (a ∈ allc R) := by
        rw [HRR.out]
        exact tho_filter h3 (fun s h => by rw [← HNL.out]; exact HSB.out s h) (by have := HNS.out; omega) (by omega) (by rw [← HRR.out]; exact HTO2.out)
      obtain ⟨hs, hhs⟩ : ∃ hs, hs = tho p L st i := ⟨_, rfl⟩
      rw [← hhs] at hth
      have HHS := hid hhs
      obtain ⟨wl, rfl⟩ : ∃ wl, wl = wo := ⟨_, rfl⟩
      have HF0 : Hid (FhS w1.heap.size G K R hs [] ((gap 0 t).filter fun a => !decide (a ∈ allc R)) w1 wl) := ⟨by rw [fillH_none]; exact hT, by rw [hth]; rfl, Nat.zero_le _, HI.out.bel⟩
      have HRL := hid hRl
      have HRW := hid hrl
      have t0 := HTO2.out.1
      have tb := HTB.out
      subst hv
      have HBE := hid (fun W (h : Below w1.heap.size w1 W) => HBW.out.trans (h.mono (Nat.le_of_lt HCw.out)))
      clear hT hRl hrl HTO HTO2 HI hth hhs
      go_wp2_with fail
      go_loopw [19, 20, 21] (fun hv av _ wr => ∃ (pre : List Int) (a : Int), hv = .int .i64 (pre.length : Int) ∧ av = .int .i64 a ∧ 0 ≤ a ∧ a ≤ 2147483647 ∧ Hid (FhS w1.heap.size G K R hs pre ((gap a t).filter fun a => !decide (a ∈ allc R)) w1 wr)) (fun _ av _ _ => (t - intOf av).toNat)
      case atStart => exact ⟨[], 0, rfl, rfl, by omega, by omega, HF0⟩
      case round =>
        clear HF0
        obtain ⟨pre, a, rfl, rfl, ha0, ha1, HF⟩ := hrel
        by_cases hat : a < t
        · have has : IntKind.i64.wrap (a + 1) = a + 1 := by rw [IntKind.wrap_i64]; omega
          have HUS := hid (rused_any cq (some ⟨G, 0, none⟩) (fillH R pre) a wr (by rw [fillH_len, HRL.out]; omega) (fun k hk => by
            rw [fillH_len] at hk
            rw [fillH_row_len hk, HRW.out k (by have := HRL.out; omega)]
            omega) (HF.out.tbl.lst (by rw [fillH_len, HRL.out]; exact hcq)))
          rw [fillH_len, HRL.out, allc_fillH] at HUS
          have hgs := gap_step hat
          by_cases hin : a ∈ allc R
          · rw [decide_eq_true hin] at HUS
            have HF2 : Hid (FhS w1.heap.size G K R hs pre ((gap (a + 1) t).filter fun a => !decide (a ∈ allc R)) w1 wr) := by
              have := HF.out
              rw [hgs, List.filter_cons, if_neg (by simp [hin])] at this
              exact this
            clear HF hgs
            go_wp2_with fail
            refine HUS.out.mono ?_
            rintro e w5 ⟨rfl, hb5⟩
            have HF5 : Hid (FhS w1.heap.size G K R hs pre ((gap (a + 1) t).filter fun a => !decide (a ∈ allc R)) w1 w5) := ⟨HF2.out.tbl.below hb5 (Nat.le_refl _), HF2.out.all, HF2.out.few, HF2.out.bel.trans (hb5.mono HF2.out.bel.size)⟩
            clear hb5 HUS HF2 hin
            go_wp2_with fail
            go_roundw
            case rel => exact ⟨pre, a + 1, rfl, by go_num, by omega, by omega, HF5⟩
            case measure => simp [intOf]; omega
          · rw [decide_eq_false hin] at HUS
            have HF2 : Hid (FhS w1.heap.size G K R hs pre (a :: (gap (a + 1) t).filter fun a => !decide (a ∈ allc R)) w1 wr) := by
              have := HF.out
              rw [hgs, List.filter_cons, if_pos (by simp [hin])] at this
              exact this
            clear HF hgs
            go_wp2_with fail
            refine HUS.out.mono ?_
            rintro e w5 ⟨rfl, hb5⟩
            have HF5 : Hid (FhS w1.heap.size G K R hs pre (a :: (gap (a + 1) t).filter fun a => !decide (a ∈ allc R)) w1 w5) := ⟨HF2.out.tbl.below hb5 (Nat.le_refl _), HF2.out.all, HF2.out.few, HF2.out.bel.trans (hb5.mono HF2.out.bel.size)⟩
            clear hb5 HUS HF2 hin
            have hfew := HF5.out.few
            rw [HRL.out] at hfew
            by_cases hful : pre.length = i
            · have hfu : (((pre.length : Nat) : Int) == (i : Int)) = true := by simp [hful]
              have HLN : Hid (i < (tho p L st i).length) := by
                unfold Hid
                rw [← HHS.out, HF5.out.all]
                simp
                omega
              have HBQ := hid (HBE.out _ HF5.out.bel)
              clear hful
              go_wp2_with fail
              go_ret3
              exact HR.out _ _ HBQ.out (by rw [if_pos HLN.out]; rfl)
            · have hfu : (((pre.length : Nat) : Int) == (i : Int)) = false := by simp; omega
              have hpl : pre.length < R.length := by have := HRL.out; omega
              have hln : (pre.length : Int) < (i : Int) := by omega
              have hps : IntKind.i64.wrap ((pre.length : Int) + 1) = (pre.length : Int) + 1 := by rw [IntKind.wrap_i64]; omega
              have hrlk := HRW.out pre.length (by have := HRL.out; omega)
              have hPT := hid (HF5.out.put hpl (by rw [hrlk]; omega))
              have hpl' : pre.length < (fillH R pre).length := by rw [fillH_len]; exact hpl
              have c1 := HF5.out.tbl.out pre.length hpl'
              have hrl2 := fillH_row_len (hs := pre) hpl
              have c2 := (HF5.out.tbl.row pre.length hpl').cells 6 (by rw [hrl2, hrlk]; omega)
              have c3 := (HF5.out.tbl.row pre.length hpl').soft 6
              rw [hrl2, hrlk] at c1
              have l6 : (6 : Int) < 20 + (nL : Int) := by omega
              obtain ⟨mm, hmm⟩ : ∃ mm, mm = pre.length := ⟨_, rfl⟩
              have HM := hid hmm
              rw [← hmm] at c1 c2 c3 hfu hln hps hPT ⊢
              generalize K mm = km at *
              generalize zat (rat (fillH R pre) mm) 6 = old at *
              clear hrlk hpl hpl' hrl2 hmm hful hfew HF5
              go_wp2_with fail
              go_roundw
              case rel => exact ⟨pre ++ [a], a + 1, by rw [List.length_append, ← HM.out]; go_num, by go_num, by omega, by omega, hPT⟩
              case measure => simp [intOf]; omega
        · have hall : hs = pre := by
            have := HF.out.all
            rw [gap_none (by omega)] at this
            simpa using this
          subst hall
          have hfit : hs.length ≤ i := by have := HF.out.few; rw [HRL.out] at this; exact this
          have HFIT : Hid (¬ i < (tho p L st i).length) := by unfold Hid; rw [← HHS.out]; omega
          have hTf : Tbl w1.heap.size G K wr (fillH R hs) := HF.out.tbl
          have hfF : FitsR (fillH R hs) := by
            rw [HHS.out, HRR.out]
            exact fits_tab h3 h4 (by have := HNL.out; omega) (fun s h => by rw [← HNL.out]; exact HSB.out s h) (by have := HNS.out; omega)
          have hge : ∀ k, k < (fillH R hs).length → 20 ≤ (rat (fillH R hs) k).length := fun k hk => by
            rw [fillH_len] at hk
            rw [fillH_row_len hk, HRW.out k (by have := HRL.out; omega)]
            omega
          have hFl : (fillH R hs).length = i := by rw [fillH_len, HRL.out]
          have HPR := hid (rpairs_any p cq 3 7 (some ⟨G, 0, none⟩) (fillH R hs) wr h3 h4 (hTf.lst (by rw [hFl]; exact hcq)) hfF (by rw [hFl]; omega) hge (by omega) (by omega))
          rw [hFl] at HPR
          have HTf := hid hTf
          have HBl := hid HF.out.bel
          have HFl := hid hFl
          have hKlt : ∀ k, k < i → K k < wr.heap.size ∧ G < wr.heap.size := fun k hk => ⟨(hTf.row k (by rw [hFl]; exact hk)).lt, hTf.lt⟩
          have HKL := hid hKlt
          clear hTf hfF hge hFl HF hKlt
          obtain ⟨wv, rfl⟩ : ∃ wv, wv = wr := ⟨_, rfl⟩
          go_wp2_with fail
          refine HPR.out.mono ?_
          rintro e w5 ⟨uv, rfl, hcl, hb5⟩
          obtain ⟨ap, cp, rfl, hlp⟩ := lstC_of_owns hcl
          have hpl : (pr4 p (fillH R hs) 3 7).length = 4 * i := by rw [pr4_len, HFl.out]
          have HSO := hid (rsorted_any cp ap (pr4 p (fillH R hs) 3 7) w5 (by rw [hpl]; omega) hlp)
          rw [hpl] at HSO ⊢
          have HB5 := hid hb5
          clear hcl hlp hb5 HPR hpl
          go_wp2_with fail
          refine HSO.out.mono ?_
          rintro e w6 ⟨ps, a6, c6, rfl, hpm, hpw, hl6, hb6, hfr⟩
          have HSRT : Hid (SrtOf p (fillH R hs) ps) := ⟨hpm, hpw⟩
          have hpl : ps.length = 4 * i := by rw [HSRT.out.len, HFl.out]
          have HB6 := hid (HB5.out.trans (hb6.mono HB5.out.size))
          have HV : Hid (∀ q, q < 4 * i → ∃ g o, a6 = some ⟨g, o, none⟩ ∧ wv.heap.size ≤ g ∧ g < w6.heap.size ∧ w6.cell? ⟨g, o + q * 2, none⟩ = some (.int .i64 (cat ps q).1) ∧ w6.cell? ⟨g, o + q * 2 + 1, none⟩ = some (.int .i64 (cat ps q).2)) := fun q hq => by
            obtain ⟨g, o, e1, h2, h5, h6⟩ := hl6.row q (by rw [hpl]; exact hq)
            exact ⟨g, o, e1, Nat.le_trans HB5.out.size (hfr g o e1), h2, h5, h6⟩
          rw [hpl]
          have HT6 : Hid (Tbl w1.heap.size G K w6 (fS (fillH R hs) ps 0)) := HTf.out.below HB6.out (Nat.le_refl _)
          have HB16 := hid (HBl.out.trans (HB6.out.mono HBl.out.size))
          obtain ⟨M, hM⟩ : ∃ M, M = 4 * i := ⟨_, rfl⟩
          rw [← hM] at HV ⊢
          have HMM := hid hM
          have hM4 : M ≤ 2048 := by omega
          clear hpm hpw hl6 hb6 hfr HSO hpl hM HB5 HTf
          go_wp2_with fail
          go_loopw [23] (fun qv wr => ∃ q : Nat, q ≤ M ∧ qv = .int .i64 (q : Int) ∧ Hid (Tbl w1.heap.size G K wr (fS (fillH R hs) ps q)) ∧ Hid (Below w1.heap.size w1 wr) ∧ Hid (∀ g, wv.heap.size ≤ g → g < w6.heap.size → wr.heap[g]? = w6.heap[g]?)) (fun qv _ => M - (intOf qv).toNat)
          case atStart => exact ⟨0, Nat.zero_le _, rfl, HT6, HB16, fun _ _ _ => rfl⟩
          case round =>
            clear HT6 HB16
            obtain ⟨q, hq, rfl, HTw, HBw, HKg⟩ := hrel
            by_cases hqM : q < M
            · have hq2 : (q : Int) < (M : Int) := by omega
              have hqs : IntKind.i64.wrap ((q : Int) + 1) = (q : Int) + 1 := by rw [IntKind.wrap_i64]; omega
              obtain ⟨g6, o6, rfl, hg1, hg2, c0, c1⟩ := HV.out q hqM
              replace c0 := (World.cell?_of_block (w := w6) (a := ⟨g6, o6 + q * 2, none⟩) (HKg.out g6 hg1 hg2)).trans c0
              replace c1 := (World.cell?_of_block (w := w6) (a := ⟨g6, o6 + q * 2 + 1, none⟩) (HKg.out g6 hg1 hg2)).trans c1
              obtain ⟨r, hr⟩ : ∃ r, r = q / 4 := ⟨_, rfl⟩
              obtain ⟨m, hm⟩ : ∃ m, m = q % 4 := ⟨_, rfl⟩
              have e1 : (q : Int) / 4 = (r : Int) := by omega
              have e1t : Int.tdiv (q : Int) 4 = (r : Int) := by rw [Int.tdiv_eq_ediv_of_nonneg (by omega)]; exact e1
              have e2 : (q : Int) % 4 = (m : Int) := by omega
              have e2t : Int.tmod (q : Int) 4 = (m : Int) := by rw [Int.tmod_eq_emod_of_nonneg (by omega)]; exact e2
              have wr1 : IntKind.i64.wrap (r : Int) = (r : Int) := by rw [IntKind.wrap_i64]; omega
              have wm1 : IntKind.i64.wrap (m : Int) = (m : Int) := by rw [IntKind.wrap_i64]; omega
              have hrn : r < i := by have := HMM.out; omega
              have hrn2 : (r : Int) < (i : Int) := by omega
              obtain ⟨ja, hja⟩ : ∃ ja, ja = 12 + m := ⟨_, rfl⟩
              obtain ⟨jb, hjb⟩ : ∃ jb, jb = 16 + m := ⟨_, rfl⟩
              have ea : (12 : Int) + (m : Int) = (ja : Int) := by omega
              have eb : (16 : Int) + (m : Int) = (jb : Int) := by omega
              have wa : IntKind.i64.wrap (ja : Int) = (ja : Int) := by rw [IntKind.wrap_i64]; omega
              have wb : IntKind.i64.wrap (jb : Int) = (jb : Int) := by rw [IntKind.wrap_i64]; omega
              have la : (ja : Int) < 20 + (nL : Int) := by omega
              have lb : (jb : Int) < 20 + (nL : Int) := by omega
              have hlenr : (rat (fS (fillH R hs) ps q) r).length = 20 + nL := by
                rw [fS_row_len _ _ _ _ (by rw [HFl.out]; have := HMM.out; omega), fillH_row_len (by rw [HRL.out]; exact hrn), HRW.out r hrn]
              have hrf : r < (fS (fillH R hs) ps q).length := by rw [fS_len, HFl.out]; exact hrn
              have o1 := HTw.out.out r hrf
              rw [hlenr] at o1
              have hTd : Tbl w1.heap.size G K wr.drew (fS (fillH R hs) ps q) := HTw.out.keep rfl (fun _ _ => rfl)
              have q0 := (hTd.row r hrf).cells ja (by rw [hlenr]; omega)
              have f0 := (hTd.row r hrf).soft ja
              have q0' : ∀ d, ({ wr with drawn := d } : World).cell? ⟨K r, ja, none⟩ = some (.int .i64 (zat (rat (fS (fillH R hs) ps q) r) ja)) := fun _ => q0
              have f0' : ∀ d, ({ wr with drawn := d } : World).frozen? ⟨K r, ja, none⟩ = false := fun _ => f0
              have hTA := hTd.put (cat ps q).1 hrf (show ja < _ by rw [hlenr]; omega)
              have hrA : r < (put (fS (fillH R hs) ps q) r ja (cat ps q).1).length := by rw [put_len]; exact hrf
              have hlA : (rat (put (fS (fillH R hs) ps q) r ja (cat ps q).1) r).length = 20 + nL := by rw [put_row_len hrf, hlenr]
              have hTAd : Tbl w1.heap.size G K (wr.drew.setCell ⟨K r, ja, none⟩ (.int .i64 (cat ps q).1)).drew (put (fS (fillH R hs) ps q) r ja (cat ps q).1) := hTA.keep rfl (fun _ _ => rfl)
              have oA := hTA.out r hrA
              rw [hlA] at oA
              have q1 := (hTAd.row r hrA).cells jb (by rw [hlA]; omega)
              have f1 := (hTAd.row r hrA).soft jb
              have hTB := hTAd.put (cat ps q).2 hrA (show jb < _ by rw [hlA]; omega)
              have hfs : fS (fillH R hs) ps (q + 1) = put (put (fS (fillH R hs) ps q) r ja (cat ps q).1) r jb (cat ps q).2 := by rw [hr, hja, hjb, hm]; rfl
              rw [← hfs] at hTB
              have hKr := (HKL.out r hrn).1
              have hKb : w1.heap.size ≤ K r := (hTd.new.2 r hrf).1
              have hbA : Below w1.heap.size w1 (wr.drew.setCell ⟨K r, ja, none⟩ (.int .i64 (cat ps q).1)) := HBw.out.drew.setCell (p := ⟨K r, ja, none⟩) hKb _
              have hbB : Below w1.heap.size w1 ((wr.drew.setCell ⟨K r, ja, none⟩ (.int .i64 (cat ps q).1)).drew.setCell ⟨K r, jb, none⟩ (.int .i64 (cat ps q).2)) := hbA.drew.setCell (p := ⟨K r, jb, none⟩) hKb _
              have hgA : ∀ g, wv.heap.size ≤ g → (wr.drew.setCell ⟨K r, ja, none⟩ (.int .i64 (cat ps q).1)).heap[g]? = wr.heap[g]? := fun g h1 => (Below.heap_setCell _ _ _ _ (Nat.ne_of_gt (Nat.lt_of_lt_of_le hKr h1)))
              have cA := (World.cell?_of_block (w := wr) (a := ⟨g6, o6 + q * 2 + 1, none⟩) (hgA g6 hg1)).trans c1
              have HKB : Hid (∀ g, wv.heap.size ≤ g → g < w6.heap.size → ((wr.drew.setCell ⟨K r, ja, none⟩ (.int .i64 (cat ps q).1)).drew.setCell ⟨K r, jb, none⟩ (.int .i64 (cat ps q).2)).heap[g]? = w6.heap[g]?) := fun g h1 h2 => (Below.heap_setCell _ _ _ _ (Nat.ne_of_gt (Nat.lt_of_lt_of_le hKr h1))).trans ((hgA g h1).trans (HKg.out g h1 h2))
              have HTB2 := hid hTB
              have HBB := hid hbB
              obtain ⟨wA, hwA⟩ : ∃ wA, wA = wr.drew.setCell ⟨K r, ja, none⟩ (.int .i64 (cat ps q).1) := ⟨_, rfl⟩
              rw [← hwA] at oA q1 f1 cA HTB2 HBB HKB
              have q1' : ∀ d, ({ wA with drawn := d } : World).cell? ⟨K r, jb, none⟩ = some (.int .i64 (zat (rat (put (fS (fillH R hs) ps q) r ja (cat ps q).1) r) jb)) := fun _ => q1
              have f1' : ∀ d, ({ wA with drawn := d } : World).frozen? ⟨K r, jb, none⟩ = false := fun _ => f1
              generalize zat (rat (fS (fillH R hs) ps q) r) ja = y0 at *
              generalize zat (rat (put (fS (fillH R hs) ps q) r ja (cat ps q).1) r) jb = y1 at *
              generalize (cat ps q).1 = z0 at *
              generalize (cat ps q).2 = z1 at *
              generalize K r = kr at *
              clear hr hm hja hjb hlenr hrf hTd hTA hrA hlA hTAd hTB hfs hKr hKb hbA hbB hgA q0 f0 q1 f1 HTw HBw HKg
              go_wp2_with fail
              go_still_tail 14, hmx
              go_wp2_with fail
              rw [show (wr.setCell ⟨kr, ja, none⟩ (.int .i64 z0)).drew = wA from hwA.symm]
              clear hwA c0 c1 q0' f0' o1
              go_still_tail 14, hmx
              go_wp2_with fail
              go_roundw
              case rel => exact ⟨q + 1, by omega, by go_num, HTB2, HBB, HKB⟩
              case measure => simp [intOf]; omega
            · obtain rfl : q = M := by omega
              obtain ⟨kk, hkk⟩ : ∃ kk, kk = ns - 1 := ⟨_, rfl⟩
              have e1 : (ns : Int) - 1 = (kk : Int) := by omega
              have wk : IntKind.i64.wrap (kk : Int) = (kk : Int) := by unfold maxLen at hsm; rw [IntKind.wrap_i64]; omega
              have lk : (kk : Int) < (ns : Int) := by omega
              have cv : wr.cell? ⟨g, kk * 10 + 7, none⟩ = some (.int .i64 (outS st)) := by
                have := HCE.out kk 7 (by have := HNS.out; omega) (by omega)
                rw [show outS st = zat (rat st kk) 7 by unfold outS; rw [hkk, HNS.out]]
                exact (HBw.out.cell (p := ⟨g, kk * 10 + 7, none⟩) hgl).trans this
              have HTT : Hid (TabG p L st i (fS (fillH R hs) ps (4 * i))) := by
                unfold Hid
                rw [HHS.out, HRR.out]
                refine ⟨by have := HFIT.out; omega, ps, ?_, rfl⟩
                have := HSRT.out
                rw [HHS.out, HRR.out] at this
                exact this
              have HT4 : Hid (Tbl w1.heap.size G K wr (fS (fillH R hs) ps (4 * i))) := by unfold Hid; rw [← HMM.out]; exact HTw.out
              have HEND : Hid (∀ w', w'.heap = wr.heap → Below w.heap.size w w' → RtR p size L (i : Int) w (.returned (.tuple #[.slice (some ⟨G, 0, none⟩) i cq, .int .i64 (outS st), .int .i64 0])) w') := fun w' hh hb => by
                refine HR.out _ _ hb ?_
                rw [if_neg HFIT.out]
                refine ⟨_, G, K, cq, HTT.out, by rw [HTT.out.len]; exact hcq, by rw [HTT.out.len], (HT4.out.keep (by rw [hh]) (fun _ _ => by rw [hh])).mono (Nat.le_of_lt HCw.out)⟩
              have HBQ := hid (HBE.out _ HBw.out)
              clear hkk HTw HBw HKg
              generalize outS st = ov at *
              go_wp2_with fail
              go_region
              go_wp2_with fail
              go_ret3
              exact HEND.out wr.drew rfl HBQ.out.drew

end Go.Proofs.YtaibngnabhmabajGreatDoor
