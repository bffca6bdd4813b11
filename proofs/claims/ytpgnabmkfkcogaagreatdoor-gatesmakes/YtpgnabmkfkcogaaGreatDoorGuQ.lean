/- The reference of package gates: Make. -/
import Derived.Test.YtpgnabmkfkcogaaGreatDoorGuP
import Derived.Test.YtpgnabmkfkcogaaGreatDoorGuN
import Derived.Test.YtpgnabmkfkcogaaGreatDoorGuI
import Derived.Test.YtpgnabmkfkcogaaGreatDoorGmAY
import Derived.Test.YtpgnabmkfkcogaaGreatDoorGrF
namespace Go.Proofs.YtpgnabmkfkcogaaGreatDoor
open Go.RowKit

theorem mks_next (q n : Nat) (gs : List GatZ) (t : List Int) (m : Nat) (z D : List Int) (k : Nat) : (mks q n gs t m z D (k + 1)).1 = gan q n (mks q n gs t m z D k).1 (tld q gs t m z (mks q n gs t m z D k).2) ∧ (mks q n gs t m z D (k + 1)).2 = (mks q n gs t m z D k).2 ++ [zat (mks q n gs t m z D (k + 1)).1 0] := ⟨rfl, rfl⟩
set_option maxRecDepth 100000 in
set_option maxHeartbeats 8000000 in
theorem rmake13_any (q n cL ci : Nat) (wide : Int) (aL ai : Option Addr) (lys : List (List GatZ)) (inputs : List Int) (w : World) (h23 : 23 ≤ q) (h4 : q ≤ 2147483647) (hpn : Spo.PowIs q n) (hB : CirB lys) (hl : LstGG w.heap.size w aL cL lys) (li : Lst w.heap.size w ai ci inputs) (fi : Fits inputs) (hV : vle wide lys inputs.length = 0) :
    Calls Tryz.prog 33 #[.int .i64 (q : Int), .agg #[.int .i64 wide, .slice aL lys.length cL], .slice ai inputs.length ci] w fun e w' => ∃ aR cR aS cS, e = .returned (.agg #[.slice aR lys.length cR, .slice aS lys.length cS]) ∧ MkR w.heap.size w' (.slice aR lys.length cR) (.slice aS lys.length cS) (mRs q n wide lys inputs lys.length) (mLs q n wide lys inputs lys.length) ∧ Below w.heap.size w w' := by
  have h3 : 3 ≤ q := by omega
  have h5 : 5 ≤ q := by omega
  obtain ⟨hS, hGC, hin⟩ := vle_zero hV
  have h8 := hS.2.1
  obtain ⟨nL, hnL⟩ : ∃ nL, nL = lys.length := ⟨_, rfl⟩
  obtain ⟨ni, hni⟩ : ∃ ni, ni = inputs.length := ⟨_, rfl⟩
  obtain ⟨W1, hW1⟩ : ∃ W1, W1 = (w.alloc (.cells #[.int .i64 wide, .slice aL nL cL] 69)).alloc (.cells #[.slice none 0 0, .slice none 0 0] 74) := ⟨_, rfl⟩
  obtain ⟨G, hG⟩ : ∃ G, G = w.heap.size := ⟨_, rfl⟩
  obtain ⟨R, hR⟩ : ∃ R, R = w.heap.size + 1 := ⟨_, rfl⟩
  have hb1 : Below w.heap.size w W1 := by rw [hW1]; exact ((Below.refl _ _).alloc (Nat.le_refl _) _).alloc (by simp) _
  have hz1 : W1.heap.size = w.heap.size + 2 := by rw [hW1]; simp
  have hs1 : W1.heap[G]? = some (.cells #[.int .i64 wide, .slice aL nL cL] 69 (0, 0)) := by
    rw [hW1, hG]
    exact (hao _ _ (by simp)).trans (heap_alloc_new w _)
  have hs2 : W1.rowIs R 74 2 (dub (.slice none 0 0) (.slice none 0 0)) := by
    rw [hW1, hR]
    have := dub_new (w.alloc (.cells #[.int .i64 wide, .slice aL nL cL] 69)) 74 (.slice none 0 0) (.slice none 0 0)
    simpa using this
  have HSC : Hid (∀ W, Below W1.heap.size W1 W → W.cell? ⟨G, 0, none⟩ = some (.int .i64 wide) ∧ W.cell? ⟨G, 1, none⟩ = some (.slice aL nL cL)) := fun W hW => by
    have e1 := (hW.block G (by omega)).trans hs1
    exact ⟨by simp [World.cell?, e1], by simp [World.cell?, e1]⟩
  have HRS : Hid (∀ W, Below W1.heap.size W1 W → W.rowIs R 74 2 (dub (.slice none 0 0) (.slice none 0 0))) := fun W hW => World.rowIs.of_block hs2 (hW.block R (by omega))
  have HBW : Hid (∀ W, Below W1.heap.size W1 W → Below w.heap.size w W) := fun W hW => hb1.trans (hW.mono (by omega))
  obtain ⟨S, hSS⟩ : ∃ S : Nat → GSt, S = mst q n wide lys inputs := ⟨_, rfl⟩
  have HOK : Hid (∀ i, i ≤ nL → GsI wide lys i (S i)) := fun i hi => by rw [hSS]; exact mst_ok h3 h4 n wide lys inputs i (by omega)
  have HGV : Hid (∀ i, i ≤ nL → (gvs q lys inputs i).length = 2 ^ bnn wide lys i ∧ Fits (gvs q lys inputs i)) := fun i hi => ⟨gvs_len hS hin (by omega), gvs_fits h3 h4 lys inputs i⟩
  have HVA : Hid (∀ W, Below w.heap.size w W → Calls Tryz.prog 86 #[.int .i64 (q : Int), .agg #[.int .i64 wide, .slice aL nL cL], .slice ai ni ci] W fun e w' => ∃ v, e = .returned v ∧ OwnR W.heap.size w' v (gva q lys inputs (nL + 1)) ∧ Below W.heap.size W w') := fun W hw => by
    have h := rvalues13_any q cL ci wide aL ai lys inputs W h3 h4 hS hGC hin (hl.step hw) ((li.below hw).mono hw.size) fi
    rw [← hnL, ← hni] at h
    exact h
  have HBG : Hid (∀ W ao co, Below w.heap.size w W → Lst W.heap.size W ao co (gvs q lys inputs nL) → Calls Tryz.prog 87 #[.int .i64 (q : Int), .agg #[.int .i64 wide, .slice aL nL cL], .slice ao (gvs q lys inputs nL).length co] W fun e w' => ∃ r az cz, e = .returned (.tuple #[.pointer (some ⟨r, 0, none⟩), .slice az (S 0).z.length cz]) ∧ W.heap.size ≤ r ∧ RCh q w' r (S 0).D ∧ NumL w' az cz (S 0).z ∧ Below W.heap.size W w') := fun W ao co hW hla => by
    have h := rbegin13_any q n (bnn wide lys lys.length) cL co wide aL ao lys (gvs q lys inputs nL) W h5 h4 hpn hS hB (hl.step hW) (hS.bn (Nat.le_refl lys.length)).2 (by rw [(HGV.out nL (Nat.le_refl _)).1, hnL]) (HGV.out nL (Nat.le_refl _)).2 hla
    rw [← hnL] at h
    have e0 : (S 0).z.length = bnn wide lys nL := by have := (HOK.out 0 (Nat.zero_le _)).len; rw [← hnL] at this; exact this
    rw [e0, hSS]
    rw [show mst q n wide lys inputs 0 = gs0 q n wide lys (gvs q lys inputs lys.length) from rfl]
    unfold gs0
    rw [← hnL]
    exact h
  have HBEN : Hid (∀ W ly, Below w.heap.size w W → ly < nL → Calls Tryz.prog 84 #[.agg #[.int .i64 wide, .slice aL nL cL], .int .i64 (ly : Int)] W fun e w' => e = .returned (.int .i64 (bnn wide lys ly : Int)) ∧ Below W.heap.size W w') := fun W ly hW hly => by
    have h := rbeneath_any ly cL wide aL lys W hB (hl.step hW) (by omega)
    rw [(hS.bn (show ly ≤ lys.length by omega)).1, ← hnL] at h
    exact h
  have HGG : Hid (∀ ly, ly < nL → ∃ b1 o1 ag cg, aL = some ⟨b1, o1, none⟩ ∧ ∀ W, Below w.heap.size w W → W.cell? ⟨b1, o1 + ly, none⟩ = some (.slice ag (lyt lys ly).length cg) ∧ LstG w.heap.size W ag cg (lyt lys ly)) := fun i hi => by
    obtain ⟨b1, o1, ak, ck, e1, e2, e3, e4⟩ := hl.row i (by omega)
    exact ⟨b1, o1, ak, ck, e1, fun W hW => ⟨(hW.cell (p := ⟨b1, o1 + i, none⟩) e2).trans e3, e4.below hW⟩⟩
  have HST : Hid (∀ (W : World) (r cap : Nat) (a : Option Addr) (l D : List Int), Dig D → l.length ≤ 17592186043904 → Fits l → RCh q W r D → Lst W.heap.size W a cap l → Calls Tryz.prog 62 #[.pointer (some ⟨r, 0, none⟩), .int .i64 3, .slice a l.length cap] W fun e w' => e = .returned (.tuple #[]) ∧ RCh q w' r (digl q n (3 :: (D ++ l))) ∧ W.grownBy w' (some r)) := fun W r cap a l D hD hlen hf hr hla => rstep_any q n r cap 3 a l D W h5 h4 hpn (by omega) (by rw [hD.1]; omega) hD.2 hf hr hla
  have HDR : Hid (∀ (W : World) (r : Nat) (D : List Int), Dig D → RCh q W r D → Calls Tryz.prog 63 #[.pointer (some ⟨r, 0, none⟩)] W fun e w' => e = .returned (.int .i64 (zat (digl q n (4 :: D)) 0)) ∧ RCn q w' r (digl q n (4 :: D)) W.heap.size ∧ W.grownBy w' (some r)) := fun W r D hD hr => rdraw_new q n r D W h5 h4 hpn (by rw [hD.1]; omega) hD.2 hr
  have HPT : Hid (∀ (W : World) (ly cg cb cz cx : Nat) (ag ab az ax : Option Addr) (z xs : List Int), ly < nL → z.length = bnn wide lys (ly + 1) → xs.length ≤ 2 * bnn wide lys ly → Fits z → Fits xs → LstG W.heap.size W ag cg (lyt lys ly) → RowB W.heap.size W ab (gvs q lys inputs ly) → RowB W.heap.size W az z → RowB W.heap.size W ax xs → Calls Tryz.prog 88 #[.int .i64 (q : Int), .slice ag (lyt lys ly).length cg, .slice ab (gvs q lys inputs ly).length cb, .int .i64 (bnn wide lys ly : Int), .slice az z.length cz, .slice ax xs.length cx] W fun e w' => e = .returned (.int .i64 (ptz q (lyt lys ly) (gvs q lys inputs ly) (bnn wide lys ly) z xs)) ∧ Below W.heap.size W w') := fun W ly cg cb cz cx ag ab az ax z xs hly hz hx fz fx hg rb rz rx => by
    have hly' : ly < lys.length := by omega
    have hgl := (hS.own hly').1
    have hz6 := (hS.bn (show ly + 1 ≤ lys.length by omega)).2
    have hb6 := (hS.bn (show ly ≤ lys.length by omega)).2
    have hp6 := pow_6 hb6
    exact rpart13_any q (bnn wide lys ly) cg cb cz cx ag ab az ax _ _ z xs W h3 h4 hb6 (HGV.out ly (by omega)).1 (by rw [hgl]; exact pow_6 hz6) hg (fun k hk => by
      have hg' := hGC _ hly' k hk
      unfold GtO at hg'
      have e3 : (2 : Nat) ^ (bnz wide lys ly).toNat = 2 ^ bnn wide lys ly := rfl
      rw [e3] at hg'
      exact ⟨by omega, by omega, by omega⟩) (by omega) (by rw [hgl, hz]; exact Nat.le_refl _) hx (HGV.out ly (by omega)).2 fz fx rb rz rx
  have HLN : Hid (∀ (W : World) (ly cb cx cy : Nat) (ab ax ay : Option Addr) (x y : List Int), ly < nL → x.length = bnn wide lys ly → y.length = bnn wide lys ly → Fits x → Fits y → Lst W.heap.size W ab cb (gvs q lys inputs ly) → Lst W.heap.size W ax cx x → RowB W.heap.size W ay y → Calls Tryz.prog 89 #[.int .i64 (q : Int), .slice ab (gvs q lys inputs ly).length cb, .slice ax (bnn wide lys ly) cx, .slice ay (bnn wide lys ly) cy] W fun e w' => ∃ v, e = .returned v ∧ NuE W.heap.size w' v (lnz q (gvs q lys inputs ly) x y (bnn wide lys ly)) ∧ Below W.heap.size W w') := fun W ly cb cx cy ab ax ay x y hly hx hy fx fy lb lx ry =>
    rline13_any q (bnn wide lys ly) cb cx cy ab ax ay _ x y W h3 h4 (hS.bn (show ly ≤ lys.length by omega)).2 (HGV.out ly (by omega)).1 hx hy (HGV.out ly (by omega)).2 fx fy lb lx ry
  have HB6 : Hid (∀ ly, ly < nL → bnn wide lys ly ≤ 6) := fun i hi => (hS.bn (show i ≤ lys.length by omega)).2
  have HRSS : Hid (∀ i, mRs q n wide lys inputs (i + 1) = mRs q n wide lys inputs i ++ [mrs q n wide lys inputs (nL - 1 - i) (S i)] ∧ mLs q n wide lys inputs (i + 1) = mLs q n wide lys inputs i ++ [mln q n wide lys inputs (nL - 1 - i) (S i)]) := fun i => by rw [hSS, hnL]; exact ⟨mRs_succ _ _ _ _ _ _, mLs_succ _ _ _ _ _ _⟩
  have HNX : Hid (∀ i, S (i + 1) = gnx q n (bnn wide lys (nL - 1 - i)) (mrs q n wide lys inputs (nL - 1 - i) (S i)) (mln q n wide lys inputs (nL - 1 - i) (S i)) (S i)) := fun i => by rw [hSS, hnL]; rfl
  have HML : Hid (∀ i, (mRs q n wide lys inputs i).length = i ∧ (mLs q n wide lys inputs i).length = i) := fun i => ⟨mRs_len _ _ _ _ _ _, mLs_len _ _ _ _ _ _⟩
  have HLEN : Hid (∀ i, i < nL → (S i).z.length = bnn wide lys (nL - 1 - i + 1)) := fun i hi => by rw [(HOK.out i (by omega)).len, ← hnL, show nL - i = nL - 1 - i + 1 from by omega]
  have hL8 : nL ≤ 8 := by omega
  have hL1 : 1 ≤ nL := by omega
  have HW1 := hid hW1
  have HGE := hid hG
  have HRE := hid hR
  have HZ1 : Hid (W1.heap.size = w.heap.size + 2 ∧ R + 1 = W1.heap.size ∧ w.heap.size ≤ R) := ⟨hz1, by omega, by omega⟩
  rw [← hnL, ← hni]
  clear hW1 hG hR hs1 hs2 hz1 hb1 hnL hni hSS hS hGC hin h8 hB hl li fi hV hpn
  go_enter Tryz.func33, Tryz.ntmps33
  go_wp2_with fail
  rw [← HRE.out, ← HGE.out, ← HW1.out]
  refine (HVA.out W1 (HBW.out W1 (Below.refl _ _))).mono ?_
  rintro e w2 ⟨vv, rfl, ho2, hb2⟩
  obtain ⟨av, cv, rfl, hlv⟩ := ownR_lst ho2
  rw [gva_len]
  obtain ⟨nv, hnv⟩ : ∃ nv, nv = nL + 1 := ⟨_, rfl⟩
  rw [← hnv]
  have HGVR : Hid (∀ i, i ≤ nL → ∃ bv ov ak ck, av = some ⟨bv, ov, none⟩ ∧ bv < w2.heap.size ∧ w2.cell? ⟨bv, ov + i, none⟩ = some (.slice ak (gvs q lys inputs i).length ck) ∧ Lst w2.heap.size w2 ak ck (gvs q lys inputs i)) := fun i hi => lst_gvs hlv (by omega)
  have HNV := hid hnv
  obtain ⟨bv, ov, aN, cN, rfl, hbv, hcN, hlN⟩ := HGVR.out nL (Nat.le_refl _)
  have HB2 := hid hb2
  have HS2 : Hid (∀ W, Below w2.heap.size w2 W → (W.cell? ⟨G, 0, none⟩ = some (.int .i64 wide) ∧ W.cell? ⟨G, 1, none⟩ = some (.slice aL nL cL)) ∧ W.cell? ⟨bv, ov + nL, none⟩ = some (.slice aN (gvs q lys inputs nL).length cN)) := fun W hW => ⟨HSC.out W (HB2.out.trans (hW.mono HB2.out.size)), (hW.cell (p := ⟨bv, ov + nL, none⟩) hbv).trans hcN⟩
  have HWE : Hid (Below w2.heap.size w2 w2.drew) := (Below.refl _ _).drew
  have HBGX := hid (HBG.out w2.drew aN cN (HBW.out _ (HB2.out.trans (HWE.out.mono HB2.out.size))) (hlN.below HWE.out))
  have hsub : IntKind.i64.wrap ((nv : Int) - 1) = (nL : Int) := by rw [IntKind.wrap_i64]; omega
  have hnLv : (nL : Int) < (nv : Int) := by omega
  have hL0 : ¬ (nL : Int) < 0 := by omega
  clear ho2 hlv hnv hcN hlN hbv hb2 HVA HBG
  go_wp2_with fail
  refine wp_region_held_drew (S := fun W => (W.cell? ⟨G, 0, none⟩ = some (.int .i64 wide) ∧ W.cell? ⟨G, 1, none⟩ = some (.slice aL nL cL)) ∧ W.cell? ⟨bv, ov + nL, none⟩ = some (.slice aN (gvs q lys inputs nL).length cN)) (by kernel_rfl) (HS2.out _ HWE.out) (fun hHeld => ?_)
  refine wpAnyH_takeU (i := 0) (v := .int .i64 (q : Int)) rfl (by kernel_rfl) (by kernel_rfl) (by kernel_rfl) (fun _ _ _ h => h) (by rfl) (fun W hC => by go_simp) hHeld ?_
  simp only [Act.put, List.setIfInBounds_toArray, List.set_cons_zero, List.set_cons_succ]
  refine wpAnyH_takeU (i := 1) (v := .agg #[.int .i64 wide, .slice aL nL cL]) rfl (by kernel_rfl) (by kernel_rfl) (by kernel_rfl) (fun _ _ _ h => h) (by rfl) (fun W hC => by (obtain ⟨⟨x1, x2⟩, x3⟩ := hC); go_simp) hHeld ?_
  simp only [Act.put, List.setIfInBounds_toArray, List.set_cons_zero, List.set_cons_succ]
  refine wpAnyH_takeU (i := 2) (v := .slice (some ⟨bv, ov, none⟩) nv cv) rfl (by kernel_rfl) (by kernel_rfl) (by kernel_rfl) (fun _ _ _ h => h) (by rfl) (fun W hC => by go_simp) hHeld ?_
  simp only [Act.put, List.setIfInBounds_toArray, List.set_cons_zero, List.set_cons_succ]
  refine wpAnyH_takeU (i := 3) (v := .slice (some ⟨bv, ov, none⟩) nv cv) rfl (by kernel_rfl) (by kernel_rfl) (by kernel_rfl) (fun _ _ _ h => h) (by rfl) (fun W hC => by go_simp) hHeld ?_
  simp only [Act.put, List.setIfInBounds_toArray, List.set_cons_zero, List.set_cons_succ]
  refine wpAnyH_takeU (i := 4) (v := .int .i64 (nv : Int)) rfl (by kernel_rfl) (by kernel_rfl) (by kernel_rfl) (fun _ _ _ h => h) (by rfl) (fun W hC => by go_simp) hHeld ?_
  simp only [Act.put, List.setIfInBounds_toArray, List.set_cons_zero, List.set_cons_succ]
  refine wpAnyH_takeU (i := 5) (v := .int .i64 (nL : Int)) rfl (by kernel_rfl) (by kernel_rfl) (by kernel_rfl) (fun _ _ _ h => h) (by rfl) (fun W hC => by go_simp) hHeld ?_
  simp only [Act.put, List.setIfInBounds_toArray, List.set_cons_zero, List.set_cons_succ]
  refine wpAnyH_takeU (i := 6) (v := .pointer (some ⟨bv, ov + nL, none⟩)) rfl (by kernel_rfl) (by kernel_rfl) (by kernel_rfl) (fun _ _ _ h => h) (by rfl) (fun W hC => by go_simp) hHeld ?_
  simp only [Act.put, List.setIfInBounds_toArray, List.set_cons_zero, List.set_cons_succ]
  refine wpAnyH_takeU (i := 7) (v := .slice aN (gvs q lys inputs nL).length cN) rfl (by kernel_rfl) (by kernel_rfl) (by kernel_rfl) (fun _ _ _ h => h) (by rfl) (fun W hC => by (obtain ⟨⟨x1, x2⟩, x3⟩ := hC); go_simp) hHeld ?_
  simp only [Act.put, List.setIfInBounds_toArray, List.set_cons_zero, List.set_cons_succ]
  refine wpAnyH_ready (rs := [8]) (by kernel_rfl) (by simp) ?_
  refine AllReadyH.consU rfl (fun K' hK' => ?_) AllReadyH.nil
  go_simp
  refine (HBGX.out).mono ?_
  rintro e w3 ⟨r, az, cz, rfl, hc3, hP3, hz3, hb3⟩
  have H3 : Hid (Below w2.heap.size w2 w3) := HWE.out.trans (hb3.mono HWE.out.size)
  have HP3 := hid hP3
  have HZ3 := hid hz3
  have HC3 : Hid (w2.heap.size ≤ r) := hc3
  clear hP3 hz3 hb3 hc3
  refine hK'.out _ _ (HS2.out _ H3.out) (fun hHeld => ?_)
  clear hK' K'
  refine wpAnyH_takeU (i := 9) (v := .tuple #[.pointer (some ⟨r, 0, none⟩), .slice az (S 0).z.length cz]) rfl (by kernel_rfl) (by kernel_rfl) (by kernel_rfl) (fun _ _ _ h => h) (by rfl) (fun W hC => by go_simp) hHeld ?_
  simp only [Act.put, List.setIfInBounds_toArray, List.set_cons_zero, List.set_cons_succ]
  refine wpAnyH_takeU (i := 10) (v := .pointer (some ⟨r, 0, none⟩)) rfl (by kernel_rfl) (by kernel_rfl) (by kernel_rfl) (fun _ _ _ h => h) (by rfl) (fun W hC => by go_simp) hHeld ?_
  simp only [Act.put, List.setIfInBounds_toArray, List.set_cons_zero, List.set_cons_succ]
  refine wpAnyH_takeU (i := 11) (v := .slice az (S 0).z.length cz) rfl (by kernel_rfl) (by kernel_rfl) (by kernel_rfl) (fun _ _ _ h => h) (by rfl) (fun W hC => by go_simp) hHeld ?_
  simp only [Act.put, List.setIfInBounds_toArray, List.set_cons_zero, List.set_cons_succ]
  refine wpAnyH_takeU (i := 12) (v := .pointer (some ⟨r, 0, none⟩)) rfl (by kernel_rfl) (by kernel_rfl) (by kernel_rfl) (fun _ _ _ h => h) (by rfl) (fun W hC => by go_simp) hHeld ?_
  simp only [Act.put, List.setIfInBounds_toArray, List.set_cons_zero, List.set_cons_succ]
  refine wpAnyH_takeU (i := 13) (v := .slice az (S 0).z.length cz) rfl (by kernel_rfl) (by kernel_rfl) (by kernel_rfl) (fun _ _ _ h => h) (by rfl) (fun W hC => by go_simp) hHeld ?_
  simp only [Act.put, List.setIfInBounds_toArray, List.set_cons_zero, List.set_cons_succ]
  refine wpAnyH_done (by kernel_rfl) ?_ _
  obtain ⟨W4, hW4⟩ : ∃ W4, W4 = w3.alloc (.cells #[.slice none 0 0, .slice none 0 0] 74) := ⟨_, rfl⟩
  obtain ⟨hb4, _, hz4⟩ := own_blk hW4
  obtain ⟨O, hO⟩ : ∃ O, O = w3.heap.size := ⟨_, rfl⟩
  have HO4 : Hid (W4.rowIs O 74 2 (dub (.slice none 0 0) (.slice none 0 0))) := by rw [hW4, hO]; exact dub_new w3 _ _ _
  have HOE := hid hO
  have HW4 := hid hW4
  have HB4 : Hid (Below w2.heap.size w2 W4) := H3.out.trans (hb4.mono H3.out.size)
  have HR4 : Hid (RCh q W4 r (S 0).D) := HP3.out.below hb4
  have HZ4 : Hid (NumL W4 az cz (S 0).z) := HZ3.out.below hb4
  have HO2 : Hid (w2.heap.size ≤ O) := by have := H3.out.size; unfold Hid; omega
  have hrO : r < O := by rw [hO]; exact HP3.out.lt
  have hOB : O + 1 = W4.heap.size := by omega
  obtain ⟨k0, k1⟩ := HSC.out W4 (HB2.out.trans (HB4.out.mono HB2.out.size))
  have hsub2 : IntKind.i64.wrap ((nL : Int) - 1) = (nL : Int) - 1 := by rw [IntKind.wrap_i64]; omega
  rw [hW4] at k0 k1
  clear hb4 hz4 hO hW4 HP3 HZ3 H3 HBGX HS2 HWE hsub hnLv hL0
  go_wp2_with fail
  rw [← HOE.out, ← HW4.out]
  clear k0 k1
  go_loopw [9, 11, 12, 13, 14, 15, 16, 17, 18, 19, 20, 21, 22] (fun zv iv _ _ _ _ _ _ _ _ _ _ _ wr => ∃ i : Nat, i ≤ nL ∧ (∃ X : Int, iv = .int .i64 X ∧ Hid (X = (nL : Int) - 1 - (i : Int))) ∧ ∃ az cz, zv = .slice az (S i).z.length cz ∧ Hid (∃ aR cR aS cS, wr.rowIs O 74 2 (dub (.slice aR i cR) (.slice aS i cS)) ∧ MkR W4.heap.size wr (.slice aR i cR) (.slice aS i cS) (mRs q n wide lys inputs i) (mLs q n wide lys inputs i) ∧ NumL wr az cz (S i).z ∧ RCh q wr r (S i).D ∧ Below w2.heap.size w2 wr ∧ W4.heap.size ≤ wr.heap.size)) (fun _ iv _ _ _ _ _ _ _ _ _ _ _ _ => (intOf iv + 1).toNat)
  case atStart => exact ⟨0, Nat.zero_le _, ⟨_, rfl, by unfold Hid; omega⟩, az, cz, rfl, none, 0, none, 0, HO4.out, MkR.nil _ _, HZ4.out, HR4.out, HB4.out, Nat.le_refl _⟩
  case round =>
    obtain ⟨i, hi, ⟨X, rfl, hX⟩, az, cz, rfl, hI⟩ := hrel
    obtain ⟨aR, cR, aS, cS, hrow, hM, hzi, hri, hbi, hsz⟩ := hI.out
    by_cases hlt : i < nL
    · obtain ⟨ly, hlyE⟩ : ∃ ly, ly = nL - 1 - i := ⟨_, rfl⟩
      have HLYE := hid hlyE
      have hly : ly < nL := by omega
      obtain rfl : X = (ly : Int) := by have := hX.out; omega
      have HXE := hid hX.out
      have hge : (0 : Int) ≤ (ly : Int) := by omega
      have hnl0 : ¬ (ly : Int) < 0 := by omega
      have hks : IntKind.i64.wrap ((ly : Int) - 1) = (ly : Int) - 1 := by rw [IntKind.wrap_i64]; omega
      have HB0 : Hid (Below w.heap.size w wr) := HBW.out _ (HB2.out.trans (hbi.mono HB2.out.size))
      obtain ⟨b1, o1, ag, cg, rfl, hgg⟩ := HGG.out ly hly
      have HGGX := hid hgg
      obtain ⟨bv', ov', aV, cV, eV, hbV, hcV, hlV⟩ := HGVR.out ly (by omega)
      cases eV
      have HCV : Hid (∀ W, Below w2.heap.size w2 W → W.cell? ⟨bv, ov + ly, none⟩ = some (.slice aV (gvs q lys inputs ly).length cV) ∧ Lst W.heap.size W aV cV (gvs q lys inputs ly)) := fun W hW => ⟨(hW.cell (p := ⟨bv, ov + ly, none⟩) hbV).trans hcV, (hlV.below hW).mono hW.size⟩
      have HBX := hid (HBEN.out wr ly HB0.out hly)
      have HSZ : Hid ((S i).z.length = bnn wide lys (ly + 1)) := by unfold Hid; rw [HLEN.out i hlt, ← hlyE]
      have HRNX : Hid (mRs q n wide lys inputs (i + 1) = mRs q n wide lys inputs i ++ [mrs q n wide lys inputs ly (S i)] ∧ mLs q n wide lys inputs (i + 1) = mLs q n wide lys inputs i ++ [mln q n wide lys inputs ly (S i)] ∧ S (i + 1) = gnx q n (bnn wide lys ly) (mrs q n wide lys inputs ly (S i)) (mln q n wide lys inputs ly (S i)) (S i)) := by rw [hlyE]; exact ⟨(HRSS.out i).1, (HRSS.out i).2, HNX.out i⟩
      have hm6 := HB6.out ly hly
      have HPTL : Hid (∀ (W : World) (cg cb cz cx : Nat) (ag ab az ax : Option Addr) (z xs : List Int), z.length = bnn wide lys (ly + 1) → xs.length ≤ 2 * bnn wide lys ly → Fits z → Fits xs → LstG W.heap.size W ag cg (lyt lys ly) → RowB W.heap.size W ab (gvs q lys inputs ly) → RowB W.heap.size W az z → RowB W.heap.size W ax xs → Calls Tryz.prog 88 #[.int .i64 (q : Int), .slice ag (lyt lys ly).length cg, .slice ab (gvs q lys inputs ly).length cb, .int .i64 (bnn wide lys ly : Int), .slice az z.length cz, .slice ax xs.length cx] W fun e w' => e = .returned (.int .i64 (ptz q (lyt lys ly) (gvs q lys inputs ly) (bnn wide lys ly) z xs)) ∧ Below W.heap.size W w') := fun W cg cb cz cx ag ab az ax z xs h1 h2 f1 f2 h5 h6 h7 h8 => HPT.out W ly cg cb cz cx ag ab az ax z xs hly h1 h2 f1 f2 h5 h6 h7 h8
      have HLNL : Hid (∀ (W : World) (cb cx cy : Nat) (ab ax ay : Option Addr) (x y : List Int), x.length = bnn wide lys ly → y.length = bnn wide lys ly → Fits x → Fits y → Lst W.heap.size W ab cb (gvs q lys inputs ly) → Lst W.heap.size W ax cx x → RowB W.heap.size W ay y → Calls Tryz.prog 89 #[.int .i64 (q : Int), .slice ab (gvs q lys inputs ly).length cb, .slice ax (bnn wide lys ly) cx, .slice ay (bnn wide lys ly) cy] W fun e w' => ∃ v, e = .returned v ∧ NuE W.heap.size w' v (lnz q (gvs q lys inputs ly) x y (bnn wide lys ly)) ∧ Below W.heap.size W w') := fun W cb cx cy ab ax ay x y h1 h2 f1 f2 h5 h6 h7 => HLN.out W ly cb cx cy ab ax ay x y hly h1 h2 f1 f2 h5 h6 h7
      have HSI := hid (HOK.out i hi)
      unfold mrs mln at HRNX
      obtain ⟨m, hm⟩ : ∃ m, m = bnn wide lys ly := ⟨_, rfl⟩
      rw [← hm] at HBX HRNX hm6 HPTL HLNL
      obtain ⟨gs, hgs⟩ : ∃ gs, gs = lyt lys ly := ⟨_, rfl⟩
      rw [← hgs] at HGGX HRNX HPTL
      obtain ⟨tb, htb⟩ : ∃ tb, tb = gvs q lys inputs ly := ⟨_, rfl⟩
      rw [← htb] at HCV HRNX HPTL HLNL
      have HROWI := hid hrow
      have HMI := hid hM
      have HZI := hid hzi
      have HRI := hid hri
      have HBI := hid hbi
      have hszI := hsz
      obtain ⟨k0, k1⟩ := HSC.out wr (HB2.out.trans (hbi.mono HB2.out.size))
      clear hI hrow hM hzi hri hbi hsz hlyE hX hgg hcV hlV hbV hm hgs htb HB0
      go_wp2_with fail
      refine HBX.out.mono ?_
      rintro e w4 ⟨rfl, hb4⟩
      have hr4 : r < w4.heap.size := by have := hb4.size; omega
      have hO4 : O < w4.heap.size := by have := hb4.size; omega
      have HRC : Hid (∀ W, w4.grownBy W (some r) → Below w2.heap.size w2 W) := fun W hW => by
        have h1 : Below w2.heap.size w2 w4 := HBI.out.trans (hb4.mono HBI.out.size)
        exact h1.trans (gb_to hW HC3.out h1.size)
      have HR4 : Hid (RCh q w4 r (S i).D) := HRI.out.below hb4
      have HZ4 : Hid (NumL w4 az cz (S i).z) := HZI.out.below hb4
      have HM4 : Hid (MkR W4.heap.size w4 (.slice aR i cR) (.slice aS i cS) (mRs q n wide lys inputs i) (mLs q n wide lys inputs i)) := HMI.out.below hb4
      have HO4' : Hid (w4.rowIs O 74 2 (dub (.slice aR i cR) (.slice aS i cS))) := World.rowIs.of_block HROWI.out (hb4.block O (by omega))
      have hsz4 : W4.heap.size ≤ w4.heap.size := by have := hb4.size; omega
      have HWW : Hid (∀ W, w4.grownBy W (some r) → (W.cell? ⟨G, 0, none⟩ = some (.int .i64 wide) ∧ W.cell? ⟨G, 1, none⟩ = some (.slice (some ⟨b1, o1, none⟩) nL cL)) ∧ (W.cell? ⟨b1, o1 + ly, none⟩ = some (.slice ag gs.length cg) ∧ LstG W.heap.size W ag cg gs) ∧ (W.cell? ⟨bv, ov + ly, none⟩ = some (.slice aV tb.length cV) ∧ Lst W.heap.size W aV cV tb) ∧ NumL W az cz (S i).z) := fun W hW => by
        have h2 := HRC.out W hW
        have h1 := HB2.out.trans (h2.mono HB2.out.size)
        have h0 := HBW.out _ h1
        exact ⟨HSC.out W h1, ⟨(HGGX.out W h0).1, (HGGX.out W h0).2.mono h0.size⟩, HCV.out W h2, HZ4.out.other hW HR4.out.not⟩
      obtain ⟨D, hD⟩ : ∃ D : Nat → List Int, D = fun k => (mks q n gs tb m (S i).z (S i).D k).1 := ⟨_, rfl⟩
      obtain ⟨XS, hXS⟩ : ∃ XS : Nat → List Int, XS = fun k => (mks q n gs tb m (S i).z (S i).D k).2 := ⟨_, rfl⟩
      obtain ⟨RS, hRS⟩ : ∃ RS : Nat → List (List Int), RS = fun k => mkr q n gs tb m (S i).z (S i).D k := ⟨_, rfl⟩
      obtain ⟨TL, hTL⟩ : ∃ TL : Nat → List Int, TL = fun k => tld q gs tb m (S i).z (XS k) := ⟨_, rfl⟩
      have HSQ : Hid (∀ k, D (k + 1) = gan q n (D k) (TL k) ∧ XS (k + 1) = XS k ++ [zat (D (k + 1)) 0] ∧ RS (k + 1) = RS k ++ [TL k] ∧ (XS k).length = k ∧ (RS k).length = k ∧ Dig (D k) ∧ Fits (XS k)) := fun k => by
        have hok := mks_ok (gs := gs) (t := tb) (m := m) (z := (S i).z) (n := n) h3 h4 HSI.out.dig k
        rw [hTL, hD, hRS, hXS]
        exact ⟨(mks_next _ _ _ _ _ _ _ _).1, (mks_next _ _ _ _ _ _ _ _).2, mkr_succ _ _ _ _ _ _ _ _, mks_len k, mkr_len _ _ _ _ _ _ _ _, hok.1, hok.2⟩
      have HS0 : Hid (D 0 = (S i).D ∧ XS 0 = [] ∧ RS 0 = []) := by rw [hD, hXS, hRS]; exact ⟨rfl, rfl, rfl⟩
      have HTLF : Hid (∀ k, Fits (TL k) ∧ (TL k).length = 3 ∧ TL k = ls (fun j => ptz q gs tb m (S i).z (XS k ++ [(j : Int)])) 3) := fun k => by
        rw [hTL]
        exact ⟨tld_fits h3 h4 _ _ _ _ _, tld_len _ _ _ _ _ _, rfl⟩
      have HFIN : Hid (mRs q n wide lys inputs (i + 1) = mRs q n wide lys inputs i ++ [RS (2 * m)] ∧ mLs q n wide lys inputs (i + 1) = mLs q n wide lys inputs i ++ [lnz q tb ((XS (2 * m)).take m) ((XS (2 * m)).drop m) m] ∧ (S (i + 1)).D = gan q n (D (2 * m)) (lnz q tb ((XS (2 * m)).take m) ((XS (2 * m)).drop m) m) ∧ (S (i + 1)).z = onl q ((XS (2 * m)).take m) ((XS (2 * m)).drop m) (zat (gan q n (D (2 * m)) (lnz q tb ((XS (2 * m)).take m) ((XS (2 * m)).drop m) m)) 0)) := by
        have hg := mks_gds (q := q) (n := n) (gs := gs) (t := tb) (m := m) (z := (S i).z) (D := (S i).D) (K := 2 * m) (2 * m) (Nat.le_refl _)
        rw [hRS, hXS, hD]
        refine ⟨HRNX.out.1, HRNX.out.2.1, ?_, ?_⟩
        · rw [HRNX.out.2.2]
          show gan q n (gds q n _ _ (2 * m)) _ = _
          rw [hg.1]
        · rw [HRNX.out.2.2]
          show onl q ((gxs q n _ _ (2 * m)).take m) ((gxs q n _ _ (2 * m)).drop m) (zat (gan q n (gds q n _ _ (2 * m)) _) 0) = _
          rw [hg.1, hg.2]
      have HSZ6 : Hid ((S i).z.length = bnn wide lys (ly + 1)) := HSZ
      have HFZ := hid HSI.out.fit
      have HKJ : Hid (∀ W, w4.grownBy W (some r) → KJ w4 W) := fun W hW => by
        obtain ⟨_, _, hch, _⟩ := HR4.out
        exact KJ.other hW hch (by decide) (by decide)
      rw [← HS0.out.1] at HR4
      obtain ⟨zz, hzz⟩ : ∃ zz, zz = (S i).z := ⟨_, rfl⟩
      rw [← hzz] at HWW HTLF HSZ6 HFZ ⊢
      obtain ⟨nz, hnz⟩ : ∃ nz, nz = zz.length := ⟨_, rfl⟩
      have HNZ := hid hnz
      rw [← hnz] at ⊢
      have hw2 : IntKind.i64.wrap (2 * (m : Int)) = 2 * (m : Int) := by rw [IntKind.wrap_i64]; omega
      clear hb4 HBX HBI HZI HRI HMI HROWI hD hXS hRS hTL hzz hnz k0 k1 HZ4 HRNX HSI HGGX HSZ
      go_wp2_with fail
      go_loopw [13, 14, 15, 16, 17, 18, 19, 20] (fun rv av kv _ _ _ _ _ wr => ∃ k : Nat, k ≤ 2 * m ∧ kv = .int .i64 (k : Int) ∧ Hid (RsI w4.heap.size wr rv av (RS k) (XS k) ∧ RCh q wr r (D k) ∧ w4.grownBy wr (some r))) (fun _ _ kv _ _ _ _ _ _ => 2 * m - (intOf kv).toNat)
      case atStart => exact ⟨0, Nat.zero_le _, rfl, by rw [HS0.out.2.1, HS0.out.2.2]; exact RsI.nil _ _, HR4.out, gb_refl _ _⟩
      case round =>
        obtain ⟨k, hk, rfl, hJ⟩ := hrel
        obtain ⟨wk, hwk⟩ : ∃ wk, wk = wr := ⟨_, rfl⟩
        rw [← hwk] at hJ ⊢
        clear hwk
        have HRSI := hid hJ.out.1
        have HRK := hid hJ.out.2.1
        have HGK := hid hJ.out.2.2
        have hsk : w4.heap.size ≤ wk.heap.size := hJ.out.2.2.size
        by_cases hkt : k < 2 * m
        · have hmark : True := trivial
          have hkt2 : (k : Int) < 2 * (m : Int) := by omega
          have hks2 : IntKind.i64.wrap ((k : Int) + 1) = (k : Int) + 1 := by rw [IntKind.wrap_i64]; omega
          obtain ⟨q1, q2, q3, q4, q5, q6, q7⟩ := HSQ.out k
          have HSQK := hid (HSQ.out k)
          obtain ⟨f1, f2, f3⟩ := HTLF.out k
          have HTK := hid f3
          have HTKF : Hid (Fits (TL k) ∧ (TL k).length = 3) := ⟨f1, f2⟩
          obtain ⟨aa, ca, rfl, hla⟩ := NuE.lst hJ.out.1.drw
          have hll := hla
          rw [q4]
          rw [q4] at HRSI
          have HLA : Hid (∀ W, Below wk.heap.size wk W → Lst W.heap.size W aa ca (XS k)) := fun W hW => (hll.below hW).mono hW.size
          have HPTK : Hid (∀ (W : World) (a8 : Option Addr) (c8 j : Nat), Below wk.heap.size wk W → Lst W.heap.size W a8 c8 (XS k ++ [(j : Int)]) → j < 3 → Calls Tryz.prog 88 #[.int .i64 (q : Int), .slice ag gs.length cg, .slice aV tb.length cV, .int .i64 (m : Int), .slice az nz cz, .slice a8 (k + 1) c8] W fun e w' => e = .returned (.int .i64 (ptz q gs tb m zz (XS k ++ [(j : Int)]))) ∧ Below W.heap.size W w') := fun W a8 c8 j hW h8 hj => by
            have hg := gb_trans HGK.out (gb_below hW)
            obtain ⟨_, h2, h5, h6⟩ := HWW.out W hg
            have h := HPTL.out W cg cV cz c8 ag aV az a8 zz (XS k ++ [(j : Int)]) HSZ6.out (by rw [List.length_append, q4]; simp; omega) HFZ.out (fits_append q7 (fits_one ⟨by omega, by omega⟩)) h2.2 h5.2.row h6.1.row h8.row
            rw [List.length_append, q4, ← HNZ.out] at h
            exact h
          have HS19A : Hid (∀ W, Below wk.heap.size wk W → (W.cell? ⟨G, 0, none⟩ = some (.int .i64 wide) ∧ W.cell? ⟨G, 1, none⟩ = some (.slice (some ⟨b1, o1, none⟩) nL cL)) ∧ W.cell? ⟨b1, o1 + ly, none⟩ = some (.slice ag gs.length cg) ∧ W.cell? ⟨bv, ov + ly, none⟩ = some (.slice aV tb.length cV)) := fun W hW => by
            obtain ⟨h1, h2, h5, _⟩ := HWW.out W (gb_trans HGK.out (gb_below hW))
            exact ⟨h1, h2.1, h5.1⟩
          obtain ⟨F, hF⟩ : ∃ F : Nat → Int, F = fun (j : Nat) => ptz q gs tb m zz (XS k ++ [(j : Int)]) := ⟨_, rfl⟩
          have HPTF : Hid (∀ (W : World) (a8 : Option Addr) (c8 j : Nat), Below wk.heap.size wk W → Lst W.heap.size W a8 c8 (XS k ++ [(j : Int)]) → j < 3 → Calls Tryz.prog 88 #[.int .i64 (q : Int), .slice ag gs.length cg, .slice aV tb.length cV, .int .i64 (m : Int), .slice az nz cz, .slice a8 (k + 1) c8] W fun e w' => e = .returned (.int .i64 (F j)) ∧ Below W.heap.size W w') := by rw [hF]; exact HPTK.out
          rw [← hF] at HTK
          obtain ⟨ng, hng⟩ : ∃ ng, ng = gs.length := ⟨_, rfl⟩
          obtain ⟨nV, hnV⟩ : ∃ nV, nV = tb.length := ⟨_, rfl⟩
          rw [← hng, ← hnV] at HPTF HS19A
          obtain ⟨xk, hxk⟩ : ∃ xk, xk = XS k := ⟨_, rfl⟩
          rw [← hxk] at HPTF HLA
          have HXL : Hid (xk.length = k ∧ XS k = xk) := ⟨by rw [hxk]; exact q4, hxk.symm⟩
          have hlyn : (ly : Int) < (nL : Int) := by omega
          have hlyv : (ly : Int) < (nv : Int) := by have := HNV.out; omega
          clear hJ q1 q2 q3 q4 q5 q6 q7 f1 f2 f3 hla hll HPTK hF hng hnV hxk
          go_wp2_with fail
          go_loopw [16, 17, 18, 19] (fun tv jv _ _ wr => ∃ j : Nat, j ≤ 3 ∧ jv = .int .i64 (j : Int) ∧ Hid (NuE wk.heap.size wr tv (ls F j) ∧ Below wk.heap.size wk wr)) (fun _ jv _ _ _ => 3 - (intOf jv).toNat)
          case atStart => exact ⟨0, Nat.zero_le _, rfl, World.ownsRow_nil _ _ _ _, Below.refl _ _⟩
          case round =>
            obtain ⟨j, hj, rfl, hT⟩ := hrel
            by_cases hj3 : j < 3
            · have hj32 : (j : Int) < 3 := by omega
              have hjs : IntKind.i64.wrap ((j : Int) + 1) = (j : Int) + 1 := by rw [IntKind.wrap_i64]; omega
              have HTO := hid hT.out.1
              have HTB := hid hT.out.2
              have HO7 : Hid ((wr.alloc (.cells #[] 3)).ownsRow wr.heap.size 3 1 (.slice (some ⟨wr.heap.size, 0, none⟩) 0 0) ([] : List Int).length (([] : List Int).map (Value.int .i64))) := World.ownsRow_made (size := 1) wr #[] 0 (Nat.le_refl _) (by unfold maxLen; omega) (by simp)
              have HBA7 : Hid (Below wr.heap.size wr (wr.alloc (.cells #[] 3))) := (Below.refl _ _).alloc (Nat.le_refl _) _
              have HL7 : Hid (Lst wr.heap.size (wr.alloc (.cells #[] 3)) aa ca xk) := (HLA.out wr hT.out.2).below HBA7.out
              have HXL2 : Hid (([] : List Int).length + xk.length ≤ 17592186044416) := by have := HXL.out.1; unfold Hid; simp; omega
              clear hT
              go_wp2_with (at_builtin; refine wpList_appendL (wr.alloc (.cells #[] 3)) wr.heap.size wr.heap.size rfl _ _ rfl _ rfl [] xk HO7.out aa ca (by rw [HXL.out.1]; rfl) HXL2.out HBA7.out.size HL7.out ?_)
              intro v7 w7 ho7 hb7
              have HB7 : Hid (Below wr.heap.size wr w7) := HBA7.out.trans hb7
              have HO8 : Hid ((w7.alloc (.cells #[.int .i64 (j : Int)] 3)).ownsRow wr.heap.size 3 1 v7 xk.length (xk.map (Value.int .i64))) := World.ownsRow.alloc ho7 _
              have HCC : Hid ((w7.alloc (.cells #[.int .i64 (j : Int)] 3)).cell? ⟨w7.heap.size, 0, none⟩ = some (.int .i64 (j : Int))) := by unfold Hid; simp
              have HSS : Hid (wr.heap.size ≤ (w7.alloc (.cells #[.int .i64 (j : Int)] 3)).heap.size) := by have := HB7.out.size; unfold Hid; simp; omega
              have HBA8 : Hid (Below wr.heap.size wr (w7.alloc (.cells #[.int .i64 (j : Int)] 3))) := HB7.out.alloc HB7.out.size _
              have HXL3 : Hid (xk.length ≤ 17592186044000) := by have := HXL.out.1; unfold Hid; omega
              clear ho7 hb7 HO7 HBA7 HL7
              go_wp2_with (at_builtin; refine wpList_append1 (w7.alloc (.cells #[.int .i64 (j : Int)] 3)) wr.heap.size w7.heap.size (j : Int) rfl _ _ rfl v7 rfl xk HO8.out rfl HCC.out HXL3.out HSS.out ?_)
              intro v8 w8 ho8 _ _ hb8
              have HB8 : Hid (Below wr.heap.size wr w8) := HBA8.out.trans hb8
              have HN8 : NuE wr.heap.size w8 v8 (xk ++ [(j : Int)]) := by
                unfold NuE
                rw [List.length_append, List.map_append]
                exact ho8
              obtain ⟨a8, c8, rfl, hl8⟩ := NuE.lst HN8
              have el8 : (xk ++ [(j : Int)]).length = k + 1 := by rw [List.length_append, HXL.out.1]; rfl
              rw [el8]
              have HBK8 : Hid (Below wk.heap.size wk w8) := HTB.out.trans (HB8.out.mono HTB.out.size)
              have HWF : Hid (Below w8.heap.size w8 w8.drew) := (Below.refl _ _).drew
              have HS19 : Hid (∀ W, Below w8.heap.size w8 W → (W.cell? ⟨G, 0, none⟩ = some (.int .i64 wide) ∧ W.cell? ⟨G, 1, none⟩ = some (.slice (some ⟨b1, o1, none⟩) nL cL)) ∧ W.cell? ⟨b1, o1 + ly, none⟩ = some (.slice ag ng cg) ∧ W.cell? ⟨bv, ov + ly, none⟩ = some (.slice aV nV cV)) := fun W hW => HS19A.out W (HBK8.out.trans (hW.mono HBK8.out.size))
              have HPTX := hid (HPTF.out w8.drew a8 c8 j (HBK8.out.trans (HWF.out.mono HBK8.out.size)) (hl8.below HWF.out) hj3)
              have HT8 : Hid (NuE wk.heap.size w8 _ (ls F j)) := own_step HTO.out HB8.out
              have HLSJ : Hid (ls F (j + 1) = ls F j ++ [F j] ∧ (ls F j).length = j) := ⟨ls_succ _ _, ls_len _ _⟩
              obtain ⟨E, hE⟩ : ∃ E, E = F j := ⟨_, rfl⟩
              rw [← hE] at HPTX HLSJ
              clear ho8 hb8 hl8 el8 HO8 HCC HSS HBA8 HB7 HTO hE HN8
              go_wp2_with fail
              refine wp_region_held_drew (S := fun W => (W.cell? ⟨G, 0, none⟩ = some (.int .i64 wide) ∧ W.cell? ⟨G, 1, none⟩ = some (.slice (some ⟨b1, o1, none⟩) nL cL)) ∧ W.cell? ⟨b1, o1 + ly, none⟩ = some (.slice ag ng cg) ∧ W.cell? ⟨bv, ov + ly, none⟩ = some (.slice aV nV cV)) (by kernel_rfl) (HS19.out _ HWF.out) (fun hHeld => ?_)
              refine wpAnyH_takeU (i := 0) (v := .int .i64 (q : Int)) rfl (by kernel_rfl) (by kernel_rfl) (by kernel_rfl) (fun _ _ _ h => h) (by rfl) (fun W hC => by go_simp) hHeld ?_
              simp only [Act.put, List.setIfInBounds_toArray, List.set_cons_zero, List.set_cons_succ]
              refine wpAnyH_takeU (i := 1) (v := .pointer (some ⟨G, 1, none⟩)) rfl (by kernel_rfl) (by kernel_rfl) (by kernel_rfl) (fun _ _ _ h => h) (by rfl) (fun W hC => by go_simp) hHeld ?_
              simp only [Act.put, List.setIfInBounds_toArray, List.set_cons_zero, List.set_cons_succ]
              refine wpAnyH_takeU (i := 2) (v := .slice (some ⟨b1, o1, none⟩) nL cL) rfl (by kernel_rfl) (by kernel_rfl) (by kernel_rfl) (fun _ _ _ h => h) (by rfl) (fun W hC => by (obtain ⟨⟨x1, x2⟩, x3, x4⟩ := hC); go_simp) hHeld ?_
              simp only [Act.put, List.setIfInBounds_toArray, List.set_cons_zero, List.set_cons_succ]
              refine wpAnyH_takeU (i := 3) (v := .int .i64 (ly : Int)) rfl (by kernel_rfl) (by kernel_rfl) (by kernel_rfl) (fun _ _ _ h => h) (by rfl) (fun W hC => by go_simp) hHeld ?_
              simp only [Act.put, List.setIfInBounds_toArray, List.set_cons_zero, List.set_cons_succ]
              refine wpAnyH_takeU (i := 4) (v := .pointer (some ⟨b1, o1 + ly, none⟩)) rfl (by kernel_rfl) (by kernel_rfl) (by kernel_rfl) (fun _ _ _ h => h) (by rfl) (fun W hC => by go_simp) hHeld ?_
              simp only [Act.put, List.setIfInBounds_toArray, List.set_cons_zero, List.set_cons_succ]
              refine wpAnyH_takeU (i := 5) (v := .slice ag ng cg) rfl (by kernel_rfl) (by kernel_rfl) (by kernel_rfl) (fun _ _ _ h => h) (by rfl) (fun W hC => by (obtain ⟨⟨x1, x2⟩, x3, x4⟩ := hC); go_simp) hHeld ?_
              simp only [Act.put, List.setIfInBounds_toArray, List.set_cons_zero, List.set_cons_succ]
              refine wpAnyH_takeU (i := 6) (v := .slice (some ⟨bv, ov, none⟩) nv cv) rfl (by kernel_rfl) (by kernel_rfl) (by kernel_rfl) (fun _ _ _ h => h) (by rfl) (fun W hC => by go_simp) hHeld ?_
              simp only [Act.put, List.setIfInBounds_toArray, List.set_cons_zero, List.set_cons_succ]
              refine wpAnyH_takeU (i := 7) (v := .int .i64 (ly : Int)) rfl (by kernel_rfl) (by kernel_rfl) (by kernel_rfl) (fun _ _ _ h => h) (by rfl) (fun W hC => by go_simp) hHeld ?_
              simp only [Act.put, List.setIfInBounds_toArray, List.set_cons_zero, List.set_cons_succ]
              refine wpAnyH_takeU (i := 8) (v := .pointer (some ⟨bv, ov + ly, none⟩)) rfl (by kernel_rfl) (by kernel_rfl) (by kernel_rfl) (fun _ _ _ h => h) (by rfl) (fun W hC => by go_simp) hHeld ?_
              simp only [Act.put, List.setIfInBounds_toArray, List.set_cons_zero, List.set_cons_succ]
              refine wpAnyH_takeU (i := 9) (v := .slice aV nV cV) rfl (by kernel_rfl) (by kernel_rfl) (by kernel_rfl) (fun _ _ _ h => h) (by rfl) (fun W hC => by (obtain ⟨⟨x1, x2⟩, x3, x4⟩ := hC); go_simp) hHeld ?_
              simp only [Act.put, List.setIfInBounds_toArray, List.set_cons_zero, List.set_cons_succ]
              refine wpAnyH_takeU (i := 10) (v := .int .i64 (m : Int)) rfl (by kernel_rfl) (by kernel_rfl) (by kernel_rfl) (fun _ _ _ h => h) (by rfl) (fun W hC => by go_simp) hHeld ?_
              simp only [Act.put, List.setIfInBounds_toArray, List.set_cons_zero, List.set_cons_succ]
              refine wpAnyH_takeU (i := 11) (v := .slice az nz cz) rfl (by kernel_rfl) (by kernel_rfl) (by kernel_rfl) (fun _ _ _ h => h) (by rfl) (fun W hC => by go_simp) hHeld ?_
              simp only [Act.put, List.setIfInBounds_toArray, List.set_cons_zero, List.set_cons_succ]
              refine wpAnyH_takeU (i := 12) (v := .slice a8 (k + 1) c8) rfl (by kernel_rfl) (by kernel_rfl) (by kernel_rfl) (fun _ _ _ h => h) (by rfl) (fun W hC => by go_simp) hHeld ?_
              simp only [Act.put, List.setIfInBounds_toArray, List.set_cons_zero, List.set_cons_succ]
              refine wpAnyH_ready (rs := [13]) (by kernel_rfl) (by simp) ?_
              refine AllReadyH.consU rfl (fun K' hK' => ?_) AllReadyH.nil
              go_simp
              refine (HPTX.out).mono ?_
              rintro e w10 ⟨rfl, hb10⟩
              have H10 : Hid (Below w8.heap.size w8 w10) := HWF.out.trans (hb10.mono HWF.out.size)
              clear hb10
              refine hK'.out _ _ (HS19.out _ H10.out) (fun hHeld => ?_)
              clear hK' K'
              refine wpAnyH_takeU (i := 14) (v := .int .i64 E) rfl (by kernel_rfl) (by kernel_rfl) (by kernel_rfl) (fun _ _ _ h => h) (by rfl) (fun W hC => by go_simp) hHeld ?_
              simp only [Act.put, List.setIfInBounds_toArray, List.set_cons_zero, List.set_cons_succ]
              refine wpAnyH_done (by kernel_rfl) ?_ _
              have HTA := hid (own_step HT8.out H10.out)
              obtain ⟨lj, hlj⟩ : ∃ lj, lj = ls F j := ⟨_, rfl⟩
              rw [← hlj] at HLSJ HTA
              have HO9 : Hid ((w10.alloc (.cells #[.int .i64 E] 3)).ownsRow wk.heap.size 3 1 _ lj.length (lj.map (Value.int .i64))) := World.ownsRow.alloc HTA.out _
              have HCC : Hid ((w10.alloc (.cells #[.int .i64 E] 3)).cell? ⟨w10.heap.size, 0, none⟩ = some (.int .i64 E)) := by unfold Hid; simp
              have HB10 : Hid (Below wk.heap.size wk w10) := HBK8.out.trans (H10.out.mono HBK8.out.size)
              have HSS : Hid (wk.heap.size ≤ (w10.alloc (.cells #[.int .i64 E] 3)).heap.size) := by have := HB10.out.size; unfold Hid; simp; omega
              have HBA9 : Hid (Below wk.heap.size wk (w10.alloc (.cells #[.int .i64 E] 3))) := HB10.out.alloc HB10.out.size _
              have HLJ : Hid (lj.length ≤ 17592186044000) := by have := HLSJ.out.2; unfold Hid; omega
              clear HT8 HTA hlj HPTX HS19 HWF H10 HB8 HBK8
              go_wp2_with (at_builtin; refine wpList_append1 (w10.alloc (.cells #[.int .i64 E] 3)) wk.heap.size w10.heap.size E rfl _ _ rfl _ rfl lj HO9.out rfl HCC.out HLJ.out HSS.out ?_)
              intro v11 w11 ho11 _ _ hb11
              have HR11 : Hid (NuE wk.heap.size w11 v11 (ls F (j + 1)) ∧ Below wk.heap.size wk w11) := by
                unfold Hid NuE
                rw [HLSJ.out.1]
                refine ⟨?_, HBA9.out.trans hb11⟩
                rw [List.length_append, List.map_append]
                exact ho11
              clear ho11 hb11 HO9 HCC HSS HBA9
              go_wp2_with fail
              go_roundw
              case rel => exact ⟨j + 1, by omega, by go_num, HR11⟩
              case measure => simp [intOf]; omega
            · obtain rfl : j = 3 := by omega
              have hj32 : ¬ ((3 : Nat) : Int) < 3 := by omega
              have HTO := hid hT.out.1
              rw [← HTK.out] at HTO
              have HTB := hid hT.out.2
              obtain ⟨at5, ct5, rfl, _⟩ := NuE.lst HTO.out
              rw [HTKF.out.2]
              have HTO3 : Hid (NuE wk.heap.size wr (.slice at5 3 ct5) (TL k)) := by have := HTO.out; rwa [HTKF.out.2] at this
              have HGR : Hid (w4.grownBy wr (some r)) := gb_trans HGK.out (gb_below HTB.out)
              obtain ⟨_, q2, q3, q4, q5, q6, q7⟩ := HSQK.out
              have hsr : w4.heap.size ≤ wr.heap.size := HGR.out.size
              have hRr := HRSI.out.below HTB.out
              have hba : Below wr.heap.size wr (wr.alloc (.cells #[.slice at5 3 ct5] 23)) := (Below.refl _ _).alloc (Nat.le_refl _) _
              obtain ⟨v5, w5, hrun, hR5, hU5, hb5, hg5, hi5⟩ := RsI.push (b0 := wk.heap.size) (X := wr.heap.size) (hRr.below hba) (heap_alloc_new wr _) (own_step HTO3.out hba) hsk (fun g hg => (HRSI.out.drw.lt g hg).2) (by omega) (by have := hba.size; omega)
              have HG5 : Hid (w4.grownBy w5 (some r)) := gb_baseU (gb_trans HGR.out (gb_below hba)) hb5
              have HRC5 : Hid (RCh q w5 r (D k)) := ((HRK.out.below HTB.out).below hba).blocks hb5.size (hb5.block r hr4) hi5
              obtain ⟨at5', ct5', eu, hlt5⟩ := NuE.lst hU5
              rw [HTKF.out.2] at eu
              injection eu with eu1 eu2 eu3
              subst eu1 eu3
              have HSTX := HST.out w5 r ct5 at5 (TL k) (D k) q6 (by rw [HTKF.out.2]; omega) HTKF.out.1 HRC5.out hlt5
              rw [HTKF.out.2] at HSTX
              replace HSTX := hid HSTX
              have HRUN := hid hrun
              have HR5 := hid hR5
              have HDRX : Hid (∀ W, RCh q W r (digl q n (3 :: (D k ++ TL k))) → Calls Tryz.prog 63 #[.pointer (some ⟨r, 0, none⟩)] W fun e w' => e = .returned (.int .i64 (zat (D (k + 1)) 0)) ∧ RCn q w' r (D (k + 1)) W.heap.size ∧ W.grownBy w' (some r)) := fun W hW => by
                have h := HDR.out W r _ (dig_digl h3 h4 n (3 :: (D k ++ TL k))) hW
                rw [HSQK.out.1]
                exact h
              have HNXT : Hid (RS (k + 1) = RS k ++ [TL k] ∧ XS (k + 1) = XS k ++ [zat (D (k + 1)) 0] ∧ (XS k).length ≤ 12) := ⟨q3, q2, by omega⟩
              clear hrun hR5 hU5 hb5 hg5 hi5 hlt5 hba hRr q2 q3 q4 q5 q6 q7 HTO HTO3 hT HRSI HRK HRC5 HGR hsr
              go_wp2_with (at_builtin; refine wpList_append_runU rfl _ _ _ _ rfl _ _ _ rfl rfl HRUN.out ?_)
              clear HRUN
              go_wp2_with fail
              refine HSTX.out.mono ?_
              rintro e w6 ⟨rfl, hr6, hg6⟩
              have HG6 : Hid (w4.grownBy w6 (some r)) := gb_trans HG5.out hg6
              have HR6 := hid (HR5.out.grown hg6 hr4)
              have HDX := hid (HDRX.out w6 hr6)
              clear hr6 hg6 HSTX HDRX HR5 HG5
              go_wp2_with fail
              refine HDX.out.mono ?_
              rintro e w7 ⟨rfl, hr7, hg7⟩
              obtain ⟨y, hy⟩ : ∃ y, y = zat (D (k + 1)) 0 := ⟨_, rfl⟩
              rw [← hy] at HNXT ⊢
              have hba : Below w7.heap.size w7 (w7.alloc (.cells #[.int .i64 y] 3)) := (Below.refl _ _).alloc (Nat.le_refl _) _
              have hs6 : w4.heap.size ≤ w6.heap.size := HG6.out.size
              have hs7 : w6.heap.size ≤ w7.heap.size := hg7.size
              obtain ⟨v8, w8, hrun, hR8, hb8, hg8⟩ := RsI.draw (g := w7.heap.size) (y := y) ((HR6.out.grown hg7 hr4).below hba) (by simp) (by have := HNXT.out.2.2; omega) (by have := hba.size; omega)
              have HFIN8 : Hid (RsI w4.heap.size w8 v5 v8 (RS (k + 1)) (XS (k + 1)) ∧ RCh q w8 r (D (k + 1)) ∧ w4.grownBy w8 (some r)) := by
                unfold Hid
                rw [HNXT.out.1, HNXT.out.2.1]
                exact ⟨hR8, rch_app (hr7.belowU hba) HR6.out.drw hg8 hr4 (Nat.le_refl _), gb_baseU (gb_trans (gb_trans HG6.out hg7) (gb_below hba)) hb8⟩
              have HRUN := hid hrun
              clear hrun hR8 hb8 hg8 hr7 hg7 hba HDX HR6 HG6 hs6 hs7 hy
              go_wp2_with (at_builtin; refine wpList_append_runU rfl _ _ _ _ rfl _ _ _ rfl rfl HRUN.out ?_)
              clear HRUN
              go_wp2_with fail
              go_roundw
              case rel => exact ⟨k + 1, by omega, by go_num, HFIN8⟩
              case measure => simp [intOf]; omega
        · have hkt2 : ¬ (k : Int) < 2 * (m : Int) := by omega
          have hkm : k = 2 * m := by omega
          rw [← hkm] at HFIN
          obtain ⟨q1, q2, q3, q4, q5, q6, q7⟩ := HSQ.out k
          obtain ⟨ad, cd, rfl, hla⟩ := NuE.lst HRSI.out.drw
          rw [q4]
          have hcapd : k ≤ cd := by have := hla.room; omega
          obtain ⟨XX, hXX⟩ : ∃ XX, XX = XS k := ⟨_, rfl⟩
          have hXl : XX.length = k := by rw [hXX]; exact q4
          have hXf : Fits XX := by rw [hXX]; exact q7
          have htl : (XX.take m).length = m := by rw [List.length_take, hXl]; omega
          have hdl : (XX.drop m).length = m := by rw [List.length_drop, hXl]; omega
          rw [← hXX] at HFIN hla
          have HXX := hid hXX
          obtain ⟨AY, hAY⟩ : ∃ AY, AY = adS ad cd m := ⟨_, rfl⟩
          have hADS : (if cd = m then ad else ad.map fun x => x.add m) = AY := hAY.symm
          have HROW : Hid (∀ W, Lst W.heap.size W ad cd XX → Lst W.heap.size W ad cd (XX.take m) ∧ RowB W.heap.size W AY (XX.drop m)) := fun W h => ⟨⟨take_row h.row, by rw [htl]; omega, h.nil⟩, by rw [hAY]; exact adS_row h.row h.room⟩
          have HS25 : Hid (∀ W, wk.grownBy W (some r) → W.cell? ⟨bv, ov + ly, none⟩ = some (.slice aV tb.length cV)) := fun W hW => (HWW.out W (gb_trans HGK.out hW)).2.2.1.1
          have HWG : Hid (Below wk.heap.size wk wk.drew) := (Below.refl _ _).drew
          obtain ⟨LN, hLN⟩ : ∃ LN, LN = lnz q tb (XX.take m) (XX.drop m) m := ⟨_, rfl⟩
          have HLNX : Hid (Calls Tryz.prog 89 #[.int .i64 (q : Int), .slice aV tb.length cV, .slice ad m cd, .slice AY m (cd - m)] wk.drew fun e w' => ∃ v, e = .returned v ∧ NuE wk.drew.heap.size w' v LN ∧ Below wk.drew.heap.size wk.drew w') := by
            obtain ⟨l1, l2⟩ := HROW.out wk.drew (hla.below (Below.refl _ _).drew)
            rw [hLN]
            exact HLNL.out wk.drew cV cd (cd - m) aV ad AY (XX.take m) (XX.drop m) htl hdl (fits_take m hXf) (fits_drop m hXf) (HWW.out _ (gb_trans HGK.out (gb_below HWG.out))).2.2.1.2 l1 l2
          have HLNF : Hid (Fits LN ∧ LN.length ≤ 17592186043904) := by
            rw [hLN]
            exact ⟨lnz_fits h3 h4 _ _ _ _, by rw [lnz_len]; omega⟩
          rw [← hLN] at HFIN
          obtain ⟨DD, hDD⟩ : ∃ DD, DD = gan q n (D k) LN := ⟨_, rfl⟩
          rw [← hDD] at HFIN
          obtain ⟨tt, htt⟩ : ∃ tt, tt = zat DD 0 := ⟨_, rfl⟩
          rw [← htt] at HFIN
          have HDDB : Hid (i64B tt) := by rw [htt, hDD]; exact (dig_gan h3 h4 n (D k) LN).2.all 0
          have HDRX : Hid (∀ W, RCh q W r (digl q n (3 :: (D k ++ LN))) → Calls Tryz.prog 63 #[.pointer (some ⟨r, 0, none⟩)] W fun e w' => e = .returned (.int .i64 tt) ∧ RCh q w' r DD ∧ W.grownBy w' (some r)) := fun W hW => by
            rw [htt, hDD]
            exact (HDR.out W r _ (dig_digl h3 h4 _ _) hW).mono (fun _ _ h => ⟨h.1, h.2.1.rch, h.2.2⟩)
          have HSTY : Hid (∀ W cl al, RCh q W r (D k) → Lst W.heap.size W al cl LN → Calls Tryz.prog 62 #[.pointer (some ⟨r, 0, none⟩), .int .i64 3, .slice al LN.length cl] W fun e w' => e = .returned (.tuple #[]) ∧ RCh q w' r (digl q n (3 :: (D k ++ LN))) ∧ W.grownBy w' (some r)) := fun W cl al hr hla => HST.out W r cl al LN (D k) q6 HLNF.out.2 HLNF.out.1 hr hla
          have HONY : Hid (∀ W, Lst W.heap.size W ad cd XX → Calls Tryz.prog 90 #[.int .i64 (q : Int), .slice ad m cd, .slice AY m (cd - m), .int .i64 tt] W fun e w' => ∃ a' c', e = .returned (.slice a' m c') ∧ NumL w' a' c' (onl q (XX.take m) (XX.drop m) tt) ∧ Below W.heap.size W w') := fun W hl => by
            obtain ⟨l1, l2⟩ := HROW.out W hl
            have h := ron_num q cd (cd - m) ad AY (XX.take m) (XX.drop m) tt W h3 h4 (by omega) (by omega) (fits_take m hXf) (fits_drop m hXf) HDDB.out l1.row l2
            rw [htl, hdl] at h
            exact h
          have HOL : Hid ((onl q (XX.take m) (XX.drop m) tt).length = m) := by unfold Hid; rw [onl_len, htl]
          obtain ⟨nV, hnV⟩ : ∃ nV, nV = tb.length := ⟨_, rfl⟩
          rw [← hnV] at HS25 HLNX
          have HRSK := HRSI
          rw [q4, ← hXX] at HRSK
          have hlyv : (ly : Int) < (nv : Int) := by have := HNV.out; omega
          have hcm : (m : Int) ≤ (cd : Int) := by omega
          have hmz : (0 : Int) ≤ (m : Int) := by omega
          have hcm2 : (m : Int) ≤ (k : Int) := by omega
          have hcm3 : m ≤ k := by omega
          have hcm4 : k ≤ cd := hcapd
          have hkm2 : k - m = m := by omega
          have HKM := hid hkm
          clear hJ q1 q2 q3 q4 q5 q6 q7 hla hXX hXl hXf htl hdl hAY hLN hDD htt hnV HRSI hkm HROW HSQ HTLF HLNL
          go_wp2_with fail
          refine wp_region_held_drew (S := fun W => W.cell? ⟨bv, ov + ly, none⟩ = some (.slice aV nV cV) ∧ True) (by kernel_rfl) (⟨HS25.out _ (gb_below HWG.out), trivial⟩) (fun hHeld => ?_)
          refine wpAnyH_takeU (i := 0) (v := .int .i64 (q : Int)) rfl (by kernel_rfl) (by kernel_rfl) (by kernel_rfl) (fun _ _ _ h => h) (by rfl) (fun W hC => by go_simp) hHeld ?_
          simp only [Act.put, List.setIfInBounds_toArray, List.set_cons_zero, List.set_cons_succ]
          refine wpAnyH_takeU (i := 1) (v := .slice (some ⟨bv, ov, none⟩) nv cv) rfl (by kernel_rfl) (by kernel_rfl) (by kernel_rfl) (fun _ _ _ h => h) (by rfl) (fun W hC => by go_simp) hHeld ?_
          simp only [Act.put, List.setIfInBounds_toArray, List.set_cons_zero, List.set_cons_succ]
          refine wpAnyH_takeU (i := 2) (v := .int .i64 (ly : Int)) rfl (by kernel_rfl) (by kernel_rfl) (by kernel_rfl) (fun _ _ _ h => h) (by rfl) (fun W hC => by go_simp) hHeld ?_
          simp only [Act.put, List.setIfInBounds_toArray, List.set_cons_zero, List.set_cons_succ]
          refine wpAnyH_takeU (i := 3) (v := .pointer (some ⟨bv, ov + ly, none⟩)) rfl (by kernel_rfl) (by kernel_rfl) (by kernel_rfl) (fun _ _ _ h => h) (by rfl) (fun W hC => by go_simp) hHeld ?_
          simp only [Act.put, List.setIfInBounds_toArray, List.set_cons_zero, List.set_cons_succ]
          refine wpAnyH_takeU (i := 4) (v := .slice aV nV cV) rfl (by kernel_rfl) (by kernel_rfl) (by kernel_rfl) (fun _ _ _ h => h) (by rfl) (fun W hC => by (obtain ⟨x1, x2⟩ := hC); go_simp) hHeld ?_
          simp only [Act.put, List.setIfInBounds_toArray, List.set_cons_zero, List.set_cons_succ]
          refine wpAnyH_takeU (i := 5) (v := .slice ad k cd) rfl (by kernel_rfl) (by kernel_rfl) (by kernel_rfl) (fun _ _ _ h => h) (by rfl) (fun W hC => by go_simp) hHeld ?_
          simp only [Act.put, List.setIfInBounds_toArray, List.set_cons_zero, List.set_cons_succ]
          refine wpAnyH_takeU (i := 6) (v := .int .i64 (m : Int)) rfl (by kernel_rfl) (by kernel_rfl) (by kernel_rfl) (fun _ _ _ h => h) (by rfl) (fun W hC => by go_simp) hHeld ?_
          simp only [Act.put, List.setIfInBounds_toArray, List.set_cons_zero, List.set_cons_succ]
          refine wpAnyH_takeU (i := 7) (v := .slice ad m cd) rfl (by kernel_rfl) (by kernel_rfl) (by kernel_rfl) (fun _ _ _ h => h) (by rfl) (fun W hC => by go_simp) hHeld ?_
          simp only [Act.put, List.setIfInBounds_toArray, List.set_cons_zero, List.set_cons_succ]
          refine wpAnyH_takeU (i := 8) (v := .slice ad k cd) rfl (by kernel_rfl) (by kernel_rfl) (by kernel_rfl) (fun _ _ _ h => h) (by rfl) (fun W hC => by go_simp) hHeld ?_
          simp only [Act.put, List.setIfInBounds_toArray, List.set_cons_zero, List.set_cons_succ]
          refine wpAnyH_takeU (i := 9) (v := .int .i64 (m : Int)) rfl (by kernel_rfl) (by kernel_rfl) (by kernel_rfl) (fun _ _ _ h => h) (by rfl) (fun W hC => by go_simp) hHeld ?_
          simp only [Act.put, List.setIfInBounds_toArray, List.set_cons_zero, List.set_cons_succ]
          refine wpAnyH_takeU (i := 10) (v := .slice AY m (cd - m)) rfl (by kernel_rfl) (by kernel_rfl) (by kernel_rfl) (fun _ _ _ h => h) (by rfl) (fun W hC => by go_simp) hHeld ?_
          simp only [Act.put, List.setIfInBounds_toArray, List.set_cons_zero, List.set_cons_succ]
          refine wpAnyH_ready (rs := [11]) (by kernel_rfl) (by simp) ?_
          refine AllReadyH.consU rfl (fun K' hK' => ?_) AllReadyH.nil
          go_simp
          refine (HLNX.out).mono ?_
          rintro e w5 ⟨lnv, rfl, hn5, hb5⟩
          have H5 : Hid (Below wk.heap.size wk w5) := HWG.out.trans (hb5.mono HWG.out.size)
          have HN5 := hid hn5
          clear hn5 hb5
          refine hK'.out _ _ (⟨HS25.out _ (gb_below H5.out), trivial⟩) (fun hHeld => ?_)
          clear hK' K'
          refine wpAnyH_takeU (i := 12) (v := lnv) rfl (by kernel_rfl) (by kernel_rfl) (by kernel_rfl) (fun _ _ _ h => h) (by rfl) (fun W hC => by go_simp) hHeld ?_
          simp only [Act.put, List.setIfInBounds_toArray, List.set_cons_zero, List.set_cons_succ]
          refine wpAnyH_done (by kernel_rfl) ?_ _
          obtain ⟨al, cl, rfl, hll⟩ := NuE.lst HN5.out
          have HR5 : Hid (RCh q w5 r (D k)) := HRK.out.below H5.out
          have HG5 : Hid (w4.grownBy w5 (some r)) := gb_trans HGK.out (gb_below H5.out)
          have HRS5 := hid (HRSK.out.below H5.out)
          have HSTX := hid (HSTY.out w5 cl al HR5.out hll)
          have hrk : r < wk.drew.heap.size := by have e : wk.drew.heap.size = wk.heap.size := rfl; omega
          clear hll HR5 HRSK HRK HLNX HS25 HWG HSTY HGK
          go_wp2_with fail
          refine HSTX.out.mono ?_
          rintro e w6 ⟨rfl, hr6, hg6⟩
          have HG6 : Hid (w4.grownBy w6 (some r)) := gb_trans HG5.out hg6
          have HRS6 := hid (HRS5.out.grown hg6 hr4)
          have HN6 : Hid (NuE wk.drew.heap.size w6 (.slice al LN.length cl) LN) := own_gb HN5.out hg6 hrk
          have HDX := hid (HDRX.out w6 hr6)
          clear hr6 hg6 HSTX HDRX HRS5 HG5 HN5 H5
          go_wp2_with fail
          refine HDX.out.mono ?_
          rintro e w7 ⟨rfl, hr7, hg7⟩
          have HG7 : Hid (w4.grownBy w7 (some r)) := gb_trans HG6.out hg7
          have HRS7 := hid (HRS6.out.grown hg7 hr4)
          have HN7 : Hid (NuE wk.drew.heap.size w7 (.slice al LN.length cl) LN) := own_gb HN6.out hg7 hrk
          have HR7 := hid hr7
          have HWH : Hid (Below w7.heap.size w7 w7.drew) := (Below.refl _ _).drew
          obtain ⟨ad', cd', eu, hla⟩ := NuE.lst HRS7.out.drw
          injection eu with eu1 eu2 eu3
          subst eu1 eu3
          have HONX := hid (HONY.out w7.drew (hla.below HWH.out))
          clear hr7 hg7 HDX HRS6 HG6 HN6 hla HONY eu2
          go_wp2_with fail
          refine wp_region_held_drew (S := fun _ => True) (by kernel_rfl) (trivial) (fun hHeld => ?_)
          refine wpAnyH_takeU (i := 0) (v := .int .i64 (q : Int)) rfl (by kernel_rfl) (by kernel_rfl) (by kernel_rfl) (fun _ _ _ h => h) (by rfl) (fun W hC => by go_simp) hHeld ?_
          simp only [Act.put, List.setIfInBounds_toArray, List.set_cons_zero, List.set_cons_succ]
          refine wpAnyH_takeU (i := 1) (v := .slice ad k cd) rfl (by kernel_rfl) (by kernel_rfl) (by kernel_rfl) (fun _ _ _ h => h) (by rfl) (fun W hC => by go_simp) hHeld ?_
          simp only [Act.put, List.setIfInBounds_toArray, List.set_cons_zero, List.set_cons_succ]
          refine wpAnyH_takeU (i := 2) (v := .int .i64 (m : Int)) rfl (by kernel_rfl) (by kernel_rfl) (by kernel_rfl) (fun _ _ _ h => h) (by rfl) (fun W hC => by go_simp) hHeld ?_
          simp only [Act.put, List.setIfInBounds_toArray, List.set_cons_zero, List.set_cons_succ]
          refine wpAnyH_takeU (i := 3) (v := .slice ad m cd) rfl (by kernel_rfl) (by kernel_rfl) (by kernel_rfl) (fun _ _ _ h => h) (by rfl) (fun W hC => by go_simp) hHeld ?_
          simp only [Act.put, List.setIfInBounds_toArray, List.set_cons_zero, List.set_cons_succ]
          refine wpAnyH_takeU (i := 4) (v := .slice ad k cd) rfl (by kernel_rfl) (by kernel_rfl) (by kernel_rfl) (fun _ _ _ h => h) (by rfl) (fun W hC => by go_simp) hHeld ?_
          simp only [Act.put, List.setIfInBounds_toArray, List.set_cons_zero, List.set_cons_succ]
          refine wpAnyH_takeU (i := 5) (v := .int .i64 (m : Int)) rfl (by kernel_rfl) (by kernel_rfl) (by kernel_rfl) (fun _ _ _ h => h) (by rfl) (fun W hC => by go_simp) hHeld ?_
          simp only [Act.put, List.setIfInBounds_toArray, List.set_cons_zero, List.set_cons_succ]
          refine wpAnyH_takeU (i := 6) (v := .slice AY m (cd - m)) rfl (by kernel_rfl) (by kernel_rfl) (by kernel_rfl) (fun _ _ _ h => h) (by rfl) (fun W hC => by go_simp) hHeld ?_
          simp only [Act.put, List.setIfInBounds_toArray, List.set_cons_zero, List.set_cons_succ]
          refine wpAnyH_takeU (i := 7) (v := .int .i64 tt) rfl (by kernel_rfl) (by kernel_rfl) (by kernel_rfl) (fun _ _ _ h => h) (by rfl) (fun W hC => by go_simp) hHeld ?_
          simp only [Act.put, List.setIfInBounds_toArray, List.set_cons_zero, List.set_cons_succ]
          refine wpAnyH_ready (rs := [8]) (by kernel_rfl) (by simp) ?_
          refine AllReadyH.consU rfl (fun K' hK' => ?_) AllReadyH.nil
          go_simp
          refine (HONX.out).mono ?_
          rintro e w8 ⟨a', c', rfl, hn8, hb8⟩
          have H8 : Hid (Below w7.heap.size w7 w8) := HWH.out.trans (hb8.mono HWH.out.size)
          have HN8 := hid hn8
          clear hn8 hb8
          refine hK'.out _ _ (trivial) (fun hHeld => ?_)
          clear hK' K'
          refine wpAnyH_takeU (i := 9) (v := .slice a' m c') rfl (by kernel_rfl) (by kernel_rfl) (by kernel_rfl) (fun _ _ _ h => h) (by rfl) (fun W hC => by go_simp) hHeld ?_
          simp only [Act.put, List.setIfInBounds_toArray, List.set_cons_zero, List.set_cons_succ]
          refine wpAnyH_done (by kernel_rfl) ?_ _
          have HG8 : Hid (w4.grownBy w8 (some r)) := gb_trans HG7.out (gb_below H8.out)
          have HRS8 := hid (HRS7.out.below H8.out)
          obtain ⟨arv, nrv, crv, rfl⟩ := HRS8.out.slc
          have HNU8 : Hid (NuE wk.drew.heap.size w8 (.slice al LN.length cl) LN) := own_step HN7.out H8.out
          have HR8 : Hid (RCh q w8 r DD) := HR7.out.below H8.out
          have HO8 : Hid (w8.rowIs O 74 2 (dub (.slice aR i cR) (.slice aS i cS))) := World.rowIs.of_block HO4'.out (gb_blk HG8.out hO4 (by omega))
          have hrB : r < W4.heap.size := by omega
          have HM8 : Hid (MkR W4.heap.size w8 (.slice aR i cR) (.slice aS i cS) (mRs q n wide lys inputs i) (mLs q n wide lys inputs i)) := HM4.out.grown HG8.out hrB (HKJ.out w8 HG8.out)
          obtain ⟨vl, hl1, _⟩ := HM4.out.lns
          have hs8 : w4.heap.size ≤ w8.heap.size := HG8.out.size
          have hsk2 : W4.heap.size ≤ wk.drew.heap.size := by have e : wk.drew.heap.size = wk.heap.size := rfl; omega
          obtain ⟨a9, c9, w9, a10, c10, w10, hrun1, hO9, ⟨Wx, hWx, hOWx, hrun2⟩, hO10, hO11, hM11, hz11, hr11, hb11, hs11⟩ := MkR.both (O := O) (NR := i) (NL := i) HM8.out HO8.out (by omega) hrO (HRS8.out.lyR hsz4 (fun g hg => (hl1.lt g hg).2)) (HNU8.out.mono hsk2) HN8.out HR8.out (HML.out i).1 (HML.out i).2 (by omega) (by omega) (by omega)
          have HRUN1 := hid hrun1
          have HOUT : Hid (∃ aR cR aS cS, (w10.setCell ⟨O, 1, none⟩ (.slice a10 (i + 1) c10)).rowIs O 74 2 (dub (.slice aR (i + 1) cR) (.slice aS (i + 1) cS)) ∧ MkR W4.heap.size (w10.setCell ⟨O, 1, none⟩ (.slice a10 (i + 1) c10)) (.slice aR (i + 1) cR) (.slice aS (i + 1) cS) (mRs q n wide lys inputs (i + 1)) (mLs q n wide lys inputs (i + 1)) ∧ NumL (w10.setCell ⟨O, 1, none⟩ (.slice a10 (i + 1) c10)) a' c' (S (i + 1)).z ∧ RCh q (w10.setCell ⟨O, 1, none⟩ (.slice a10 (i + 1) c10)) r (S (i + 1)).D ∧ Below w2.heap.size w2 (w10.setCell ⟨O, 1, none⟩ (.slice a10 (i + 1) c10)) ∧ W4.heap.size ≤ (w10.setCell ⟨O, 1, none⟩ (.slice a10 (i + 1) c10)).heap.size) := by
            unfold Hid
            obtain ⟨f1, f2, f3, f4⟩ := HFIN.out
            rw [f1, f2, f3, f4]
            exact ⟨a9, c9, a10, c10, hO11, hM11, hz11, hr11, (HRC.out w8 HG8.out).trans (hb11.mono HO2.out), hs11⟩
          have HZL : Hid ((S (i + 1)).z.length = m) := by unfold Hid; rw [HFIN.out.2.2.2]; exact HOL.out
          subst hWx
          have HRUN2 := hid hrun2
          have HO9 := hid hO9
          have HOW := hid hOWx
          have HO10 := hid hO10
          have k0 := HO8.out.cell (i := 0) (by decide)
          have k1 := HO8.out.cell (i := 1) (by decide)
          simp only [dub] at k0 k1
          clear hrun1 hrun2 hO9 hOWx hO10 hO11 hM11 hz11 hr11 hb11 hs11 HFIN HM8 HRS8 HNU8 HR8 HN8 HRS7 HN7 HR7 hl1 H8 HG7 HONX HWH
          have r0 := HO9.out.cell (i := 0) (by decide)
          have r1 := HO9.out.cell (i := 1) (by decide)
          have y0 := HO9.out.frozen 0
          have y1 := HO9.out.frozen 1
          have s0 := HOW.out.cell (i := 0) (by decide)
          have s1 := HOW.out.cell (i := 1) (by decide)
          have t0 := HO10.out.cell (i := 0) (by decide)
          have t1 := HO10.out.cell (i := 1) (by decide)
          have x0 := HO10.out.frozen 0
          have x1 := HO10.out.frozen 1
          simp only [dub] at r0 r1 s0 s1 t0 t1
          go_wp2_with (at_builtin; first | refine wpList_append_runU rfl _ _ _ _ rfl _ _ _ rfl rfl HRUN1.out ?_ | refine wpList_append_runU rfl _ _ _ _ rfl _ _ _ rfl rfl HRUN2.out ?_)
          go_roundw
          case rel => exact ⟨i + 1, by omega, ⟨(ly : Int) - 1, by go_num, by have := HXE.out; unfold Hid; omega⟩, a', c', by rw [HZL.out], HOUT⟩
          case measure => simp [intOf]
    · have hin : i = nL := by omega
      subst hin
      obtain rfl : X = -1 := by have := hX.out; omega
      have hge : ¬ (0 : Int) ≤ -1 := by decide
      have HPI : Hid (wr.rowIs O 74 2 (dub (.slice aR i cR) (.slice aS i cS))) := hrow
      have HMI : Hid (MkR W4.heap.size wr (.slice aR i cR) (.slice aS i cS) (mRs q n wide lys inputs i) (mLs q n wide lys inputs i)) := hM
      have HBE : Hid (Below w.heap.size w wr ∧ Below W1.heap.size W1 wr) := ⟨HBW.out _ (HB2.out.trans (hbi.mono HB2.out.size)), HB2.out.trans (hbi.mono HB2.out.size)⟩
      have HRR := hid (HRS.out wr HBE.out.2)
      have r0 := HRR.out.cell (i := 0) (by decide)
      have r1 := HRR.out.cell (i := 1) (by decide)
      have y0 := HRR.out.frozen 0
      have y1 := HRR.out.frozen 1
      have k0 := HPI.out.cell (i := 0) (by decide)
      have k1 := HPI.out.cell (i := 1) (by decide)
      simp only [dub] at r0 r1 k0 k1
      clear hI hrow hM hzi hri hbi hsz hX
      go_wp2_with fail
      (try simp only [Exit.inBlock, Exit.then])
      refine bodyPost_ret (results_cell_row rfl _ _ R 74 #[.slice aR i cR, .slice aS i cS] (0, 0) _ rfl (dub_arr (dub_set1 (dub_set0 HRR.out (.slice aR i cR)) (.slice aS i cS))) Tryz.underlying74 rfl (by kernel_rfl)) rfl ?_
      have hgR : wr.grownBy ((wr.setCell ⟨R, 0, none⟩ (.slice aR i cR)).setCell ⟨R, 1, none⟩ (.slice aS i cS)) (some R) := gb_setCell (gb_setCell (gb_refl _ _) 0 _) 1 _
      have hRl : R < W4.heap.size := by have h1 := HZ1.out.2.1; have h2 := HB2.out.size; have h3 := HB4.out.size; omega
      exact ⟨aR, cR, aS, cS, rfl, (HMI.out.grown hgR hRl (KJ.other hgR (dub_arr HRR.out) (by decide) (by decide))).mono (by have h1 := HZ1.out.1; have h2 := HB2.out.size; have h3 := HB4.out.size; omega), HBE.out.1.trans (gb_to hgR HZ1.out.2.2 HBE.out.1.size)⟩

end Go.Proofs.YtpgnabmkfkcogaaGreatDoor
