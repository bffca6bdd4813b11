/- The reference of package gates: Check, where its sizes are right. -/
import Derived.Test.YtaapbopcfpihbabGreatDoorGuH
namespace Go.Proofs.YtaapbopcfpihbabGreatDoor
open Go.RowKit

theorem enz_ref (q : Nat) (gs : List GatZ) (z x y line : List Int) (m : Nat) : (wrz q gs 0 z x y * ((zat line 0 + zat line (min 1 m)) % (q : Int)) % (q : Int) + wrz q gs 1 z x y * (zat line 0 * zat line (min 1 m) % (q : Int)) % (q : Int)) % (q : Int) = enz q gs z x y line m := by
  unfold enz jnz
  simp
set_option maxRecDepth 100000 in
set_option maxHeartbeats 8000000 in
theorem rcheck13_yes (q n cL co cR cS : Nat) (wide : Int) (aL ao aR aS : Option Addr) (lys : List (List GatZ)) (outs : List Int) (Rs : List (List (List Int))) (Ls : List (List Int)) (w : World) (h23 : 23 ≤ q) (h4 : q ≤ 2147483647) (hpn : Spo.PowIs q n) (hB : CirB lys) (hl : LstGG w.heap.size w aL cL lys) (lo : Lst w.heap.size w ao co outs) (fo : Fits outs) (hRs : LstRR w.heap.size w aR cR Rs) (hLs : LstR w.heap.size w aS cS Ls) (hLB : LayB Rs Ls) (hGs : GsO wide lys outs Rs Ls) :
    Calls Tryz.prog 7 #[.int .i64 (q : Int), .agg #[.int .i64 wide, .slice aL lys.length cL], .slice ao outs.length co, .agg #[.slice aR Rs.length cR, .slice aS Ls.length cS]] w fun e w' => (GcO q n wide lys outs Rs Ls → ∃ a' c', e = .returned (.tuple #[.slice a' (gst q n wide lys Rs Ls (gs0 q n wide lys outs) lys.length).z.length c', .int .i64 (gst q n wide lys Rs Ls (gs0 q n wide lys outs) lys.length).c, .bool true]) ∧ NumL w' a' c' (gst q n wide lys Rs Ls (gs0 q n wide lys outs) lys.length).z) ∧ (¬ GcO q n wide lys outs Rs Ls → e = .returned (.tuple #[.slice none 0 0, .int .i64 0, .bool false])) ∧ Below w.heap.size w w' := by
  have h3 : 3 ≤ q := by omega
  have h5 : 5 ≤ q := by omega
  obtain ⟨hF, hol, hRl, hLl⟩ := hGs
  obtain ⟨hS, hGC⟩ := flt_zero hF
  have h8 := hS.2.1
  have hout := outs_len hS hol
  have hv6 := (hS.bn (Nat.le_refl lys.length)).2
  obtain ⟨nL, hnL⟩ : ∃ nL, nL = lys.length := ⟨_, rfl⟩
  obtain ⟨no, hno⟩ : ∃ no, no = outs.length := ⟨_, rfl⟩
  obtain ⟨nR, hnR⟩ : ∃ nR, nR = Rs.length := ⟨_, rfl⟩
  obtain ⟨nS, hnS⟩ : ∃ nS, nS = Ls.length := ⟨_, rfl⟩
  obtain ⟨W1, hW1⟩ : ∃ W1, W1 = (w.alloc (.cells #[.int .i64 wide, .slice aL nL cL] 24)).alloc (.cells #[.slice aR nR cR, .slice aS nS cS] 29) := ⟨_, rfl⟩
  obtain ⟨G, hG⟩ : ∃ G, G = w.heap.size := ⟨_, rfl⟩
  obtain ⟨L, hL⟩ : ∃ L, L = w.heap.size + 1 := ⟨_, rfl⟩
  have hb1 : Below w.heap.size w W1 := by rw [hW1]; exact ((Below.refl _ _).alloc (Nat.le_refl _) _).alloc (by simp) _
  have hz1 : W1.heap.size = w.heap.size + 2 := by rw [hW1]; simp
  have hs1 : W1.heap[G]? = some (.cells #[.int .i64 wide, .slice aL nL cL] 24 (0, 0)) := by
    rw [hW1, hG]
    exact (hao _ _ (by simp)).trans (heap_alloc_new w _)
  have hs2 : W1.heap[L]? = some (.cells #[.slice aR nR cR, .slice aS nS cS] 29 (0, 0)) := by
    rw [hW1, hL]
    have := heap_alloc_new (w.alloc (.cells #[.int .i64 wide, .slice aL nL cL] 24)) (.cells #[.slice aR nR cR, .slice aS nS cS] 29)
    simpa using this
  have HCC : Hid (∀ W, Below W1.heap.size W1 W → (W.cell? ⟨G, 0, none⟩ = some (.int .i64 wide) ∧ W.cell? ⟨G, 1, none⟩ = some (.slice aL nL cL)) ∧ W.cell? ⟨L, 0, none⟩ = some (.slice aR nR cR) ∧ W.cell? ⟨L, 1, none⟩ = some (.slice aS nS cS)) := fun W hW => by
    have e1 := (hW.block G (by omega)).trans hs1
    have e2 := (hW.block L (by omega)).trans hs2
    exact ⟨⟨by simp [World.cell?, e1], by simp [World.cell?, e1]⟩, by simp [World.cell?, e2], by simp [World.cell?, e2]⟩
  have HBW : Hid (∀ W, Below W1.heap.size W1 W → Below w.heap.size w W) := fun W hW => hb1.trans (hW.mono (by omega))
  have HFO : Hid (Calls Tryz.prog 21 #[.agg #[.int .i64 wide, .slice aL nL cL]] W1 fun e w' => e = .returned (.int .i64 (flt wide lys)) ∧ Below W1.heap.size W1 w') := by
    have h := rfault13_any cL wide aL lys W1 hB (hl.step hb1)
    rw [← hnL] at h
    exact h
  rw [hF] at HFO
  have HW1 := hid hW1
  have HGE := hid hG
  have HLE := hid hL
  obtain ⟨S, hSS⟩ : ∃ S : Nat → GSt, S = gst q n wide lys Rs Ls (gs0 q n wide lys outs) := ⟨_, rfl⟩
  have HOK : Hid (∀ i, i ≤ nL → GsI wide lys i (S i)) := fun i hi => by rw [hSS]; exact gst_ok h3 h4 n wide lys outs Rs Ls i (by omega)
  have HGO : Hid (GcO q n wide lys outs Rs Ls ↔ ∀ i, i < nL → GlO q n (bnn wide lys (nL - 1 - i)) (lyt lys (nL - 1 - i)) (rrt Rs i) (rat Ls i) (S i)) := by
    rw [hSS, hnL]
    exact ⟨fun h => h.2, fun h => ⟨⟨hF, hol, hRl, hLl⟩, h⟩⟩
  have HNX : Hid (∀ i, S (i + 1) = gnx q n (bnn wide lys (nL - 1 - i)) (rrt Rs i) (rat Ls i) (S i)) := fun i => by rw [hSS, hnL]; rfl
  have HBG : Hid (∀ W, Below w.heap.size w W → Calls Tryz.prog 22 #[.int .i64 (q : Int), .agg #[.int .i64 wide, .slice aL nL cL], .slice ao no co] W fun e w' => ∃ r az cz, e = .returned (.tuple #[.pointer (some ⟨r, 0, none⟩), .slice az (S 0).z.length cz]) ∧ W.heap.size ≤ r ∧ RCh q w' r (S 0).D ∧ NumL w' az cz (S 0).z ∧ Below W.heap.size W w') := fun W hW => by
    have h := rbegin13_any q n (bnn wide lys lys.length) cL co wide aL ao lys outs W h5 h4 hpn hS hB (hl.step hW) hv6 hout fo ((lo.below hW).mono hW.size)
    rw [← hnL, ← hno] at h
    have e0 : (S 0).z.length = bnn wide lys nL := by have := (HOK.out 0 (Nat.zero_le _)).len; rw [← hnL] at this; exact this
    rw [e0, hSS]
    rw [show gst q n wide lys Rs Ls (gs0 q n wide lys outs) 0 = gs0 q n wide lys outs from rfl]
    unfold gs0
    rw [← hnL]
    exact h
  have HEX : Hid (∀ W az cz, Below w.heap.size w W → NumL W az cz (S 0).z → Calls Tryz.prog 23 #[.int .i64 (q : Int), .slice ao no co, .slice az (S 0).z.length cz] W fun e w' => e = .returned (.int .i64 (S 0).c) ∧ w' = W) := fun W az cz hW hz => by
    have hk := (HOK.out 0 (Nat.zero_le _))
    have h := rextend_any q (bnn wide lys lys.length) co cz ao az outs (S 0).z W _ _ h3 h4 hk.len (by omega) hout fo hk.fit (lo.below hW).row hz.1.row
    have e1 : (S 0).z.length = bnn wide lys lys.length := hk.len
    rw [← hno] at h
    have e0 : (S 0).c = Sum.ext (zat outs) (zat (S 0).z) (bnn wide lys lys.length) % (q : Int) := by rw [hSS]; rfl
    rw [e0, e1]
    exact h
  have HBEN : Hid (∀ W ly, Below w.heap.size w W → ly < nL → Calls Tryz.prog 24 #[.agg #[.int .i64 wide, .slice aL nL cL], .int .i64 (ly : Int)] W fun e w' => e = .returned (.int .i64 (bnn wide lys ly : Int)) ∧ Below W.heap.size W w') := fun W ly hW hly => by
    have h := rbeneath_any ly cL wide aL lys W hB (hl.step hW) (by omega)
    rw [(hS.bn (show ly ≤ lys.length by omega)).1, ← hnL] at h
    exact h
  have HRR : Hid (∀ i, i < nL → ∃ bR oR ar cr, aR = some ⟨bR, oR, none⟩ ∧ ∀ W, Below w.heap.size w W → W.cell? ⟨bR, oR + i, none⟩ = some (.slice ar (rrt Rs i).length cr) ∧ LstR w.heap.size W ar cr (rrt Rs i)) := fun i hi => by
    obtain ⟨b1, o1, ak, ck, e1, e2, e3, e4⟩ := hRs.row i (by omega)
    exact ⟨b1, o1, ak, ck, e1, fun W hW => ⟨(hW.cell (p := ⟨b1, o1 + i, none⟩) e2).trans e3, e4.below hW⟩⟩
  have HLL : Hid (∀ i, i < nL → ∃ bS oS al cl, aS = some ⟨bS, oS, none⟩ ∧ ∀ W, Below w.heap.size w W → W.cell? ⟨bS, oS + i, none⟩ = some (.slice al (rat Ls i).length cl) ∧ Lst w.heap.size W al cl (rat Ls i)) := fun i hi => by
    obtain ⟨b1, o1, ak, ck, e1, e2, e3, e4⟩ := hLs.row i (by omega)
    exact ⟨b1, o1, ak, ck, e1, fun W hW => ⟨(hW.cell (p := ⟨b1, o1 + i, none⟩) e2).trans e3, e4.below hW⟩⟩
  have HGG : Hid (∀ ly, ly < nL → ∃ b1 o1 ag cg, aL = some ⟨b1, o1, none⟩ ∧ ∀ W, Below w.heap.size w W → W.cell? ⟨b1, o1 + ly, none⟩ = some (.slice ag (lyt lys ly).length cg) ∧ LstG w.heap.size W ag cg (lyt lys ly)) := fun i hi => by
    obtain ⟨b1, o1, ak, ck, e1, e2, e3, e4⟩ := hl.row i (by omega)
    exact ⟨b1, o1, ak, ck, e1, fun W hW => ⟨(hW.cell (p := ⟨b1, o1 + i, none⟩) e2).trans e3, e4.below hW⟩⟩
  have HST : Hid (∀ (W : World) (r cap : Nat) (a : Option Addr) (l D : List Int), Dig D → l.length ≤ 17592186043904 → Fits l → RCh q W r D → Lst W.heap.size W a cap l → Calls Tryz.prog 26 #[.pointer (some ⟨r, 0, none⟩), .int .i64 3, .slice a l.length cap] W fun e w' => e = .returned (.tuple #[]) ∧ RCh q w' r (digl q n (3 :: (D ++ l))) ∧ W.grownBy w' (some r)) := fun W r cap a l D hD hlen hf hr hla => rstep_any q n r cap 3 a l D W h5 h4 hpn (by omega) (by rw [hD.1]; omega) hD.2 hf hr hla
  have HDR : Hid (∀ (W : World) (r : Nat) (D : List Int), Dig D → RCh q W r D → Calls Tryz.prog 27 #[.pointer (some ⟨r, 0, none⟩)] W fun e w' => e = .returned (.int .i64 (zat (digl q n (4 :: D)) 0)) ∧ RCn q w' r (digl q n (4 :: D)) W.heap.size ∧ W.grownBy w' (some r)) := fun W r D hD hr => rdraw_new q n r D W h5 h4 hpn (by rw [hD.1]; omega) hD.2 hr
  have HWI : Hid (∀ (W : World) (i : Nat) (kind : Int) (cg cz cx cy : Nat) (ag az ax ay : Option Addr) (x y : List Int), i < nL → x.length = bnn wide lys (nL - 1 - i) → y.length = bnn wide lys (nL - 1 - i) → Fits x → Fits y → LstG W.heap.size W ag cg (lyt lys (nL - 1 - i)) → NumL W az cz (S i).z → RowB W.heap.size W ax x → RowB W.heap.size W ay y → Calls Tryz.prog 29 #[.int .i64 (q : Int), .slice ag (lyt lys (nL - 1 - i)).length cg, .int .i64 kind, .slice az (S i).z.length cz, .slice ax x.length cx, .slice ay y.length cy] W fun e w' => e = .returned (.int .i64 (wrz q (lyt lys (nL - 1 - i)) kind (S i).z x y)) ∧ Below W.heap.size W w') := fun W i kind cg cz cx cy ag az ax ay x y hi hx hy fx fy hg hz rx ry => by
    have hk := HOK.out i (by omega)
    have hly : nL - 1 - i < lys.length := by omega
    have hbn := hS.bn (show nL - 1 - i ≤ lys.length by omega)
    have hzl : (S i).z.length = bnn wide lys (nL - 1 - i + 1) := by rw [hk.len, show lys.length - i = nL - 1 - i + 1 from by omega]
    have hz6 := (hS.bn (show nL - 1 - i + 1 ≤ lys.length by omega)).2
    have hgl := (hS.own hly).1
    refine rwire13_any q cg cz cx cy kind ag az ax ay _ (S i).z x y W h3 h4 (by rw [hgl]; exact pow_6 hz6) hg (by omega) (by omega) (by omega) (by rw [hzl, hgl]; exact Nat.le_refl _) (fun k hk' => ?_) hk.fit fx fy hz.1.row rx ry
    have := hGC _ hly k hk'
    rw [hx, hy]
    exact ⟨this.2.1, this.2.2⟩
  have HB6 : Hid (∀ i, i < nL → bnn wide lys (nL - 1 - i) ≤ 6) := fun i hi => (hS.bn (show nL - 1 - i ≤ lys.length by omega)).2
  have HLYB := hid hLB
  obtain ⟨b1, o1, a1, c1, rfl, hbb, hx1, _⟩ := hl.row (lys.length - 1) (by omega)
  have HX1 : Hid (∀ W, Below w.heap.size w W → W.cell? ⟨b1, o1 + (lys.length - 1), none⟩ = some (.slice a1 (lyt lys (lys.length - 1)).length c1)) := fun W hW => (hW.cell (p := ⟨b1, o1 + (lys.length - 1), none⟩) hbb).trans hx1
  have t1 : ((no : Int) != ((lyt lys (lys.length - 1)).length : Int)) = false := by simp; omega
  obtain ⟨nq, hnq⟩ : ∃ nq, nq = (lyt lys (lys.length - 1)).length := ⟨_, rfl⟩
  obtain ⟨nk, hnk⟩ : ∃ nk, nk = lys.length - 1 := ⟨_, rfl⟩
  rw [← hnq] at t1 HX1
  rw [← hnk] at HX1
  have hsub : IntKind.i64.wrap ((nL : Int) - 1) = (nk : Int) := by rw [IntKind.wrap_i64]; omega
  have hkl : nk < nL := by omega
  have hnz : ¬ (nk : Int) < 0 := by omega
  have hkl2 : (nk : Int) < (nL : Int) := by omega
  have hnR2 : nR = nL := by omega
  have hnS2 : nS = nL := by omega
  have HNK : Hid ((nk : Int) = (nL : Int) - 1) := by unfold Hid; omega
  have HRN : Hid (Rs.length = nL ∧ Ls.length = nL) := ⟨by omega, by omega⟩
  have hL8 : nL ≤ 8 := by omega
  have HZ1 : Hid (W1.heap.size = w.heap.size + 2) := hz1
  rw [← hSS, ← hnL, ← hno, ← hnR, ← hnS]
  rw [hnR2, hnS2] at HCC HW1 ⊢
  clear hnL hno hnR hnS hW1 hG hL hs1 hs2 hz1 hb1 hB hl lo fo hRs hLs hLB hpn hF hnq hnk hS hGC h8 hx1 hol hRl hLl hout hv6 hSS hnR2 hnS2
  have t2 : ((nL : Int) != (nL : Int)) = false := by simp
  go_enter Tryz.func7, Tryz.ntmps7
  go_wp2_with fail
  rw [← HW1.out]
  refine HFO.out.mono ?_
  rintro e w2 ⟨rfl, hb2⟩
  obtain ⟨⟨k0, k1⟩, k2, k3⟩ := HCC.out w2 hb2
  have x1 := HX1.out w2 (HBW.out w2 hb2)
  have HB2 := hid hb2
  have HBGX := hid (HBG.out w2 (HBW.out w2 hb2))
  rw [HGE.out] at k0 k1
  rw [HLE.out] at k2 k3
  clear hb2 HBG HFO
  go_wp2_with fail
  refine HBGX.out.mono ?_
  rintro e w3 ⟨r, az, cz, rfl, hc3, hP3, hz3, hb3⟩
  have HB3 : Hid (Below W1.heap.size W1 w3) := HB2.out.trans (hb3.mono HB2.out.size)
  have HP3 := hid hP3
  have HZ3 := hid hz3
  have HEXX := hid (HEX.out w3 az cz (HBW.out w3 HB3.out) hz3)
  have HRW : Hid (W1.heap.size ≤ r) := by have := HB2.out.size; unfold Hid; omega
  rw [← HLE.out, ← HGE.out]
  clear hc3 hP3 hz3 hb3 HBGX HEX x1 k0 k1 k2 k3 t1 t2
  go_wp2_with fail
  refine (HEXX.out).mono ?_
  rintro e w0 ⟨rfl, hw⟩
  have hw1 := hw.symm
  subst hw1
  clear hw
  clear HEXX
  go_wp2_with fail
  go_loopw [14, 15, 16, 17, 18, 19, 20, 21, 22, 23, 24, 25, 26, 27, 28, 29, 30, 31, 32, 33, 34] (fun zv cv iv _ _ _ _ _ _ _ _ _ _ _ _ _ _ _ _ _ _ wr => ∃ i : Nat, i ≤ nL ∧ iv = .int .i64 (i : Int) ∧ cv = .int .i64 (S i).c ∧ Hid (∀ j, j < i → GlO q n (bnn wide lys (nL - 1 - j)) (lyt lys (nL - 1 - j)) (rrt Rs j) (rat Ls j) (S j)) ∧ ∃ az cz, zv = .slice az (S i).z.length cz ∧ Hid (NumL wr az cz (S i).z ∧ RCh q wr r (S i).D ∧ Below W1.heap.size W1 wr)) (fun _ _ iv _ _ _ _ _ _ _ _ _ _ _ _ _ _ _ _ _ _ _ => nL - (intOf iv).toNat)
  case atStart => exact ⟨0, Nat.zero_le _, rfl, rfl, fun j hj => absurd hj (Nat.not_lt_zero _), az, cz, rfl, HZ3.out, HP3.out, HB3.out⟩
  case round =>
    obtain ⟨i, hi, rfl, rfl, hAll, az, cz, rfl, hI⟩ := hrel
    obtain ⟨hzi, hri, hbi⟩ := hI.out
    by_cases hlt : i < nL
    · have hlt2 : (i : Int) < (nL : Int) := by omega
      have hks : IntKind.i64.wrap ((i : Int) + 1) = (i : Int) + 1 := by rw [IntKind.wrap_i64]; omega
      obtain ⟨ly, hlyE⟩ : ∃ ly, ly = nL - 1 - i := ⟨_, rfl⟩
      have HLYE := hid hlyE
      have hly : ly < nL := by omega
      have hsub2 : IntKind.i64.wrap ((nk : Int) - (i : Int)) = (ly : Int) := by have := HNK.out; rw [IntKind.wrap_i64]; omega
      obtain ⟨bR, oR, ar, cr, rfl, hrr⟩ := HRR.out i hlt
      obtain ⟨bS, oS, al, cl, rfl, hll⟩ := HLL.out i hlt
      have HRRX := hid hrr
      have HLLX := hid hll
      have HBX := hid (HBEN.out wr ly (HBW.out _ hbi) hly)
      have HZI := hid hzi
      have HRI := hid hri
      have HBI := hid hbi
      obtain ⟨⟨k0, k1⟩, k2, k3⟩ := HCC.out wr hbi
      obtain ⟨m, hm⟩ : ∃ m, m = bnn wide lys ly := ⟨_, rfl⟩
      rw [← hm] at HBX
      have HM := hid hm
      have hm6 : m ≤ 6 := by rw [hm, hlyE]; exact HB6.out i hlt
      clear hI hzi hri hbi hrr hll hlyE hm
      go_wp2_with fail
      refine HBX.out.mono ?_
      rintro e w4 ⟨rfl, hb4⟩
      have HB4 : Hid (Below W1.heap.size W1 w4) := HBI.out.trans (hb4.mono HBI.out.size)
      have HZ4 := hid (HZI.out.below hb4)
      have HR4 := hid (HRI.out.below hb4)
      obtain ⟨⟨k0, k1⟩, k2, k3⟩ := HCC.out w4 HB4.out
      have x8 := (HRRX.out w4 (HBW.out _ HB4.out)).1
      have x9 := (HLLX.out w4 (HBW.out _ HB4.out)).1
      obtain ⟨nr, hnr⟩ : ∃ nr, nr = (rrt Rs i).length := ⟨_, rfl⟩
      obtain ⟨nl, hnl⟩ : ∃ nl, nl = (rat Ls i).length := ⟨_, rfl⟩
      rw [← hnr] at x8
      rw [← hnl] at x9
      have HNN : Hid (nr = (rrt Rs i).length ∧ nl = (rat Ls i).length) := ⟨hnr, hnl⟩
      have hw2 : IntKind.i64.wrap (2 * (m : Int)) = 2 * (m : Int) := by rw [IntKind.wrap_i64]; omega
      have hw1 : IntKind.i64.wrap ((m : Int) + 1) = (m : Int) + 1 := by rw [IntKind.wrap_i64]; omega
      have hnr1 : nr ≤ 5864062014634 := by rw [hnr]; exact (HLYB.out.r1 i (by rw [HRN.out.1]; exact hlt)).1
      clear hb4 HBX HBI HZI HRI hnr hnl
      by_cases hsz : nr = 2 * m ∧ nl = m + 1
      rotate_left
      · have HNO : Hid (¬ GcO q n wide lys outs Rs Ls) := fun h => by
          have h1 := (HGO.out.1 h i hlt).1
          rw [← HLYE.out, ← HM.out, ← HNN.out.1, ← HNN.out.2] at h1
          exact hsz h1
        have HE : Hid (Below w.heap.size w w4) := HBW.out _ HB4.out
        have hdec : ((nr : Int) != 2 * (m : Int)) = true ∨ (((nr : Int) != 2 * (m : Int)) = false ∧ ((nl : Int) != (m : Int) + 1) = true) := by
          by_cases hr : nr = 2 * m
          · exact Or.inr ⟨by simp; omega, by simp; omega⟩
          · exact Or.inl (by simp; omega)
        clear hsz HB4 HZ4 HR4
        rcases hdec with t1 | ⟨t1, t2⟩
        all_goals
          go_wp2_with fail
          go_ret3
          exact ⟨fun h => absurd h HNO.out, fun _ => rfl, HE.out⟩
      obtain ⟨e1, e2⟩ := hsz
      have HS1 := hid e1
      have HS2 := hid e2
      have t1 : ((nr : Int) != 2 * (m : Int)) = false := by simp; omega
      have t2 : ((nl : Int) != (m : Int) + 1) = false := by simp; omega
      have hk6 := HOK.out i hi
      have HKI := hid hk6
      obtain ⟨D, hD⟩ : ∃ D, D = (S i).D := ⟨_, rfl⟩
      obtain ⟨rs, hrs⟩ : ∃ rs, rs = rrt Rs i := ⟨_, rfl⟩
      have HDE := hid hD
      have HRS := hid hrs
      rw [← hD] at HR4
      rw [← hrs] at HRRX HNN
      have HDG : Hid (∀ k, Dig (gds q n rs D k)) := dig_gds h3 h4 n rs (by rw [hD]; exact hk6.dig)
      have HCB : Hid (∀ k, i64B (gcs q n rs D (S i).c k)) := gcs_b h3 h4 hk6.c
      have hr4 := HR4.out.lt
      have HR4S : Hid (∀ W, w4.grownBy W (some r) → Below W1.heap.size W1 W) := fun W hW => HB4.out.trans (gb_to hW HRW.out HB4.out.size)
      have HBWW : Hid (∀ W, w4.grownBy W (some r) → Below w.heap.size w W) := fun W hW => HBW.out _ (HR4S.out W hW)
      have HFK : Hid (∀ k, k < 2 * m → Fits (rat rs k) ∧ (rat rs k).length ≤ 17592186043904) := fun k hk => by
        have := (HLYB.out.r1 i (by rw [HRN.out.1]; exact hlt)).2 k (by rw [← hrs, ← HNN.out.1]; omega)
        rw [← hrs] at this
        exact ⟨this.2, this.1⟩
      have HFL : Hid (Fits (rat Ls i) ∧ (rat Ls i).length ≤ 17592186043904) := by
        have := HLYB.out.l1 i (by rw [HRN.out.2]; exact hlt)
        exact ⟨this.2, this.1⟩
      clear e1 e2 hk6 hD hrs
      go_wp2_with fail
      clear t1 t2 x8 x9 k0 k1 k2 k3
      go_loopw [15, 21, 22, 23, 24, 25] (fun cv av kv _ _ _ wr => ∃ k : Nat, k ≤ 2 * m ∧ kv = .int .i64 (k : Int) ∧ ∃ C : Int, cv = .int .i64 C ∧ Hid (C = gcs q n rs D (S i).c k) ∧ Hid (∀ j, j < k → GrO q n rs (S i) j) ∧ Hid (wr.ownsRow w4.heap.size 3 1 av (gxs q n rs D k).length ((gxs q n rs D k).map (Value.int .i64)) ∧ RCh q wr r (gds q n rs D k) ∧ w4.grownBy wr (some r))) (fun _ _ kv _ _ _ _ => 2 * m - (intOf kv).toNat)
      case atStart => exact ⟨0, Nat.zero_le _, rfl, (S i).c, rfl, rfl, fun j hj => absurd hj (Nat.not_lt_zero _), World.ownsRow_nil _ _ _ _, HR4.out, gb_refl _ _⟩
      case round =>
        obtain ⟨k, hk, rfl, C, rfl, hC, hRo, hJ⟩ := hrel
        have HGR := hid hJ.out.2.2
        by_cases hkt : k < 2 * m
        · have hkt2 : (k : Int) < 2 * (m : Int) := by omega
          have hks2 : IntKind.i64.wrap ((k : Int) + 1) = (k : Int) + 1 := by rw [IntKind.wrap_i64]; omega
          have hkr : k < nr := by have := HS1.out; omega
          have hkr2 : (k : Int) < (nr : Int) := by omega
          obtain ⟨br, or', ak, ck, rfl, hbr, hcr, hlk⟩ := (HRRX.out wr (HBWW.out _ HGR.out)).2.row k (by rw [← HNN.out.1]; exact hkr)
          obtain ⟨hfk, hlk9⟩ := HFK.out k hkt
          have HFKK := hid hfk
          have HO := hid hJ.out.1
          have HPK := hid hJ.out.2.1
          have HLK : Hid (∀ W, w4.grownBy W (some r) → Lst w.heap.size W ak ck (rat rs k)) := fun W hW => by
            obtain ⟨br', or2, ak', ck', e1, e2, e3, e4⟩ := (HRRX.out W (HBWW.out _ hW)).2.row k (by rw [← HNN.out.1]; exact hkr)
            cases e1
            have hsame : W.cell? ⟨br, or' + k, none⟩ = wr.cell? ⟨br, or' + k, none⟩ := ((HBWW.out _ hW).cell (p := ⟨br, or' + k, none⟩) e2).trans ((HBWW.out _ HGR.out).cell (p := ⟨br, or' + k, none⟩) e2).symm
            rw [hsame, hcr] at e3
            injection e3 with e3
            injection e3 with e5 e6 e7
            subst e5
            subst e7
            exact e4
          by_cases h3l : (rat rs k).length = 3
          rotate_left
          · have HNO : Hid (¬ GcO q n wide lys outs Rs Ls) := fun h => by
              have h1 := (HGO.out.1 h i hlt).2.1 k (by rw [← HLYE.out, ← HM.out]; exact hkt)
              rw [← HRS.out] at h1
              exact h3l h1.1
            have HE : Hid (Below w.heap.size w wr) := HBWW.out _ HGR.out
            obtain ⟨nk3, hnk3⟩ : ∃ nk3, nk3 = (rat rs k).length := ⟨_, rfl⟩
            rw [← hnk3] at hcr
            have t3 : ((nk3 : Int) != 3) = true := by simp; omega
            clear hJ hfk hlk9 h3l hnk3 hC hRo HO HPK hlk HLK
            go_wp2_with fail
            go_ret3
            exact ⟨fun h => absurd h HNO.out, fun _ => rfl, HE.out⟩
          rw [h3l] at hcr
          have HGD : Hid (w4.grownBy wr.drew (some r)) := gb_trans HGR.out (gb_below (Below.refl _ _).drew)
          obtain ⟨b2, o2, rfl, hb20, z0⟩ := (HLK.out wr.drew HGD.out).row 0 (by omega)
          obtain ⟨b3, o3, e3, _, z1⟩ := (HLK.out wr.drew HGD.out).row 1 (by omega)
          cases e3
          rw [Nat.add_zero] at z0
          have hx0 := hfk.all 0
          have hx1 := hfk.all 1
          have HAD0 := hid (fun W => radd_any q (zat (rat rs k) 0) (zat (rat rs k) 1) W h3 h4 hx0.1 hx0.2 hx1.1 hx1.2)
          have HSUM : Hid (GrO q n rs (S i) k ↔ (zat (rat rs k) 0 + zat (rat rs k) 1) % (q : Int) = C) := by
            unfold Hid GrO
            rw [hC.out, HDE.out]
            exact ⟨fun h => h.2, fun h => ⟨h3l, h⟩⟩
          have HTHX : Hid (∀ (W : World) (x : Int), i64B x → w4.grownBy W (some r) → Calls Tryz.prog 28 #[.int .i64 (q : Int), .slice (some ⟨b2, o2, none⟩) 3 ck, .int .i64 x] W fun e w' => e = .returned (.int .i64 (atz q (rat rs k) x)) ∧ Below W.heap.size W w') := fun W x hx hW => by
            have h := rthrough_any q ck (some ⟨b2, o2, none⟩) (rat rs k) x W h3 h4 (by omega) HFKK.out hx.1 hx.2 ((HLK.out W hW).row.mono (HBWW.out _ hW).size)
            rw [h3l] at h
            exact h
          have HSTX : Hid (Calls Tryz.prog 26 #[.pointer (some ⟨r, 0, none⟩), .int .i64 3, .slice (some ⟨b2, o2, none⟩) 3 ck] wr.drew fun e w' => e = .returned (.tuple #[]) ∧ RCh q w' r (digl q n (3 :: (gds q n rs D k ++ rat rs k))) ∧ wr.drew.grownBy w' (some r)) := by
            have h := HST.out wr.drew r ck (some ⟨b2, o2, none⟩) (rat rs k) (gds q n rs D k) (HDG.out k) hlk9 hfk (HPK.out.below (Below.refl _ _).drew) ((HLK.out _ HGD.out).mono (HBWW.out _ HGD.out).size)
            rw [h3l] at h
            exact h
          have HDRX : Hid (∀ W, RCh q W r (digl q n (3 :: (gds q n rs D k ++ rat rs k))) → Calls Tryz.prog 27 #[.pointer (some ⟨r, 0, none⟩)] W fun e w' => e = .returned (.int .i64 (zat (gds q n rs D (k + 1)) 0)) ∧ RCn q w' r (gds q n rs D (k + 1)) W.heap.size ∧ W.grownBy w' (some r)) := fun W hW => HDR.out W r _ (dig_digl h3 h4 _ _) hW
          have HGC : Hid (gcs q n rs D (S i).c (k + 1) = atz q (rat rs k) (zat (gds q n rs D (k + 1)) 0)) := rfl
          have HXS := hid (gxs_succ q n rs D k)
          have HXN : Hid ((gxs q n rs D k).length ≤ 12) := by unfold Hid; rw [gxs_len]; omega
          have HRB1 : Hid (i64B (zat (gds q n rs D (k + 1)) 0)) := (HDG.out (k + 1)).2.all 0
          generalize digl q n (3 :: (gds q n rs D k ++ rat rs k)) = D3 at *
          generalize zat (rat rs k) 0 = X0 at *
          generalize zat (rat rs k) 1 = X1 at *
          have HS25 : Hid (wr.drew.cell? ⟨b2, o2, none⟩ = some (.int .i64 X0) ∧ wr.drew.cell? ⟨b2, o2 + 1, none⟩ = some (.int .i64 X1)) := ⟨z0, z1⟩
          obtain ⟨XS, hXS⟩ : ∃ XS, XS = (X0 + X1) % (q : Int) := ⟨_, rfl⟩
          rw [← hXS] at HSUM
          have HAD : Hid (∀ W, Calls Tryz.prog 25 #[.int .i64 (q : Int), .int .i64 X0, .int .i64 X1] W fun e w' => e = .returned (.int .i64 XS) ∧ w' = W) := by rw [hXS]; exact HAD0
          clear hJ hfk hlk9 hlk z0 z1 hx0 hx1 h3l HAD0 hC HFKK hXS
          go_wp2_with fail
          refine wp_region_held_drew (S := fun W => W.cell? ⟨b2, o2, none⟩ = some (.int .i64 X0) ∧ W.cell? ⟨b2, o2 + 1, none⟩ = some (.int .i64 X1)) (by kernel_rfl) (HS25.out) (fun hHeld => ?_)
          refine wpAnyH_takeU (i := 0) (v := .int .i64 (q : Int)) rfl (by kernel_rfl) (by kernel_rfl) (by kernel_rfl) (fun _ _ _ h => h) (by rfl) (fun W hC => by go_simp) hHeld ?_
          simp only [Act.put, List.setIfInBounds_toArray, List.set_cons_zero, List.set_cons_succ]
          refine wpAnyH_takeU (i := 1) (v := .slice (some ⟨b2, o2, none⟩) 3 ck) rfl (by kernel_rfl) (by kernel_rfl) (by kernel_rfl) (fun _ _ _ h => h) (by rfl) (fun W hC => by go_simp) hHeld ?_
          simp only [Act.put, List.setIfInBounds_toArray, List.set_cons_zero, List.set_cons_succ]
          refine wpAnyH_takeU (i := 2) (v := .pointer (some ⟨b2, o2, none⟩)) rfl (by kernel_rfl) (by kernel_rfl) (by kernel_rfl) (fun _ _ _ h => h) (by rfl) (fun W hC => by go_simp) hHeld ?_
          simp only [Act.put, List.setIfInBounds_toArray, List.set_cons_zero, List.set_cons_succ]
          refine wpAnyH_takeU (i := 3) (v := .int .i64 X0) rfl (by kernel_rfl) (by kernel_rfl) (by kernel_rfl) (fun _ _ _ h => h) (by rfl) (fun W hC => by (obtain ⟨x1, x2⟩ := hC); go_simp) hHeld ?_
          simp only [Act.put, List.setIfInBounds_toArray, List.set_cons_zero, List.set_cons_succ]
          refine wpAnyH_takeU (i := 4) (v := .slice (some ⟨b2, o2, none⟩) 3 ck) rfl (by kernel_rfl) (by kernel_rfl) (by kernel_rfl) (fun _ _ _ h => h) (by rfl) (fun W hC => by go_simp) hHeld ?_
          simp only [Act.put, List.setIfInBounds_toArray, List.set_cons_zero, List.set_cons_succ]
          refine wpAnyH_takeU (i := 5) (v := .pointer (some ⟨b2, o2 + 1, none⟩)) rfl (by kernel_rfl) (by kernel_rfl) (by kernel_rfl) (fun _ _ _ h => h) (by rfl) (fun W hC => by go_simp) hHeld ?_
          simp only [Act.put, List.setIfInBounds_toArray, List.set_cons_zero, List.set_cons_succ]
          refine wpAnyH_takeU (i := 6) (v := .int .i64 X1) rfl (by kernel_rfl) (by kernel_rfl) (by kernel_rfl) (fun _ _ _ h => h) (by rfl) (fun W hC => by (obtain ⟨x1, x2⟩ := hC); go_simp) hHeld ?_
          simp only [Act.put, List.setIfInBounds_toArray, List.set_cons_zero, List.set_cons_succ]
          refine wpAnyH_ready (rs := [7]) (by kernel_rfl) (by simp) ?_
          refine AllReadyH.consU rfl (fun K' hK' => ?_) AllReadyH.nil
          go_simp
          refine (HAD.out wr.drew).mono ?_
          rintro e w3 ⟨rfl, hw⟩
          have hw1 := hw.symm
          subst hw1
          clear hw
          refine hK'.out _ _ (HS25.out) (fun hHeld => ?_)
          clear hK' K'
          refine wpAnyH_takeU (i := 8) (v := .int .i64 XS) rfl (by kernel_rfl) (by kernel_rfl) (by kernel_rfl) (fun _ _ _ h => h) (by rfl) (fun W hC => by go_simp) hHeld ?_
          simp only [Act.put, List.setIfInBounds_toArray, List.set_cons_zero, List.set_cons_succ]
          refine wpAnyH_done (by kernel_rfl) ?_ _
          have HO2 := hid (own_step HO.out (Below.refl _ _).drew)
          clear HO HPK hcr
          generalize wr.drew = WD at *
          by_cases heq : XS = C
          rotate_left
          · have HNO : Hid (¬ GcO q n wide lys outs Rs Ls) := fun h => by
              have h1 := (HGO.out.1 h i hlt).2.1 k (by rw [← HLYE.out, ← HM.out]; exact hkt)
              rw [← HRS.out] at h1
              exact heq (HSUM.out.1 h1)
            have HE : Hid (Below w.heap.size w WD) := HBWW.out _ HGD.out
            have t4 : (XS != C) = true := by simp [heq]
            clear heq HSUM hRo HSTX HDRX HTHX HXS HXN HRB1 HO2
            go_wp2_with fail
            go_ret3
            exact ⟨fun h => absurd h HNO.out, fun _ => rfl, HE.out⟩
          have HGO2 : Hid (∀ j, j < k + 1 → GrO q n rs (S i) j) := fun j hj => by
            by_cases h : j = k
            · rw [h]; exact HSUM.out.2 heq
            · exact hRo.out j (by omega)
          have t4 : (XS != C) = false := by simp [heq]
          clear HSUM heq hRo
          go_wp2_with fail
          refine HSTX.out.mono ?_
          rintro e w5 ⟨rfl, hr5, hg5⟩
          have HG5 : Hid (w4.grownBy w5 (some r)) := gb_trans HGD.out hg5
          have HDX := hid (HDRX.out w5 hr5)
          have HO5 := hid (own_gb HO2.out hg5 hr4)
          clear hr5 hg5 HSTX HDRX HO2 t4
          go_wp2_with fail
          refine HDX.out.mono ?_
          rintro e w6 ⟨rfl, hr6, hg6⟩
          have HG6 : Hid (w4.grownBy w6 (some r)) := gb_trans HG5.out hg6
          have HO6 := hid (own_gb HO5.out hg6 hr4)
          obtain ⟨y, hy⟩ : ∃ y, y = zat (gds q n rs D (k + 1)) 0 := ⟨_, rfl⟩
          rw [← hy] at HGC HXS HRB1 ⊢
          obtain ⟨lx, hlx⟩ : ∃ lx, lx = gxs q n rs D k := ⟨_, rfl⟩
          rw [← hlx] at HXS HXN HO6 HO5
          have HO7 : Hid (World.ownsRow (w6.alloc (.cells #[.int .i64 y] 3)) w4.heap.size 3 1 _ lx.length (lx.map (Value.int .i64))) := HO6.out.alloc _
          have HG7 : Hid (w4.grownBy (w6.alloc (.cells #[.int .i64 y] 3)) (some r)) := gb_trans HG6.out (gb_below ((Below.refl _ _).alloc (Nat.le_refl _) _))
          have HC7 : Hid ((w6.alloc (.cells #[.int .i64 y] 3)).cell? ⟨w6.heap.size, 0, none⟩ = some (.int .i64 y)) := by unfold Hid; simp
          have HR7 : Hid (RCn q (w6.alloc (.cells #[.int .i64 y] 3)) r (gds q n rs D (k + 1)) w5.heap.size) := hr6.belowU ((Below.refl _ _).alloc (Nat.le_refl _) _)
          have HLX : Hid (lx.length ≤ 17592186044000) := by have := HXN.out; unfold Hid; omega
          clear hr6 hg6 HDX HO6 hy hlx
          go_wp2_with (at_builtin; refine wpList_append1 (w6.alloc (.cells #[.int .i64 y] 3)) w4.heap.size w6.heap.size y rfl _ _ rfl _ rfl lx HO7.out rfl HC7.out HLX.out HG7.out.size ?_)
          intro v8 w8 ho8 hgr8 _ hb8
          have HG8 : Hid (w4.grownBy w8 (some r)) := gb_baseU HG7.out hb8
          have HE8 : Hid (w8.ownsRow w4.heap.size 3 1 v8 (gxs q n rs D (k + 1)).length ((gxs q n rs D (k + 1)).map (Value.int .i64)) ∧ RCh q w8 r (gds q n rs D (k + 1))) := by
            unfold Hid
            rw [HXS.out, List.length_append, List.map_append]
            exact ⟨ho8, rch_app HR7.out HO5.out hgr8 hr4 (Nat.le_refl _)⟩
          have HTX := hid (HTHX.out w8 y HRB1.out HG8.out)
          rw [← HGC.out] at HTX
          clear ho8 hgr8 hb8 HO7 HG7 HC7 HR7 HO5 HXS HTHX HGC
          go_wp2_with fail
          refine HTX.out.mono ?_
          rintro e w9 ⟨rfl, hb9⟩
          have HE9 : Hid (w9.ownsRow w4.heap.size 3 1 v8 (gxs q n rs D (k + 1)).length ((gxs q n rs D (k + 1)).map (Value.int .i64)) ∧ RCh q w9 r (gds q n rs D (k + 1)) ∧ w4.grownBy w9 (some r)) := ⟨own_step HE8.out.1 hb9, HE8.out.2.below hb9, gb_trans HG8.out (gb_below hb9)⟩
          clear hb9 HE8 HTX
          go_wp2_with fail
          go_roundw
          case rel => exact ⟨k + 1, by omega, by go_num, _, rfl, rfl, HGO2, HE9⟩
          case measure => simp [intOf]; omega
        · have hk2 : k = 2 * m := by omega
          have hkt2 : ¬ (k : Int) < 2 * (m : Int) := by omega
          rw [hk2] at hC hRo
          have hO := hJ.out.1
          have hP0 := hJ.out.2.1
          rw [hk2] at hO hP0
          have HPK := hid hP0
          obtain ⟨ad, cd, rfl, hnd⟩ := numL_of_owns hO
          rw [gxs_len]
          have HC0 := hC
          obtain ⟨X, hX⟩ : ∃ X, X = gxs q n rs D (2 * m) := ⟨_, rfl⟩
          rw [← hX] at hnd
          have hXl : X.length = 2 * m := by rw [hX]; exact gxs_len _ _ _ _ _
          have hXf : Fits X := by rw [hX]; exact gxs_fits h3 h4 n rs (HDG.out 0) _
          have hcapd : 2 * m ≤ cd := by have := hnd.1.room; omega
          have HND : Hid (∀ W, wr.grownBy W (some r) → NumL W ad cd X) := fun W hW => hnd.other hW HPK.out.not
          have htl : (X.take m).length = m := by rw [List.length_take]; omega
          have hdl : (X.drop m).length = m := by rw [List.length_drop]; omega
          have HROW : Hid (∀ W, wr.grownBy W (some r) → RowB W.heap.size W ad (X.take m) ∧ RowB W.heap.size W (adS ad cd m) (X.drop m)) := fun W hW => ⟨take_row (HND.out W hW).1.row, adS_row (HND.out W hW).1.row (by have := (HND.out W hW).1.room; omega)⟩
          have HG2W : Hid (∀ W, wr.grownBy W (some r) → w4.grownBy W (some r)) := fun W hW => gb_trans HGR.out hW
          obtain ⟨b1', o1', ag, cg, eL, hgg⟩ := HGG.out ly hly
          cases eL
          have HGGX := hid hgg
          have HLI : Hid (∀ W, wr.grownBy W (some r) → Lst W.heap.size W al cl (rat Ls i)) := fun W hW => ((HLLX.out W (HBWW.out _ (HG2W.out W hW))).2).mono (HBWW.out _ (HG2W.out W hW)).size
          have HZW : Hid (∀ W, wr.grownBy W (some r) → NumL W az cz (S i).z) := fun W hW => HZ4.out.other (HG2W.out W hW) HR4.out.not
          have HWIX : Hid (∀ W kind, wr.grownBy W (some r) → Calls Tryz.prog 29 #[.int .i64 (q : Int), .slice ag (lyt lys ly).length cg, .int .i64 kind, .slice az (S i).z.length cz, .slice ad m cd, .slice (adS ad cd m) m (cd - m)] W fun e w' => e = .returned (.int .i64 (wrz q (lyt lys ly) kind (S i).z (X.take m) (X.drop m))) ∧ Below W.heap.size W w') := fun W kind hW => by
            have h := HWI.out W i kind cg cz cd (cd - m) ag az ad (adS ad cd m) (X.take m) (X.drop m) hlt (by rw [htl, ← HLYE.out]; exact HM.out) (by rw [hdl, ← HLYE.out]; exact HM.out) (fits_take m hXf) (fits_drop m hXf) (by rw [← HLYE.out]; exact (HGGX.out W (HBWW.out _ (HG2W.out W hW))).2.mono (HBWW.out _ (HG2W.out W hW)).size) (HZW.out W hW) (HROW.out W hW).1 (HROW.out W hW).2
            rw [← HLYE.out, htl, hdl] at h
            exact h
          obtain ⟨line, hline⟩ : ∃ line, line = rat Ls i := ⟨_, rfl⟩
          rw [← hline] at HLI HNN HFL
          have HLINE := hid hline
          have hll0 : line.length = m + 1 := by rw [← HNN.out.2]; exact HS2.out
          obtain ⟨bl, ol, rfl, hbl, za⟩ := (HLI.out wr (gb_refl _ _)).row 0 (by omega)
          obtain ⟨bl2, ol2, ee, _, zb⟩ := (HLI.out wr (gb_refl _ _)).row (min 1 m) (by omega)
          cases ee
          obtain ⟨bl3, ol3, ee, _, zc⟩ := (HLI.out wr (gb_refl _ _)).row m (by omega)
          cases ee
          rw [Nat.add_zero] at za
          obtain ⟨A, hA⟩ : ∃ A, A = zat line 0 := ⟨_, rfl⟩
          obtain ⟨Bv, hBv⟩ : ∃ Bv, Bv = zat line (min 1 m) := ⟨_, rfl⟩
          have HA : Hid (i64B A ∧ i64B Bv) := ⟨by rw [hA]; exact HFL.out.1.all 0, by rw [hBv]; exact HFL.out.1.all _⟩
          obtain ⟨U, hU⟩ : ∃ U, U = wrz q (lyt lys ly) 0 (S i).z (X.take m) (X.drop m) := ⟨_, rfl⟩
          obtain ⟨V, hV⟩ : ∃ V, V = wrz q (lyt lys ly) 1 (S i).z (X.take m) (X.drop m) := ⟨_, rfl⟩
          have HENZ : Hid ((U * ((A + Bv) % (q : Int)) % (q : Int) + V * (A * Bv % (q : Int)) % (q : Int)) % (q : Int) = enz q (lyt lys ly) (S i).z (X.take m) (X.drop m) line m) := by unfold Hid; rw [hU, hV, hA, hBv]; exact enz_ref _ _ _ _ _ _ _
          have hUb : 0 ≤ U ∧ U < q := by rw [hU]; exact emod_bounds _ q h3
          have hVb : 0 ≤ V ∧ V < q := by rw [hV]; exact emod_bounds _ q h3
          have HW0 := hid (fun W hW => HWIX.out W 0 hW)
          have HW1' := hid (fun W hW => HWIX.out W 1 hW)
          rw [← hU] at HW0
          rw [← hV] at HW1'
          have HGLO : Hid (GlO q n (bnn wide lys ly) (lyt lys ly) (rrt Rs i) (rat Ls i) (S i) ↔ enz q (lyt lys ly) (S i).z (X.take m) (X.drop m) line m = C) := by
            unfold Hid GlO
            rw [HC0.out, ← HM.out, ← HRS.out, ← HLINE.out, ← HDE.out, ← hX]
            exact ⟨fun h => h.2.2, fun h => ⟨⟨by rw [← HNN.out.1]; exact HS1.out, hll0⟩, hRo.out, h⟩⟩
          have HSN : Hid (S (i + 1) = ⟨gan q n (gds q n rs D (2 * m)) line, onl q (X.take m) (X.drop m) (zat (gan q n (gds q n rs D (2 * m)) line) 0), atz q line (zat (gan q n (gds q n rs D (2 * m)) line) 0)⟩) := by
            unfold Hid
            rw [HNX.out i, ← HLYE.out, ← HM.out, ← HRS.out, ← HLINE.out, hX, HDE.out]
            rfl
          have HSTX : Hid (∀ W, wr.grownBy W (some r) → RCh q W r (gds q n rs D (2 * m)) → Calls Tryz.prog 26 #[.pointer (some ⟨r, 0, none⟩), .int .i64 3, .slice (some ⟨bl, ol, none⟩) nl cl] W fun e w' => e = .returned (.tuple #[]) ∧ RCh q w' r (digl q n (3 :: (gds q n rs D (2 * m) ++ line))) ∧ W.grownBy w' (some r)) := fun W hW hr => by
            have h := HST.out W r cl (some ⟨bl, ol, none⟩) line (gds q n rs D (2 * m)) (HDG.out _) HFL.out.2 HFL.out.1 hr (HLI.out W hW)
            rw [← HNN.out.2] at h
            exact h
          obtain ⟨D5, hD5⟩ : ∃ D5, D5 = gan q n (gds q n rs D (2 * m)) line := ⟨_, rfl⟩
          rw [← hD5] at HSN
          have HDRX : Hid (∀ W, RCh q W r (digl q n (3 :: (gds q n rs D (2 * m) ++ line))) → Calls Tryz.prog 27 #[.pointer (some ⟨r, 0, none⟩)] W fun e w' => e = .returned (.int .i64 (zat D5 0)) ∧ RCh q w' r D5 ∧ W.grownBy w' (some r)) := fun W hW => by
            rw [hD5]
            exact (HDR.out W r _ (dig_digl h3 h4 _ _) hW).mono (fun _ _ h => ⟨h.1, h.2.1.rch, h.2.2⟩)
          have HRB1 : Hid (i64B (zat D5 0)) := by rw [hD5]; exact (dig_gan h3 h4 n (gds q n rs D (2 * m)) line).2.all 0
          obtain ⟨tt, htt⟩ : ∃ tt, tt = zat D5 0 := ⟨_, rfl⟩
          rw [← htt] at HSN HDRX HRB1
          have HONX : Hid (∀ W, wr.grownBy W (some r) → Calls Tryz.prog 31 #[.int .i64 (q : Int), .slice ad m cd, .slice (adS ad cd m) m (cd - m), .int .i64 tt] W fun e w' => ∃ a' c', e = .returned (.slice a' m c') ∧ NumL w' a' c' (onl q (X.take m) (X.drop m) tt) ∧ Below W.heap.size W w') := fun W hW => by
            have h := ron_num q cd (cd - m) ad (adS ad cd m) (X.take m) (X.drop m) tt W h3 h4 (by omega) (by omega) (fits_take m hXf) (fits_drop m hXf) HRB1.out (HROW.out W hW).1 (HROW.out W hW).2
            rw [htl, hdl] at h
            exact h
          have HTLX : Hid (∀ W, wr.grownBy W (some r) → Calls Tryz.prog 28 #[.int .i64 (q : Int), .slice (some ⟨bl, ol, none⟩) nl cl, .int .i64 tt] W fun e w' => e = .returned (.int .i64 (atz q line tt)) ∧ Below W.heap.size W w') := fun W hW => by
            have h := rthrough_any q cl (some ⟨bl, ol, none⟩) line tt W h3 h4 HFL.out.2 HFL.out.1 HRB1.out.1 HRB1.out.2 (HLI.out W hW).row
            rw [← HNN.out.2] at h
            exact h
          have HOL : Hid ((onl q (X.take m) (X.drop m) tt).length = m) := by unfold Hid; rw [onl_len, htl]
          obtain ⟨AY, hAY⟩ : ∃ AY, AY = adS ad cd m := ⟨_, rfl⟩
          have hADS : (if cd = m then ad else ad.map fun x => x.add m) = AY := hAY.symm
          rw [← hAY] at HW0 HW1' HONX
          obtain ⟨ZZ, hZZ⟩ : ∃ ZZ, ZZ = onl q (X.take m) (X.drop m) tt := ⟨_, rfl⟩
          obtain ⟨C3, hC3⟩ : ∃ C3, C3 = atz q line tt := ⟨_, rfl⟩
          rw [← hZZ] at HONX HSN HOL
          rw [← hC3] at HTLX HSN
          obtain ⟨EN, hEN⟩ : ∃ EN, EN = enz q (lyt lys ly) (S i).z (X.take m) (X.drop m) line m := ⟨_, rfl⟩
          rw [← hEN] at HENZ HGLO
          rw [← hA] at za
          rw [← hBv] at zb
          have hcm : (m : Int) ≤ (cd : Int) := by omega
          have hmz : (0 : Int) ≤ (m : Int) := by omega
          obtain ⟨m2, hm2⟩ : ∃ m2, m2 = 2 * m := ⟨_, rfl⟩
          rw [← hm2] at HPK HSTX HDRX ⊢
          have HM2 : Hid (m2 - m = m) := by unfold Hid; omega
          have hcm3 : m ≤ m2 := by omega
          have hcm4 : m2 ≤ cd := by omega
          have hcm2 : (m : Int) ≤ (m2 : Int) := by omega
          have hsub3 : IntKind.i64.wrap ((nl : Int) - 1) = (m : Int) := by have := HS2.out; rw [IntKind.wrap_i64]; omega
          have hmn : (m : Int) < (nl : Int) := by have := HS2.out; omega
          have hn0 : ¬ nl = 0 := by have := HS2.out; omega
          have HMC : Hid (0 < m → (1 : Int) < (nl : Int)) := fun h => by have := HS2.out; omega
          have HB1 : Hid (0 < m → wr.cell? ⟨bl, ol + 1, none⟩ = some (.int .i64 Bv)) := fun h => by rw [show min 1 m = 1 from by omega] at zb; exact zb
          have HB0 : Hid (m = 0 → wr.cell? ⟨bl, ol + m, none⟩ = some (.int .i64 Bv)) := fun h => by rw [show min 1 m = m from by omega] at zb; exact zb
          have hgc := fun W (hW : wr.grownBy W (some r)) => (HGGX.out W (HBWW.out _ (HG2W.out W hW))).1
          have HCGX : Hid (∀ W, wr.grownBy W (some r) → W.cell? ⟨G, 0, none⟩ = some (.int .i64 wide) ∧ W.cell? ⟨G, 1, none⟩ = some (.slice (some ⟨b1, o1, none⟩) nL cL) ∧ W.cell? ⟨b1, o1 + ly, none⟩ = some (.slice ag (lyt lys ly).length cg)) := fun W hW => ⟨(HCC.out W (HR4S.out W (HG2W.out W hW))).1.1, (HCC.out W (HR4S.out W (HG2W.out W hW))).1.2, hgc W hW⟩
          obtain ⟨k0, k1, k4⟩ := HCGX.out wr (gb_refl _ _)
          obtain ⟨ng, hng⟩ : ∃ ng, ng = (lyt lys ly).length := ⟨_, rfl⟩
          rw [← hng] at HW0 HW1' HCGX k4
          have hly2 : (ly : Int) < (nL : Int) := by omega
          have hnly : ¬ (ly : Int) < 0 := by omega
          have HW0X := hid (HW0.out wr (gb_refl _ _))
          have HADX := hid (fun W => radd_any q A Bv W h3 h4 HA.out.1.1 HA.out.1.2 HA.out.2.1 HA.out.2.2)
          have HMLX := hid (fun W => rmul_any q A Bv W h3 h4 HA.out.1.1 HA.out.1.2 HA.out.2.1 HA.out.2.2)
          have hs1 := emod_bounds (A + Bv) q h3
          have hs2 := emod_bounds (A * Bv) q h3
          generalize (A + Bv) % (q : Int) = S1 at *
          generalize A * Bv % (q : Int) = S2 at *
          have HMUX := hid (fun W => rmul_any q U S1 W h3 h4 (by omega) (by omega) (by omega) (by omega))
          have HMVX := hid (fun W => rmul_any q V S2 W h3 h4 (by omega) (by omega) (by omega) (by omega))
          have hs3 := emod_bounds (U * S1) q h3
          have hs4 := emod_bounds (V * S2) q h3
          generalize U * S1 % (q : Int) = U1 at *
          generalize V * S2 % (q : Int) = V1 at *
          have HAUX := hid (fun W => radd_any q U1 V1 W h3 h4 (by omega) (by omega) (by omega) (by omega))
          rw [HENZ.out] at HAUX
          generalize zat line m = zcv at *
          have hdm : m = 0 ∨ 0 < m := by omega
          clear hJ hO hP0 hnd hC hX hXl hXf htl hdl hD5 htt hZZ hC3 hEN hAY hm2 hRo HND hcapd hU hV hA hBv hgg hgc hbl hng hline hll0 zb HENZ hUb hVb hs1 hs2 hs3 hs4 HA HC0 HWIX
          rcases hdm with hm0 | hm0
          all_goals
            first
              | (have zc2 := HB0.out hm0; have tm : ¬ (0 : Int) < (m : Int) := (by omega))
              | (have zc2 := zc; have tm : (0 : Int) < (m : Int) := (by omega); have zd := HB1.out hm0; have hl1 := HMC.out hm0)
            clear hm0 zc
            go_wp2_with fail
            rw [HM2.out]
            refine HW0X.out.mono ?_
            rintro e w5 ⟨rfl, hb5⟩
            have HG5 : Hid (wr.grownBy w5 (some r)) := gb_below hb5
            have HR5 : Hid (RCh q w5 r (gds q n rs D m2)) := HPK.out.below hb5
            have HW1X := hid (HW1'.out w5 HG5.out)
            obtain ⟨k0, k1, k4⟩ := HCGX.out w5 HG5.out
            clear hb5 HW0X HPK zc2 za tm
            go_wp2_with fail
            refine HW1X.out.mono ?_
            rintro e w6 ⟨rfl, hb6⟩
            have HG6 : Hid (wr.grownBy w6 (some r)) := gb_trans HG5.out (gb_below hb6)
            have HR6 : Hid (RCh q w6 r (gds q n rs D m2)) := HR5.out.below hb6
            clear hb6 HW1X HR5 HG5 k0 k1 k4
            go_wp2_with fail
            refine (HADX.out w6).mono ?_
            rintro e w0 ⟨rfl, hw⟩
            have hwx := hw.symm
            subst hwx
            clear hw
            go_wp2_with fail
            refine (HMLX.out w6).mono ?_
            rintro e w0 ⟨rfl, hw⟩
            have hwx := hw.symm
            subst hwx
            clear hw
            go_wp2_with fail
            refine (HMUX.out w6).mono ?_
            rintro e w0 ⟨rfl, hw⟩
            have hwx := hw.symm
            subst hwx
            clear hw
            go_wp2_with fail
            refine (HMVX.out w6).mono ?_
            rintro e w0 ⟨rfl, hw⟩
            have hwx := hw.symm
            subst hwx
            clear hw
            go_wp2_with fail
            refine (HAUX.out w6).mono ?_
            rintro e w0 ⟨rfl, hw⟩
            have hwx := hw.symm
            subst hwx
            clear hw
            by_cases heq : EN = C
            rotate_left
            · have HNO : Hid (¬ GcO q n wide lys outs Rs Ls) := fun h => by
                have h1 := HGO.out.1 h i hlt
                rw [← HLYE.out] at h1
                exact heq (HGLO.out.1 h1)
              have HE : Hid (Below w.heap.size w w6) := HBWW.out _ (HG2W.out _ HG6.out)
              have t4 : (EN != C) = true := by simp [heq]
              clear heq HGLO HSTX HDRX HONX HTLX
              go_wp2_with fail
              go_ret3
              exact ⟨fun h => absurd h HNO.out, fun _ => rfl, HE.out⟩
            have HAL : Hid (∀ j, j < i + 1 → GlO q n (bnn wide lys (nL - 1 - j)) (lyt lys (nL - 1 - j)) (rrt Rs j) (rat Ls j) (S j)) := fun j hj => by
              by_cases e : j = i
              · rw [e, ← HLYE.out]; exact HGLO.out.2 heq
              · exact hAll.out j (by omega)
            have t4 : (EN != C) = false := by simp [heq]
            have HSTY := hid (HSTX.out w6 HG6.out HR6.out)
            clear heq HGLO HSTX
            go_wp2_with fail
            refine HSTY.out.mono ?_
            rintro e w7 ⟨rfl, hr7, hg7⟩
            have HG7 : Hid (wr.grownBy w7 (some r)) := gb_trans HG6.out hg7
            have HDY := hid (HDRX.out w7 hr7)
            clear hr7 hg7 HSTY HDRX t4
            go_wp2_with fail
            refine HDY.out.mono ?_
            rintro e w8 ⟨rfl, hr8, hg8⟩
            have HG8 : Hid (wr.grownBy w8 (some r)) := gb_trans HG7.out hg8
            have HR8 := hid hr8
            have HOY := hid (HONX.out w8 HG8.out)
            clear hr8 hg8 HDY HONX
            go_wp2_with fail
            refine HOY.out.mono ?_
            rintro e w9 ⟨a', c', rfl, hn9, hb9⟩
            have HG9 : Hid (wr.grownBy w9 (some r)) := gb_trans HG8.out (gb_below hb9)
            have HR9 := hid (HR8.out.below hb9)
            have HN9 := hid hn9
            have HTY := hid (HTLX.out w9 HG9.out)
            clear hn9 hb9 HOY HTLX
            go_wp2_with fail
            refine HTY.out.mono ?_
            rintro e w10 ⟨rfl, hb10⟩
            have HE10 : Hid (NumL w10 a' c' (S (i + 1)).z ∧ RCh q w10 r (S (i + 1)).D ∧ Below W1.heap.size W1 w10) := by
              unfold Hid
              rw [HSN.out]
              exact ⟨HN9.out.below hb10, HR9.out.below hb10, HR4S.out _ (HG2W.out _ (gb_trans HG9.out (gb_below hb10)))⟩
            have HSC : Hid ((S (i + 1)).c = C3 ∧ (S (i + 1)).z.length = m) := by
              unfold Hid
              rw [HSN.out]
              exact ⟨rfl, HOL.out⟩
            clear hb10 HTY HN9 HR9
            go_wp2_with fail
            go_roundw
            case rel => exact ⟨i + 1, by omega, by go_num, by rw [HSC.out.1], HAL, a', c', by rw [HSC.out.2], HE10⟩
            case measure => simp [intOf]; omega
    · have hin : i = nL := by omega
      have hlt2 : ¬ (i : Int) < (nL : Int) := by omega
      have HYES : Hid (GcO q n wide lys outs Rs Ls) := HGO.out.2 (fun j hj => hAll.out j (by omega))
      rw [hin] at hzi
      have HE : Hid (NumL wr az cz (S nL).z ∧ Below w.heap.size w wr) := ⟨hzi, HBW.out _ hbi⟩
      have hin' := hin
      subst hin'
      clear hI hzi hri hbi hin hAll
      go_wp2_with fail
      go_ret3
      exact ⟨fun _ => ⟨az, cz, rfl, HE.out.1⟩, fun h => absurd HYES.out h, HE.out.2⟩

end Go.Proofs.YtaapbopcfpihbabGreatDoor
