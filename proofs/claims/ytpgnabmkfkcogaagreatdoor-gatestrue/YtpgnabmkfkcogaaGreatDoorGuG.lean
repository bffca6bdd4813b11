/- Package gates: Check, where its sizes are right. -/
import Derived.Test.YtpgnabmkfkcogaaGreatDoorGqAZ
namespace Go.Proofs.YtpgnabmkfkcogaaGreatDoor
open Go.RowKit

set_option maxRecDepth 100000 in
set_option maxHeartbeats 8000000 in
theorem gcheck_yes (q n d sp b cL co cR cS : Nat) (wide : Int) (aL ao aR aS : Option Addr) (lys : List (List GatZ)) (outs : List Int) (Rs : List (List (List Int))) (Ls : List (List Int)) (w : World) (ok : SpgOk q n d) (hsp : SpgAt w sp b q n d) (h23 : 23 ≤ q) (hIT : InT q b w) (hB : CirB lys) (hl : LstGG w.heap.size w aL cL lys) (lo : Lst w.heap.size w ao co outs) (fo : Fits outs) (hRs : LstRR w.heap.size w aR cR Rs) (hLs : LstR w.heap.size w aS cS Ls) (hLB : LayB Rs Ls) (hGs : GsO wide lys outs Rs Ls) :
    Calls Tryz.prog 35 #[.pointer (some ⟨sp, 0, none⟩), .agg #[.int .i64 wide, .slice aL lys.length cL], .slice ao outs.length co, .agg #[.slice aR Rs.length cR, .slice aS Ls.length cS]] w fun e w' => (GcO q n wide lys outs Rs Ls → ∃ a' c', e = .returned (.tuple #[.slice a' (gst q n wide lys Rs Ls (gs0 q n wide lys outs) lys.length).z.length c', .int .i64 (gst q n wide lys Rs Ls (gs0 q n wide lys outs) lys.length).c, .bool true]) ∧ NumL w' a' c' (gst q n wide lys Rs Ls (gs0 q n wide lys outs) lys.length).z) ∧ (¬ GcO q n wide lys outs Rs Ls → e = .returned (.tuple #[.slice none 0 0, .int .i64 0, .bool false])) ∧ Below w.heap.size w w' := by
  have h3 : 3 ≤ q := hIT.h3
  have h4 : q ≤ 2147483647 := hIT.hm
  obtain ⟨hF, hol, hRl, hLl⟩ := hGs
  obtain ⟨hS, hGC⟩ := flt_zero hF
  have h8 := hS.2.1
  have hout := outs_len hS hol
  have hv6 := (hS.bn (Nat.le_refl lys.length)).2
  obtain ⟨nL, hnL⟩ : ∃ nL, nL = lys.length := ⟨_, rfl⟩
  obtain ⟨no, hno⟩ : ∃ no, no = outs.length := ⟨_, rfl⟩
  obtain ⟨nR, hnR⟩ : ∃ nR, nR = Rs.length := ⟨_, rfl⟩
  obtain ⟨nS, hnS⟩ : ∃ nS, nS = Ls.length := ⟨_, rfl⟩
  obtain ⟨W1, hW1⟩ : ∃ W1, W1 = (w.alloc (.cells #[.int .i64 wide, .slice aL nL cL] 69)).alloc (.cells #[.slice aR nR cR, .slice aS nS cS] 74) := ⟨_, rfl⟩
  obtain ⟨G, hG⟩ : ∃ G, G = w.heap.size := ⟨_, rfl⟩
  obtain ⟨L, hL⟩ : ∃ L, L = w.heap.size + 1 := ⟨_, rfl⟩
  have hb1 : Below w.heap.size w W1 := by rw [hW1]; exact ((Below.refl _ _).alloc (Nat.le_refl _) _).alloc (by simp) _
  have hz1 : W1.heap.size = w.heap.size + 2 := by rw [hW1]; simp
  have hs1 : W1.heap[G]? = some (.cells #[.int .i64 wide, .slice aL nL cL] 69 (0, 0)) := by
    rw [hW1, hG]
    exact (hao _ _ (by simp)).trans (heap_alloc_new w _)
  have hs2 : W1.heap[L]? = some (.cells #[.slice aR nR cR, .slice aS nS cS] 74 (0, 0)) := by
    rw [hW1, hL]
    have := heap_alloc_new (w.alloc (.cells #[.int .i64 wide, .slice aL nL cL] 69)) (.cells #[.slice aR nR cR, .slice aS nS cS] 74)
    simpa using this
  have HCC : Hid (∀ W, Below W1.heap.size W1 W → (W.cell? ⟨G, 0, none⟩ = some (.int .i64 wide) ∧ W.cell? ⟨G, 1, none⟩ = some (.slice aL nL cL)) ∧ W.cell? ⟨L, 0, none⟩ = some (.slice aR nR cR) ∧ W.cell? ⟨L, 1, none⟩ = some (.slice aS nS cS)) := fun W hW => by
    have e1 := (hW.block G (by omega)).trans hs1
    have e2 := (hW.block L (by omega)).trans hs2
    exact ⟨⟨by simp [World.cell?, e1], by simp [World.cell?, e1]⟩, by simp [World.cell?, e2], by simp [World.cell?, e2]⟩
  have HBW : Hid (∀ W, Below W1.heap.size W1 W → Below w.heap.size w W) := fun W hW => hb1.trans (hW.mono (by omega))
  have HFO : Hid (Calls Tryz.prog 91 #[.agg #[.int .i64 wide, .slice aL nL cL]] W1 fun e w' => e = .returned (errz (flt wide lys)) ∧ Below W1.heap.size W1 w') := by
    have h := faultOf_any wide cL aL lys W1 hB (hl.step hb1)
    rw [← hnL] at h
    exact h
  rw [hF, errz_nil] at HFO
  have HW1 := hid hW1
  have HGE := hid hG
  have HLE := hid hL
  obtain ⟨S, hSS⟩ : ∃ S : Nat → GSt, S = gst q n wide lys Rs Ls (gs0 q n wide lys outs) := ⟨_, rfl⟩
  have HOK : Hid (∀ i, i ≤ nL → GsI wide lys i (S i)) := fun i hi => by rw [hSS]; exact gst_ok h3 h4 n wide lys outs Rs Ls i (by omega)
  have HGO : Hid (GcO q n wide lys outs Rs Ls ↔ ∀ i, i < nL → GlO q n (bnn wide lys (nL - 1 - i)) (lyt lys (nL - 1 - i)) (rrt Rs i) (rat Ls i) (S i)) := by
    rw [hSS, hnL]
    exact ⟨fun h => h.2, fun h => ⟨⟨hF, hol, hRl, hLl⟩, h⟩⟩
  have HNX : Hid (∀ i, S (i + 1) = gnx q n (bnn wide lys (nL - 1 - i)) (rrt Rs i) (rat Ls i) (S i)) := fun i => by rw [hSS, hnL]; rfl
  have HITW : Hid (∀ W, Below w.heap.size w W → InT q b W) := fun W hW => hIT.below hW
  have hbw : b < w.heap.size := heap_lt hIT.cell
  have htb : 2 < w.heap.size := cell_lt (hIT.tab 0 (by decide))
  have HBG : Hid (∀ W, Below w.heap.size w W → Calls Tryz.prog 81 #[.pointer (some ⟨sp, 0, none⟩), .agg #[.int .i64 wide, .slice aL nL cL], .slice ao no co] W fun e w' => ∃ r az cz, e = .returned (.tuple #[.pointer (some ⟨r, 0, none⟩), .slice az (S 0).z.length cz]) ∧ W.heap.size ≤ r ∧ PCh w.heap.size q n w' r (S 0).D ∧ NumL w' az cz (S 0).z ∧ Below W.heap.size W w') := fun W hW => by
    have h := gbegin_any w.heap.size q n (bnn wide lys lys.length) d sp b cL co wide aL ao lys outs W ok (hsp.below hW hsp.lt hsp.ltb) hW.size hsp.lt hbw h23 h4 (hIT.below hW).tab hS hB (hl.step hW) hv6 hout fo ((lo.below hW).mono hW.size)
    rw [← hnL, ← hno] at h
    have e0 : (S 0).z.length = bnn wide lys nL := by have := (HOK.out 0 (Nat.zero_le _)).len; rw [← hnL] at this; exact this
    rw [e0, hSS]
    rw [show gst q n wide lys Rs Ls (gs0 q n wide lys outs) 0 = gs0 q n wide lys outs from rfl]
    unfold gs0
    rw [← hnL]
    exact h
  have HEX : Hid (∀ W az cz, Below w.heap.size w W → NumL W az cz (S 0).z → Calls Tryz.prog 93 #[.pointer (some ⟨b, 0, none⟩), .slice ao no co, .slice az (S 0).z.length cz] W fun e w' => e = .returned (.int .i64 (S 0).c) ∧ Below W.heap.size W w') := fun W az cz hW hz => by
    have hk := (HOK.out 0 (Nat.zero_le _))
    have h := extended_any q b (bnn wide lys lys.length) co cz ao az outs (S 0).z W (hIT.below hW) hv6 hout hk.len fo hk.fit ((lo.below hW).mono hW.size) hz.1.row
    rw [← hno] at h
    have e0 : (S 0).c = Sum.ext (zat outs) (zat (S 0).z) (bnn wide lys lys.length) % (q : Int) := by rw [hSS]; rfl
    rw [e0]
    exact h
  have HFI : Hid (∀ W, Below w.heap.size w W → Calls Tryz.prog 9 #[.pointer (some ⟨sp, 0, none⟩)] W fun e w' => e = .returned (.pointer (some ⟨b, 0, none⟩)) ∧ w' = W) := fun W hW => sfield_any q n d b sp W (hsp.below hW hsp.lt hsp.ltb)
  have HLVL : Hid (∀ W ly, Below w.heap.size w W → ly < nL → Calls Tryz.prog 82 #[.pointer (some ⟨b, 0, none⟩), .agg #[.int .i64 wide, .slice aL nL cL], .int .i64 (ly : Int)] W fun e w' => ∃ ag cg, e = .returned (.agg #[.pointer (some ⟨b, 0, none⟩), .slice ag (lyt lys ly).length cg, .int .i64 (bnn wide lys ly : Int)]) ∧ LstG w.heap.size w ag cg (lyt lys ly) ∧ Below W.heap.size W w') := fun W ly hW hly => by
    have h := levelOf_at w.heap.size b ly cL wide aL lys W hS (by omega) (hl.below hW) hW.size (hIT.below hW).tab
    rw [← hnL] at h
    refine h.mono ?_
    rintro e w' ⟨ag, cg, rfl, h1, h2⟩
    exact ⟨ag, cg, rfl, h1.back hW, h2⟩
  have HRR : Hid (∀ i, i < nL → ∃ bR oR ar cr, aR = some ⟨bR, oR, none⟩ ∧ ∀ W, Below w.heap.size w W → W.cell? ⟨bR, oR + i, none⟩ = some (.slice ar (rrt Rs i).length cr) ∧ LstR w.heap.size W ar cr (rrt Rs i)) := fun i hi => by
    obtain ⟨b1, o1, ak, ck, e1, e2, e3, e4⟩ := hRs.row i (by omega)
    exact ⟨b1, o1, ak, ck, e1, fun W hW => ⟨(hW.cell (p := ⟨b1, o1 + i, none⟩) e2).trans e3, e4.below hW⟩⟩
  have HLL : Hid (∀ i, i < nL → ∃ bS oS al cl, aS = some ⟨bS, oS, none⟩ ∧ ∀ W, Below w.heap.size w W → W.cell? ⟨bS, oS + i, none⟩ = some (.slice al (rat Ls i).length cl) ∧ Lst w.heap.size W al cl (rat Ls i)) := fun i hi => by
    obtain ⟨b1, o1, ak, ck, e1, e2, e3, e4⟩ := hLs.row i (by omega)
    exact ⟨b1, o1, ak, ck, e1, fun W hW => ⟨(hW.cell (p := ⟨b1, o1 + i, none⟩) e2).trans e3, e4.below hW⟩⟩
  have HSEE : Hid (∀ (W : World) (i c ar' : Nat) (ag az ar al : Option Addr) (cg cz cr cl : Nat), i < nL → Below w.heap.size w W → PCh w.heap.size q n W c (S i).D → LstG w.heap.size W ag cg (lyt lys (nL - 1 - i)) → NumL W az cz (S i).z → LstR w.heap.size W ar cr (rrt Rs i) → Lst w.heap.size W al cl (rat Ls i) →
      Calls Tryz.prog 94 #[.agg #[.pointer (some ⟨b, 0, none⟩), .slice ag (lyt lys (nL - 1 - i)).length cg, .int .i64 (bnn wide lys (nL - 1 - i) : Int)], .pointer (some ⟨c, 0, none⟩), .agg #[.slice az (S i).z.length cz, .int .i64 (S i).c], .slice ar (rrt Rs i).length cr, .slice al (rat Ls i).length cl] W fun e w' =>
        (GlO q n (bnn wide lys (nL - 1 - i)) (lyt lys (nL - 1 - i)) (rrt Rs i) (rat Ls i) (S i) → ∃ a' c', e = .returned (.tuple #[.agg #[.slice a' (S (i + 1)).z.length c', .int .i64 (S (i + 1)).c], .bool true]) ∧ NumL w' a' c' (S (i + 1)).z ∧ PCh w.heap.size q n w' c (S (i + 1)).D) ∧ (¬ GlO q n (bnn wide lys (nL - 1 - i)) (lyt lys (nL - 1 - i)) (rrt Rs i) (rat Ls i) (S i) → e = .returned (.tuple #[.agg #[.slice none 0 0, .int .i64 0], .bool false])) ∧ W.grownBy w' (some c)) := fun W i c _ ag az ar al cg cz cr cl hi hW hP hg hz hr hla => by
    have hk := HOK.out i (by omega)
    have hk1 := HOK.out (i + 1) (by omega)
    have hly : nL - 1 - i < lys.length := by omega
    have hbn := hS.bn (show nL - 1 - i ≤ lys.length by omega)
    have hzl : (S i).z.length ≤ 6 := by rw [hk.len]; exact (hS.bn (show lys.length - i ≤ lys.length by omega)).2
    have hz1 : (S (i + 1)).z.length = bnn wide lys (nL - 1 - i) := by rw [hk1.len, ← hnL, show nL - (i + 1) = nL - 1 - i from by omega]
    have h := seen_any w.heap.size q n c b (bnn wide lys (nL - 1 - i)) cg cz cr cl ag az ar al (lyt lys (nL - 1 - i)) (rrt Rs i) (rat Ls i) (S i) W h23 (hIT.below hW) hbw hP hk.dig hbn.2 hg (by rw [(hS.own hly).1]; exact pow_6 (hS.bn (show nL - 1 - i + 1 ≤ lys.length by omega)).2) (fun k hk' => ⟨((hGC _ hly k hk').2.1).1, ((hGC _ hly k hk').2.2).1⟩) hzl hk.fit hz hr ⟨(hLB.r1 i (by omega)).1, fun k hk' => ((hLB.r1 i (by omega)).2 k hk').1⟩ (fun k hk' => ((hLB.r1 i (by omega)).2 k hk').2) hla (hLB.l1 i (by omega)).1 (hLB.l1 i (by omega)).2 hk.c htb
    rw [hz1, HNX.out i]
    exact h
  obtain ⟨b1, o1, a1, c1, rfl, hbb, hx1, _⟩ := hl.row (lys.length - 1) (by omega)
  have HX1 : Hid (∀ W, Below w.heap.size w W → W.cell? ⟨b1, o1 + (lys.length - 1), none⟩ = some (.slice a1 (lyt lys (lys.length - 1)).length c1)) := fun W hW => (hW.cell (p := ⟨b1, o1 + (lys.length - 1), none⟩) hbb).trans hx1
  have t1 : ((no : Int) != ((lyt lys (lys.length - 1)).length : Int)) = false := by simp; omega
  have t2 : ((nR : Int) != (nL : Int)) = false := by simp; omega
  have t3 : ((nS : Int) != (nL : Int)) = false := by simp; omega
  obtain ⟨nq, hnq⟩ : ∃ nq, nq = (lyt lys (lys.length - 1)).length := ⟨_, rfl⟩
  obtain ⟨nk, hnk⟩ : ∃ nk, nk = lys.length - 1 := ⟨_, rfl⟩
  rw [← hnq] at t1 HX1
  rw [← hnk] at HX1
  have hsub : IntKind.i64.wrap ((nL : Int) - 1) = (nk : Int) := by rw [IntKind.wrap_i64]; omega
  have hkl : nk < nL := by omega
  have hnz : ¬ (nk : Int) < 0 := by omega
  have hkl2 : (nk : Int) < (nL : Int) := by omega
  have hnR2 : nR = nL := by omega
  have hnS2 : nS = nL := by omega
  have HNK : Hid ((nk : Int) = (nL : Int) - 1) := by unfold Hid; omega
  have hL8 : nL ≤ 8 := by omega
  have HZ1 : Hid (W1.heap.size = w.heap.size + 2) := hz1
  rw [← hSS, ← hnL, ← hno, ← hnR, ← hnS]
  rw [hnR2, hnS2] at HCC HW1 ⊢
  clear hnL hno hnR hnS hW1 hG hL hs1 hs2 hz1 hb1 hB hl lo fo hRs hLs hLB ok hsp hIT hF hnq hnk hS hGC h8 hx1 hol hRl hLl hout hv6 hSS hnR2 hnS2 t2 t3
  have t2 : ((nL : Int) != (nL : Int)) = false := by simp
  go_enter Tryz.func35, Tryz.ntmps35
  go_wp2_with fail
  rw [← HW1.out]
  refine HFO.out.mono ?_
  rintro e w2 ⟨rfl, hb2⟩
  obtain ⟨⟨k0, k1⟩, k2, k3⟩ := HCC.out w2 hb2
  have x1 := HX1.out w2 (HBW.out w2 hb2)
  have HB2 := hid hb2
  have HBGX := hid (HBG.out w2 (HBW.out w2 hb2))
  rw [HGE.out] at k0 k1
  rw [HLE.out] at k2 k3
  clear hb2 HBG HFO
  go_wp2_with fail
  refine HBGX.out.mono ?_
  rintro e w3 ⟨c, az, cz, rfl, hc3, hP3, hz3, hb3⟩
  have HB3 : Hid (Below W1.heap.size W1 w3) := HB2.out.trans (hb3.mono HB2.out.size)
  have HP3 := hid hP3
  have HZ3 := hid hz3
  have HFX := hid (HFI.out w3 (HBW.out w3 HB3.out))
  have HEXX := hid (HEX.out w3 az cz (HBW.out w3 HB3.out) hz3)
  have hc3l := hP3.lt
  have HCW : Hid (W1.heap.size ≤ c) := by have := HB2.out.size; unfold Hid; omega
  rw [← HLE.out, ← HGE.out]
  clear hc3 hP3 hz3 hb3 HBGX HEX x1 k0 k1 k2 k3 t1 t2
  go_wp2_with fail
  refine HFX.out.mono ?_
  rintro e w4 ⟨rfl, hw⟩
  have hw1 := hw.symm
  subst hw1
  clear hw HFX
  go_wp2_with fail
  refine HEXX.out.mono ?_
  rintro e w4 ⟨rfl, hb4⟩
  have HB4 : Hid (Below W1.heap.size W1 w4) := HB3.out.trans (hb4.mono HB3.out.size)
  obtain ⟨WN, hWN⟩ : ∃ WN, WN = w4.alloc (.cells #[.slice az (S 0).z.length cz, .int .i64 (S 0).c] 164) := ⟨_, rfl⟩
  obtain ⟨hbN, hsN, hzN⟩ := own_blk hWN
  obtain ⟨N, hN⟩ : ∃ N, N = w4.heap.size := ⟨_, rfl⟩
  have HNW : Hid (W1.heap.size ≤ N) := by have := HB4.out.size; unfold Hid; omega
  have HCN : Hid (c < N) := by have := hb4.size; unfold Hid; omega
  have HBN : Hid (Below W1.heap.size W1 WN) := HB4.out.trans (hbN.mono HB4.out.size)
  have HRN : Hid (WN.rowIs N 164 2 (dub (.slice az (S 0).z.length cz) (.int .i64 (S 0).c))) := by rw [hWN, hN]; exact dub_new w4 _ _ _
  have HPN : Hid (PCh w.heap.size q n WN c (S 0).D) := (HP3.out.below hb4).below hbN
  have HZN : Hid (NumL WN az cz (S 0).z) := (HZ3.out.below hb4).below hbN
  obtain ⟨⟨k0, k1⟩, k2, k3⟩ := HCC.out WN HBN.out
  have HWN := hid hWN
  have HNE := hid hN
  have k1x := k1
  rw [hWN] at k1x
  clear hb4 HEXX hbN hsN hzN HB4 HP3 HZ3 HB3 hWN hN k0 k1 k2 k3
  go_wp2_with fail
  rw [← HNE.out, ← HWN.out]
  clear k1x HWN
  have hmx : Tryz.prog.follows .mixedOrders = true := by kernel_rfl
  go_loopw [10, 14, 15, 66] (fun _ _ _ iv wr => ∃ i : Nat, i ≤ nL ∧ iv = .int .i64 (i : Int) ∧ Hid (∀ j, j < i → GlO q n (bnn wide lys (nL - 1 - j)) (lyt lys (nL - 1 - j)) (rrt Rs j) (rat Ls j) (S j)) ∧ Hid (∃ az cz, wr.rowIs N 164 2 (dub (.slice az (S i).z.length cz) (.int .i64 (S i).c)) ∧ NumL wr az cz (S i).z ∧ PCh w.heap.size q n wr c (S i).D ∧ Below W1.heap.size W1 wr)) (fun _ _ _ iv _ => nL - (intOf iv).toNat)
  case atStart => exact ⟨0, Nat.zero_le _, rfl, fun j hj => absurd hj (Nat.not_lt_zero _), az, cz, HRN.out, HZN.out, HPN.out, HBN.out⟩
  case round =>
    obtain ⟨i, hi, rfl, hAll, hI⟩ := hrel
    obtain ⟨az, cz, hrow, hnz', hPi, hbl⟩ := hI.out
    by_cases hlt : i < nL
    · have hlt2 : (i : Int) < (nL : Int) := by omega
      have hks : IntKind.i64.wrap ((i : Int) + 1) = (i : Int) + 1 := by rw [IntKind.wrap_i64]; omega
      obtain ⟨ly, hlyE⟩ : ∃ ly, ly = nL - 1 - i := ⟨_, rfl⟩
      have HLYE := hid hlyE
      have hly : ly < nL := by omega
      have hsub2 : IntKind.i64.wrap ((nk : Int) - (i : Int)) = (ly : Int) := by have := HNK.out; rw [IntKind.wrap_i64]; omega
      obtain ⟨bR, oR, ar, cr, rfl, hrr⟩ := HRR.out i hlt
      obtain ⟨bS, oS, al, cl, rfl, hll⟩ := HLL.out i hlt
      have HRRX := hid hrr
      have HLLX := hid hll
      have HBD0 : Below wr.heap.size wr wr.drew := (Below.refl _ _).drew
      have HRD : Hid (wr.drew.rowIs N 164 2 (dub (.slice az (S i).z.length cz) (.int .i64 (S i).c))) := hrow
      have HZD : Hid (NumL wr.drew az cz (S i).z) := hnz'.below HBD0
      have HPD : Hid (PCh w.heap.size q n wr.drew c (S i).D) := hPi.below HBD0
      have HWD : Hid (Below W1.heap.size W1 wr.drew) := hbl.drew
      have HND : Hid (N < wr.drew.heap.size) := World.rowIs.lt hrow
      have HCD : Hid (c < wr.drew.heap.size) := hPi.lt
      have HSC : Hid (∀ W, Below W1.heap.size W1 W → W.cell? ⟨G, 0, none⟩ = some (.int .i64 wide) ∧ W.cell? ⟨G, 1, none⟩ = some (.slice (some ⟨b1, o1, none⟩) nL cL)) := fun W hW => (HCC.out W hW).1
      clear hI hrow hnz' hPi hbl hrr hll hlyE HBD0
      go_wp2_with fail
      refine wp_region_held_drew (S := fun W => W.cell? ⟨G, 0, none⟩ = some (.int .i64 wide) ∧ W.cell? ⟨G, 1, none⟩ = some (.slice (some ⟨b1, o1, none⟩) nL cL)) (by kernel_rfl) (HSC.out _ HWD.out) (fun hHeld => ?_)
      generalize wr.drew = WD at *
      refine wpAnyH_takeU (i := 0) (v := .pointer (some ⟨sp, 0, none⟩)) rfl (by kernel_rfl) (by kernel_rfl) (by kernel_rfl) (fun _ _ _ h => h) (by rfl) (fun W hC => by go_simp) hHeld ?_
      simp only [Act.put, List.setIfInBounds_toArray, List.set_cons_zero, List.set_cons_succ]
      refine wpAnyH_takeU (i := 2) (v := .agg #[.int .i64 wide, .slice (some ⟨b1, o1, none⟩) nL cL]) rfl (by kernel_rfl) (by kernel_rfl) (by kernel_rfl) (fun _ _ _ h => h) (by rfl) (fun W hC => by (obtain ⟨x1, x2⟩ := hC); go_simp) hHeld ?_
      simp only [Act.put, List.setIfInBounds_toArray, List.set_cons_zero, List.set_cons_succ]
      refine wpAnyH_takeU (i := 3) (v := .pointer (some ⟨G, 1, none⟩)) rfl (by kernel_rfl) (by kernel_rfl) (by kernel_rfl) (fun _ _ _ h => h) (by rfl) (fun W hC => by go_simp) hHeld ?_
      simp only [Act.put, List.setIfInBounds_toArray, List.set_cons_zero, List.set_cons_succ]
      refine wpAnyH_takeU (i := 4) (v := .slice (some ⟨b1, o1, none⟩) nL cL) rfl (by kernel_rfl) (by kernel_rfl) (by kernel_rfl) (fun _ _ _ h => h) (by rfl) (fun W hC => by (obtain ⟨x1, x2⟩ := hC); go_simp) hHeld ?_
      simp only [Act.put, List.setIfInBounds_toArray, List.set_cons_zero, List.set_cons_succ]
      refine wpAnyH_takeU (i := 5) (v := .int .i64 (nL : Int)) rfl (by kernel_rfl) (by kernel_rfl) (by kernel_rfl) (fun _ _ _ h => h) (by rfl) (fun W hC => by go_simp) hHeld ?_
      simp only [Act.put, List.setIfInBounds_toArray, List.set_cons_zero, List.set_cons_succ]
      refine wpAnyH_takeU (i := 6) (v := .int .i64 (nk : Int)) rfl (by kernel_rfl) (by kernel_rfl) (by kernel_rfl) (fun _ _ _ h => h) (by rfl) (fun W hC => by go_simp) hHeld ?_
      simp only [Act.put, List.setIfInBounds_toArray, List.set_cons_zero, List.set_cons_succ]
      refine wpAnyH_takeU (i := 7) (v := .int .i64 (i : Int)) rfl (by kernel_rfl) (by kernel_rfl) (by kernel_rfl) (fun _ _ _ h => h) (by rfl) (fun W hC => by go_simp) hHeld ?_
      simp only [Act.put, List.setIfInBounds_toArray, List.set_cons_zero, List.set_cons_succ]
      refine wpAnyH_takeU (i := 8) (v := .int .i64 (ly : Int)) rfl (by kernel_rfl) (by kernel_rfl) (by kernel_rfl) (fun _ _ _ h => h) (by rfl) (fun W hC => by go_simp) hHeld ?_
      simp only [Act.put, List.setIfInBounds_toArray, List.set_cons_zero, List.set_cons_succ]
      refine wpAnyH_ready (rs := [1, 10]) (by kernel_rfl) (by simp) ?_
      refine AllReadyH.consU rfl (fun K' hK' => ?_) (AllReadyH.consU rfl (fun K' hK' => ?_) AllReadyH.nil)
      · go_simp
        refine (HFI.out _ (HBW.out _ HWD.out)).mono ?_
        rintro e w3 ⟨rfl, hw⟩
        have hw1 := hw.symm
        subst hw1
        clear hw
        refine hK'.out _ _ (HSC.out _ HWD.out) (fun hHeld => ?_)
        clear hK' K'
        refine wpAnyH_ready (rs := [9, 10]) (by kernel_rfl) (by simp) ?_
        refine AllReadyH.consU rfl (fun K' hK' => ?_) (AllReadyH.consU rfl (fun K' hK' => ?_) AllReadyH.nil)
        · skip
          go_simp
          refine (HLVL.out _ ly (HBW.out _ HWD.out) hly).mono ?_
          rintro e w5 ⟨ag, cg, rfl, hlg, hbw5⟩
          have Hw5 : Hid (Below W1.heap.size W1 w5) := HWD.out.trans (hbw5.mono (HWD.out).size)
          refine hK'.out _ _ (HSC.out _ Hw5.out) (fun hHeld => ?_)
          clear hK' K'
          refine wpAnyH_ready (rs := [10]) (by kernel_rfl) (by simp) ?_
          refine AllReadyH.consU rfl (fun K' hK' => ?_) AllReadyH.nil
          go_simp
          obtain ⟨w6, hw6⟩ : ∃ w6, w6 = (w5).alloc (.cells #[.pointer none, .slice none 0 0, .int .i64 0] 149) := ⟨_, rfl⟩
          rw [← hw6]
          obtain ⟨hbw6, hsw6, _⟩ := own_blk hw6
          clear hw6
          have Hw6 : Hid (Below W1.heap.size W1 w6) := Hw5.out.trans (hbw6.mono (Hw5.out).size)
          refine hK'.out _ _ (HSC.out _ Hw6.out) (fun hHeld => ?_)
          clear hK' K'
          refine wpAnyH_ready (rs := [11]) (by kernel_rfl) (by simp) ?_
          refine AllReadyH.consU rfl (fun K' hK' => ?_) AllReadyH.nil
          rw [if_pos (by rfl)]
          refine wp_store_row 149 _ _ rfl w5.heap.size #[.pointer (some ⟨b, 0, none⟩), .slice ag (lyt lys ly).length cg, .int .i64 (bnn wide lys ly : Int)] rfl rfl _ _ hsw6 (by kernel_rfl) rfl (by simp [Value.oneCell']) ?_
          have hlv := setRow_heap _ _ _ (#[.pointer (some ⟨b, 0, none⟩), .slice ag (lyt lys ly).length cg, .int .i64 (bnn wide lys ly : Int)] : Array Value) _ _ (hsw6)
          have hbv : Below WD.heap.size WD ((w6).setRow w5.heap.size #[.pointer (some ⟨b, 0, none⟩), .slice ag (lyt lys ly).length cg, .int .i64 (bnn wide lys ly : Int)]) := below_setRow (hbw5.trans (hbw6.mono hbw5.size)) (hbw5.size) _
          have Hv : Hid (Below W1.heap.size W1 ((w6).setRow w5.heap.size #[.pointer (some ⟨b, 0, none⟩), .slice ag (lyt lys ly).length cg, .int .i64 (bnn wide lys ly : Int)])) := HWD.out.trans (hbv.mono HWD.out.size)
          obtain ⟨W9, hW9⟩ : ∃ W9, W9 = (w6).setRow w5.heap.size #[.pointer (some ⟨b, 0, none⟩), .slice ag (lyt lys ly).length cg, .int .i64 (bnn wide lys ly : Int)] := ⟨_, rfl⟩
          rw [← hW9] at hlv hbv Hv ⊢
          obtain ⟨g, hgg⟩ : ∃ g, g = w5.heap.size := ⟨_, rfl⟩
          have hgD : WD.heap.size ≤ g := by rw [hgg]; exact hbw5.size
          rw [← hgg] at hlv ⊢
          refine hK'.out _ _ (HSC.out _ Hv.out) (fun hHeld => ?_)
          clear hK' K' hHeld hW9 hgg
          refine wpAnyH_done (by kernel_rfl) ?_ _
          have HBE : Hid (Below w.heap.size w W9.drew) := (HBW.out _ Hv.out).drew
          have hPE : PCh w.heap.size q n W9.drew c (S i).D := (HPD.out.below hbv).below (Below.refl _ _).drew
          have hzE : NumL W9.drew az cz (S i).z := (HZD.out.below hbv).below (Below.refl _ _).drew
          have HSE := hid (HSEE.out W9.drew i c 0 ag az ar al cg cz cr cl hlt HBE.out hPE (by rw [← HLYE.out]; exact hlg.below HBE.out) hzE (HRRX.out _ HBE.out).2 (HLLX.out _ HBE.out).2)
          rw [← HLYE.out] at HSE
          have hcW : W1.heap.size ≤ c := HCW.out
          have hND := HND.out
          have hCN := HCN.out
          have HR9 : Hid (∀ W, W9.grownBy W (some c) → W.rowIs N 164 2 (dub (.slice az (S i).z.length cz) (.int .i64 (S i).c))) := fun W hW => World.rowIs.of_block HRD.out ((gb_blk hW (by have := hbv.size; omega) (by omega)).trans (hbv.block N (by omega)))
          have HB9 : Hid (∀ W, W9.grownBy W (some c) → Below W1.heap.size W1 W) := fun W hW => Hv.out.trans (gb_to hW hcW Hv.out.size)
          have hg9 : g < W9.heap.size := (Array.getElem?_eq_some_iff.1 hlv).1
          have HSS : Hid (∀ W, W9.grownBy W (some c) → (W.cell? ⟨g, 0, none⟩ = some (.pointer (some ⟨b, 0, none⟩)) ∧ W.cell? ⟨g, 1, none⟩ = some (.slice ag (lyt lys ly).length cg) ∧ W.cell? ⟨g, 2, none⟩ = some (.int .i64 (bnn wide lys ly : Int))) ∧ (W.cell? ⟨N, 0, none⟩ = some (.slice az (S i).z.length cz) ∧ W.cell? ⟨N, 1, none⟩ = some (.int .i64 (S i).c)) ∧ (W.cell? ⟨L, 0, none⟩ = some (.slice (some ⟨bR, oR, none⟩) nL cR) ∧ W.cell? ⟨L, 1, none⟩ = some (.slice (some ⟨bS, oS, none⟩) nL cS)) ∧ W.cell? ⟨bR, oR + i, none⟩ = some (.slice ar (rrt Rs i).length cr) ∧ W.cell? ⟨bS, oS + i, none⟩ = some (.slice al (rat Ls i).length cl)) := fun W hW => by
            have e := (gb_blk hW hg9 (by have := HCD.out; omega)).trans hlv
            have hr := HR9.out W hW
            have hw := HBW.out _ (HB9.out W hW)
            exact ⟨⟨by simp [World.cell?, e], by simp [World.cell?, e], by simp [World.cell?, e]⟩, ⟨hr.cell (i := 0) (by decide), hr.cell (i := 1) (by decide)⟩, (HCC.out W (HB9.out W hW)).2, (HRRX.out W hw).1, (HLLX.out W hw).1⟩
          have HGE9 : Hid (W9.grownBy W9.drew (some c)) := gb_below (Below.refl _ _).drew
          clear hPE hzE hlg hlv hg9
          by_cases hgl : GlO q n (bnn wide lys ly) (lyt lys ly) (rrt Rs i) (rat Ls i) (S i)
          · have HSY : Hid (Calls Tryz.prog 94 _ W9.drew fun e w' => ∃ a' c', e = .returned (.tuple #[.agg #[.slice a' (S (i + 1)).z.length c', .int .i64 (S (i + 1)).c], .bool true]) ∧ NumL w' a' c' (S (i + 1)).z ∧ PCh w.heap.size q n w' c (S (i + 1)).D ∧ W9.drew.grownBy w' (some c)) := HSE.out.mono (fun e w' h => by obtain ⟨a', c', e1, e2, e3⟩ := h.1 hgl; exact ⟨a', c', e1, e2, e3, h.2.2⟩)
            have HAL : Hid (∀ j, j < i + 1 → GlO q n (bnn wide lys (nL - 1 - j)) (lyt lys (nL - 1 - j)) (rrt Rs j) (rat Ls j) (S j)) := fun j hj => by
              by_cases e : j = i
              · rw [e, ← HLYE.out]; exact hgl
              · exact hAll.out j (by omega)
            clear HSE hgl
            go_wp2_with fail
            refine wp_region_S (C := fun W => (W.cell? ⟨g, 0, none⟩ = some (.pointer (some ⟨b, 0, none⟩)) ∧ W.cell? ⟨g, 1, none⟩ = some (.slice ag (lyt lys ly).length cg) ∧ W.cell? ⟨g, 2, none⟩ = some (.int .i64 (bnn wide lys ly : Int))) ∧ (W.cell? ⟨N, 0, none⟩ = some (.slice az (S i).z.length cz) ∧ W.cell? ⟨N, 1, none⟩ = some (.int .i64 (S i).c)) ∧ (W.cell? ⟨L, 0, none⟩ = some (.slice (some ⟨bR, oR, none⟩) nL cR) ∧ W.cell? ⟨L, 1, none⟩ = some (.slice (some ⟨bS, oS, none⟩) nL cS)) ∧ W.cell? ⟨bR, oR + i, none⟩ = some (.slice ar (rrt Rs i).length cr) ∧ W.cell? ⟨bS, oS + i, none⟩ = some (.slice al (rat Ls i).length cl)) (st := [17]) hmx ?_
            refine wpAnyS_take (i := 0) (v := .agg #[.pointer (some ⟨b, 0, none⟩), .slice ag (lyt lys ly).length cg, .int .i64 (bnn wide lys ly : Int)]) rfl (by kernel_rfl) (by kernel_rfl) (by kernel_rfl) (by kernel_rfl) (by kernel_rfl) (by kernel_rfl) (fun _ _ _ h => h) (Or.inl ⟨by rfl, fun W hC => by (obtain ⟨⟨x1, x2, x3⟩, ⟨x4, x5⟩, ⟨x6, x7⟩, x8, x9⟩ := hC); go_simp⟩) (HSS.out _ HGE9.out) ?_
            refine wpAnyS_pure (i := 1) (v := .pointer (some ⟨c, 0, none⟩)) rfl (by kernel_rfl) (by kernel_rfl) (by kernel_rfl) (by kernel_rfl) (fun _ _ _ h => h) (Or.inl ⟨by rfl, fun W _ => by go_simp⟩) (fun _ => HSS.out _ HGE9.out) ?_
            refine wpAnyS_take (i := 2) (v := .agg #[.slice az (S i).z.length cz, .int .i64 (S i).c]) rfl (by kernel_rfl) (by kernel_rfl) (by kernel_rfl) (by kernel_rfl) (by kernel_rfl) (by kernel_rfl) (fun _ _ _ h => h) (Or.inl ⟨by rfl, fun W hC => by (obtain ⟨⟨x1, x2, x3⟩, ⟨x4, x5⟩, ⟨x6, x7⟩, x8, x9⟩ := hC); go_simp⟩) (HSS.out _ HGE9.out) ?_
            refine wpAnyS_pure (i := 3) (v := .pointer (some ⟨L, 0, none⟩)) rfl (by kernel_rfl) (by kernel_rfl) (by kernel_rfl) (by kernel_rfl) (fun _ _ _ h => h) (Or.inl ⟨by rfl, fun W _ => by go_simp⟩) (fun _ => HSS.out _ HGE9.out) ?_
            refine wpAnyS_take (i := 4) (v := .slice (some ⟨bR, oR, none⟩) nL cR) rfl (by kernel_rfl) (by kernel_rfl) (by kernel_rfl) (by kernel_rfl) (by kernel_rfl) (by kernel_rfl) (fun _ _ _ h => h) (Or.inl ⟨by rfl, fun W hC => by (obtain ⟨⟨x1, x2, x3⟩, ⟨x4, x5⟩, ⟨x6, x7⟩, x8, x9⟩ := hC); go_simp⟩) (HSS.out _ HGE9.out) ?_
            refine wpAnyS_pure (i := 5) (v := .int .i64 (i : Int)) rfl (by kernel_rfl) (by kernel_rfl) (by kernel_rfl) (by kernel_rfl) (fun _ _ _ h => h) (Or.inl ⟨by rfl, fun W _ => by go_simp⟩) (fun _ => HSS.out _ HGE9.out) ?_
            refine wpAnyS_pure (i := 6) (v := .pointer (some ⟨bR, oR + i, none⟩)) rfl (by kernel_rfl) (by kernel_rfl) (by kernel_rfl) (by kernel_rfl) (fun _ _ _ h => h) (Or.inl ⟨by rfl, fun W _ => by go_simp⟩) (fun _ => HSS.out _ HGE9.out) ?_
            refine wpAnyS_take (i := 7) (v := .slice ar (rrt Rs i).length cr) rfl (by kernel_rfl) (by kernel_rfl) (by kernel_rfl) (by kernel_rfl) (by kernel_rfl) (by kernel_rfl) (fun _ _ _ h => h) (Or.inl ⟨by rfl, fun W hC => by (obtain ⟨⟨x1, x2, x3⟩, ⟨x4, x5⟩, ⟨x6, x7⟩, x8, x9⟩ := hC); go_simp⟩) (HSS.out _ HGE9.out) ?_
            refine wpAnyS_pure (i := 8) (v := .pointer (some ⟨L, 1, none⟩)) rfl (by kernel_rfl) (by kernel_rfl) (by kernel_rfl) (by kernel_rfl) (fun _ _ _ h => h) (Or.inl ⟨by rfl, fun W _ => by go_simp⟩) (fun _ => HSS.out _ HGE9.out) ?_
            refine wpAnyS_take (i := 9) (v := .slice (some ⟨bS, oS, none⟩) nL cS) rfl (by kernel_rfl) (by kernel_rfl) (by kernel_rfl) (by kernel_rfl) (by kernel_rfl) (by kernel_rfl) (fun _ _ _ h => h) (Or.inl ⟨by rfl, fun W hC => by (obtain ⟨⟨x1, x2, x3⟩, ⟨x4, x5⟩, ⟨x6, x7⟩, x8, x9⟩ := hC); go_simp⟩) (HSS.out _ HGE9.out) ?_
            refine wpAnyS_pure (i := 10) (v := .int .i64 (i : Int)) rfl (by kernel_rfl) (by kernel_rfl) (by kernel_rfl) (by kernel_rfl) (fun _ _ _ h => h) (Or.inl ⟨by rfl, fun W _ => by go_simp⟩) (fun _ => HSS.out _ HGE9.out) ?_
            refine wpAnyS_pure (i := 11) (v := .pointer (some ⟨bS, oS + i, none⟩)) rfl (by kernel_rfl) (by kernel_rfl) (by kernel_rfl) (by kernel_rfl) (fun _ _ _ h => h) (Or.inl ⟨by rfl, fun W _ => by go_simp⟩) (fun _ => HSS.out _ HGE9.out) ?_
            refine wpAnyS_take (i := 12) (v := .slice al (rat Ls i).length cl) rfl (by kernel_rfl) (by kernel_rfl) (by kernel_rfl) (by kernel_rfl) (by kernel_rfl) (by kernel_rfl) (fun _ _ _ h => h) (Or.inl ⟨by rfl, fun W hC => by (obtain ⟨⟨x1, x2, x3⟩, ⟨x4, x5⟩, ⟨x6, x7⟩, x8, x9⟩ := hC); go_simp⟩) (HSS.out _ HGE9.out) ?_
            refine wpAnyS_one (i := 13) (by kernel_rfl) ?_
            refine wpOp_step rfl (fun K' hK' => ?_)
            rw [if_pos (by rfl)]
            go_simp
            refine (HSY.out).mono ?_
            rintro e w10 ⟨a', c', rfl, hn10, hp10, hg10⟩
            have HG10 : Hid (W9.grownBy w10 (some c)) := gb_trans HGE9.out hg10
            have HRX := hid (HR9.out _ HG10.out)
            have r0 := HRX.out.cell (i := 0) (by decide)
            have r1 := HRX.out.cell (i := 1) (by decide)
            have y0 := HRX.out.frozen 0
            have y1 := HRX.out.frozen 1
            simp only [dub] at r0 r1
            have HN10 := hid hn10
            have HP10 := hid hp10
            clear hn10 hp10 hg10
            refine hK' _ _ ⟨fun _ => HSS.out _ HG10.out, ?_⟩
            clear hK' K'
            refine wpAnyS_pure (i := 14) (v := .tuple #[.agg #[.slice a' (S (i + 1)).z.length c', .int .i64 (S (i + 1)).c], .bool true]) rfl (by kernel_rfl) (by kernel_rfl) (by kernel_rfl) (by kernel_rfl) (fun _ _ _ h => h) (Or.inl ⟨by rfl, fun W _ => by go_simp⟩) (fun _ => HSS.out _ HG10.out) ?_
            refine wpAnyS_pure (i := 15) (v := .agg #[.slice a' (S (i + 1)).z.length c', .int .i64 (S (i + 1)).c]) rfl (by kernel_rfl) (by kernel_rfl) (by kernel_rfl) (by kernel_rfl) (fun _ _ _ h => h) (Or.inl ⟨by rfl, fun W _ => by go_simp⟩) (fun _ => HSS.out _ HG10.out) ?_
            refine wpAnyS_pure (i := 16) (v := .bool true) rfl (by kernel_rfl) (by kernel_rfl) (by kernel_rfl) (by kernel_rfl) (fun _ _ _ h => h) (Or.inl ⟨by rfl, fun W _ => by go_simp⟩) (fun _ => HSS.out _ HG10.out) ?_
            refine wpAnyS_one (i := 17) (by kernel_rfl) ?_
            refine wpOp_step rfl (fun K' hK' => ?_)
            rw [if_pos (by rfl)]
            go_simp
            refine hK' _ _ ⟨fun h => absurd (h 17 (by simp)) (by decide), ?_⟩
            clear hK' K'
            refine wpAnyS_one (i := 18) (by kernel_rfl) ?_
            refine wpOp_step rfl (fun K' hK' => ?_)
            rw [if_pos (by rfl)]
            go_simp
            refine hK' _ _ ⟨fun h => absurd (h 17 (by simp)) (by decide), ?_⟩
            clear hK' K'
            refine wpAnyS_done (by kernel_rfl) ?_ _
            have HE : Hid (∃ az cz, ((w10.setCell ⟨N, 0, none⟩ (.slice a' (S (i + 1)).z.length c')).setCell ⟨N, 1, none⟩ (.int .i64 (S (i + 1)).c)).rowIs N 164 2 (dub (.slice az (S (i + 1)).z.length cz) (.int .i64 (S (i + 1)).c)) ∧ NumL ((w10.setCell ⟨N, 0, none⟩ (.slice a' (S (i + 1)).z.length c')).setCell ⟨N, 1, none⟩ (.int .i64 (S (i + 1)).c)) az cz (S (i + 1)).z ∧ PCh w.heap.size q n ((w10.setCell ⟨N, 0, none⟩ (.slice a' (S (i + 1)).z.length c')).setCell ⟨N, 1, none⟩ (.int .i64 (S (i + 1)).c)) c (S (i + 1)).D ∧ Below W1.heap.size W1 ((w10.setCell ⟨N, 0, none⟩ (.slice a' (S (i + 1)).z.length c')).setCell ⟨N, 1, none⟩ (.int .i64 (S (i + 1)).c))) := by
              have hbk : ∀ x, x ≠ N → ((w10.setCell ⟨N, 0, none⟩ (.slice a' (S (i + 1)).z.length c')).setCell ⟨N, 1, none⟩ (.int .i64 (S (i + 1)).c)).heap[x]? = w10.heap[x]? := fun x hx => (Below.heap_setCell _ _ _ _ (by show x ≠ N; exact hx)).trans (Below.heap_setCell _ _ _ _ (by show x ≠ N; exact hx))
              have hNW := HNW.out
              refine ⟨a', c', dub_set1 (dub_set0 HRX.out _) _, HN10.out.blocks (by simp [World.setCell]) (fun x cs f hx => hbk x (fun e => ?_)), HP10.out.blocks (hbk c (by omega)) (fun x hx => hbk x (by have := HZ1.out; omega)), ((HB9.out _ HG10.out).setCell (p := ⟨N, 0, none⟩) (by show W1.heap.size ≤ N; omega) _).setCell (p := ⟨N, 1, none⟩) (by show W1.heap.size ≤ N; omega) _⟩
              rw [e, dub_arr HRX.out] at hx
              simp at hx
            clear HSY HRX r0 r1 y0 y1 HN10 HP10 HG10 HR9 HSS
            go_wp2_with fail
            go_roundw
            case rel => exact ⟨i + 1, by omega, by go_num, HAL, HE⟩
            case measure => simp [intOf]; omega
          · have HSY : Hid (Calls Tryz.prog 94 _ W9.drew fun e w' => e = .returned (.tuple #[.agg #[.slice none 0 0, .int .i64 0], .bool false]) ∧ W9.drew.grownBy w' (some c)) := HSE.out.mono (fun e w' h => ⟨h.2.1 hgl, h.2.2⟩)
            have HNO : Hid (¬ GcO q n wide lys outs Rs Ls) := fun h => hgl (by have := HGO.out.1 h i hlt; rw [← HLYE.out] at this; exact this)
            clear HSE hgl
            go_wp2_with fail
            refine wp_region_S (C := fun W => (W.cell? ⟨g, 0, none⟩ = some (.pointer (some ⟨b, 0, none⟩)) ∧ W.cell? ⟨g, 1, none⟩ = some (.slice ag (lyt lys ly).length cg) ∧ W.cell? ⟨g, 2, none⟩ = some (.int .i64 (bnn wide lys ly : Int))) ∧ (W.cell? ⟨N, 0, none⟩ = some (.slice az (S i).z.length cz) ∧ W.cell? ⟨N, 1, none⟩ = some (.int .i64 (S i).c)) ∧ (W.cell? ⟨L, 0, none⟩ = some (.slice (some ⟨bR, oR, none⟩) nL cR) ∧ W.cell? ⟨L, 1, none⟩ = some (.slice (some ⟨bS, oS, none⟩) nL cS)) ∧ W.cell? ⟨bR, oR + i, none⟩ = some (.slice ar (rrt Rs i).length cr) ∧ W.cell? ⟨bS, oS + i, none⟩ = some (.slice al (rat Ls i).length cl)) (st := [17]) hmx ?_
            refine wpAnyS_take (i := 0) (v := .agg #[.pointer (some ⟨b, 0, none⟩), .slice ag (lyt lys ly).length cg, .int .i64 (bnn wide lys ly : Int)]) rfl (by kernel_rfl) (by kernel_rfl) (by kernel_rfl) (by kernel_rfl) (by kernel_rfl) (by kernel_rfl) (fun _ _ _ h => h) (Or.inl ⟨by rfl, fun W hC => by (obtain ⟨⟨x1, x2, x3⟩, ⟨x4, x5⟩, ⟨x6, x7⟩, x8, x9⟩ := hC); go_simp⟩) (HSS.out _ HGE9.out) ?_
            refine wpAnyS_pure (i := 1) (v := .pointer (some ⟨c, 0, none⟩)) rfl (by kernel_rfl) (by kernel_rfl) (by kernel_rfl) (by kernel_rfl) (fun _ _ _ h => h) (Or.inl ⟨by rfl, fun W _ => by go_simp⟩) (fun _ => HSS.out _ HGE9.out) ?_
            refine wpAnyS_take (i := 2) (v := .agg #[.slice az (S i).z.length cz, .int .i64 (S i).c]) rfl (by kernel_rfl) (by kernel_rfl) (by kernel_rfl) (by kernel_rfl) (by kernel_rfl) (by kernel_rfl) (fun _ _ _ h => h) (Or.inl ⟨by rfl, fun W hC => by (obtain ⟨⟨x1, x2, x3⟩, ⟨x4, x5⟩, ⟨x6, x7⟩, x8, x9⟩ := hC); go_simp⟩) (HSS.out _ HGE9.out) ?_
            refine wpAnyS_pure (i := 3) (v := .pointer (some ⟨L, 0, none⟩)) rfl (by kernel_rfl) (by kernel_rfl) (by kernel_rfl) (by kernel_rfl) (fun _ _ _ h => h) (Or.inl ⟨by rfl, fun W _ => by go_simp⟩) (fun _ => HSS.out _ HGE9.out) ?_
            refine wpAnyS_take (i := 4) (v := .slice (some ⟨bR, oR, none⟩) nL cR) rfl (by kernel_rfl) (by kernel_rfl) (by kernel_rfl) (by kernel_rfl) (by kernel_rfl) (by kernel_rfl) (fun _ _ _ h => h) (Or.inl ⟨by rfl, fun W hC => by (obtain ⟨⟨x1, x2, x3⟩, ⟨x4, x5⟩, ⟨x6, x7⟩, x8, x9⟩ := hC); go_simp⟩) (HSS.out _ HGE9.out) ?_
            refine wpAnyS_pure (i := 5) (v := .int .i64 (i : Int)) rfl (by kernel_rfl) (by kernel_rfl) (by kernel_rfl) (by kernel_rfl) (fun _ _ _ h => h) (Or.inl ⟨by rfl, fun W _ => by go_simp⟩) (fun _ => HSS.out _ HGE9.out) ?_
            refine wpAnyS_pure (i := 6) (v := .pointer (some ⟨bR, oR + i, none⟩)) rfl (by kernel_rfl) (by kernel_rfl) (by kernel_rfl) (by kernel_rfl) (fun _ _ _ h => h) (Or.inl ⟨by rfl, fun W _ => by go_simp⟩) (fun _ => HSS.out _ HGE9.out) ?_
            refine wpAnyS_take (i := 7) (v := .slice ar (rrt Rs i).length cr) rfl (by kernel_rfl) (by kernel_rfl) (by kernel_rfl) (by kernel_rfl) (by kernel_rfl) (by kernel_rfl) (fun _ _ _ h => h) (Or.inl ⟨by rfl, fun W hC => by (obtain ⟨⟨x1, x2, x3⟩, ⟨x4, x5⟩, ⟨x6, x7⟩, x8, x9⟩ := hC); go_simp⟩) (HSS.out _ HGE9.out) ?_
            refine wpAnyS_pure (i := 8) (v := .pointer (some ⟨L, 1, none⟩)) rfl (by kernel_rfl) (by kernel_rfl) (by kernel_rfl) (by kernel_rfl) (fun _ _ _ h => h) (Or.inl ⟨by rfl, fun W _ => by go_simp⟩) (fun _ => HSS.out _ HGE9.out) ?_
            refine wpAnyS_take (i := 9) (v := .slice (some ⟨bS, oS, none⟩) nL cS) rfl (by kernel_rfl) (by kernel_rfl) (by kernel_rfl) (by kernel_rfl) (by kernel_rfl) (by kernel_rfl) (fun _ _ _ h => h) (Or.inl ⟨by rfl, fun W hC => by (obtain ⟨⟨x1, x2, x3⟩, ⟨x4, x5⟩, ⟨x6, x7⟩, x8, x9⟩ := hC); go_simp⟩) (HSS.out _ HGE9.out) ?_
            refine wpAnyS_pure (i := 10) (v := .int .i64 (i : Int)) rfl (by kernel_rfl) (by kernel_rfl) (by kernel_rfl) (by kernel_rfl) (fun _ _ _ h => h) (Or.inl ⟨by rfl, fun W _ => by go_simp⟩) (fun _ => HSS.out _ HGE9.out) ?_
            refine wpAnyS_pure (i := 11) (v := .pointer (some ⟨bS, oS + i, none⟩)) rfl (by kernel_rfl) (by kernel_rfl) (by kernel_rfl) (by kernel_rfl) (fun _ _ _ h => h) (Or.inl ⟨by rfl, fun W _ => by go_simp⟩) (fun _ => HSS.out _ HGE9.out) ?_
            refine wpAnyS_take (i := 12) (v := .slice al (rat Ls i).length cl) rfl (by kernel_rfl) (by kernel_rfl) (by kernel_rfl) (by kernel_rfl) (by kernel_rfl) (by kernel_rfl) (fun _ _ _ h => h) (Or.inl ⟨by rfl, fun W hC => by (obtain ⟨⟨x1, x2, x3⟩, ⟨x4, x5⟩, ⟨x6, x7⟩, x8, x9⟩ := hC); go_simp⟩) (HSS.out _ HGE9.out) ?_
            refine wpAnyS_one (i := 13) (by kernel_rfl) ?_
            refine wpOp_step rfl (fun K' hK' => ?_)
            rw [if_pos (by rfl)]
            go_simp
            refine (HSY.out).mono ?_
            rintro e w10 ⟨rfl, hg10⟩
            have HG10 : Hid (W9.grownBy w10 (some c)) := gb_trans HGE9.out hg10
            have HRX := hid (HR9.out _ HG10.out)
            have r0 := HRX.out.cell (i := 0) (by decide)
            have r1 := HRX.out.cell (i := 1) (by decide)
            have y0 := HRX.out.frozen 0
            have y1 := HRX.out.frozen 1
            simp only [dub] at r0 r1
            clear hg10
            refine hK' _ _ ⟨fun _ => HSS.out _ HG10.out, ?_⟩
            clear hK' K'
            refine wpAnyS_pure (i := 14) (v := .tuple #[.agg #[.slice none 0 0, .int .i64 0], .bool false]) rfl (by kernel_rfl) (by kernel_rfl) (by kernel_rfl) (by kernel_rfl) (fun _ _ _ h => h) (Or.inl ⟨by rfl, fun W _ => by go_simp⟩) (fun _ => HSS.out _ HG10.out) ?_
            refine wpAnyS_pure (i := 15) (v := .agg #[.slice none 0 0, .int .i64 0]) rfl (by kernel_rfl) (by kernel_rfl) (by kernel_rfl) (by kernel_rfl) (fun _ _ _ h => h) (Or.inl ⟨by rfl, fun W _ => by go_simp⟩) (fun _ => HSS.out _ HG10.out) ?_
            refine wpAnyS_pure (i := 16) (v := .bool false) rfl (by kernel_rfl) (by kernel_rfl) (by kernel_rfl) (by kernel_rfl) (fun _ _ _ h => h) (Or.inl ⟨by rfl, fun W _ => by go_simp⟩) (fun _ => HSS.out _ HG10.out) ?_
            refine wpAnyS_one (i := 17) (by kernel_rfl) ?_
            refine wpOp_step rfl (fun K' hK' => ?_)
            rw [if_pos (by rfl)]
            go_simp
            refine hK' _ _ ⟨fun h => absurd (h 17 (by simp)) (by decide), ?_⟩
            clear hK' K'
            refine wpAnyS_one (i := 18) (by kernel_rfl) ?_
            refine wpOp_step rfl (fun K' hK' => ?_)
            rw [if_pos (by rfl)]
            go_simp
            refine hK' _ _ ⟨fun h => absurd (h 17 (by simp)) (by decide), ?_⟩
            clear hK' K'
            refine wpAnyS_done (by kernel_rfl) ?_ _
            have HE : Hid (Below w.heap.size w ((w10.setCell ⟨N, 0, none⟩ (.slice none 0 0)).setCell ⟨N, 1, none⟩ (.int .i64 0))) := HBW.out _ (((HB9.out _ HG10.out).setCell (p := ⟨N, 0, none⟩) (by show W1.heap.size ≤ N; have := HNW.out; omega) _).setCell (p := ⟨N, 1, none⟩) (by show W1.heap.size ≤ N; have := HNW.out; omega) _)
            clear HSY HRX r0 r1 y0 y1 HG10 HR9 HSS
            go_wp2_with fail
            go_ret3
            exact ⟨fun h => absurd h HNO.out, fun _ => rfl, HE.out⟩
        · skip
          go_simp
          obtain ⟨w6, hw6⟩ : ∃ w6, w6 = (WD).alloc (.cells #[.pointer none, .slice none 0 0, .int .i64 0] 149) := ⟨_, rfl⟩
          rw [← hw6]
          obtain ⟨hbw6, hsw6, _⟩ := own_blk hw6
          clear hw6
          have Hw6 : Hid (Below W1.heap.size W1 w6) := HWD.out.trans (hbw6.mono (HWD.out).size)
          refine hK'.out _ _ (HSC.out _ Hw6.out) (fun hHeld => ?_)
          clear hK' K'
          refine wpAnyH_ready (rs := [9]) (by kernel_rfl) (by simp) ?_
          refine AllReadyH.consU rfl (fun K' hK' => ?_) AllReadyH.nil
          go_simp
          refine (HLVL.out _ ly (HBW.out _ Hw6.out) hly).mono ?_
          rintro e w7 ⟨ag, cg, rfl, hlg, hbw7⟩
          have Hw7 : Hid (Below W1.heap.size W1 w7) := Hw6.out.trans (hbw7.mono (Hw6.out).size)
          refine hK'.out _ _ (HSC.out _ Hw7.out) (fun hHeld => ?_)
          clear hK' K'
          refine wpAnyH_ready (rs := [11]) (by kernel_rfl) (by simp) ?_
          refine AllReadyH.consU rfl (fun K' hK' => ?_) AllReadyH.nil
          rw [if_pos (by rfl)]
          refine wp_store_row 149 _ _ rfl WD.heap.size #[.pointer (some ⟨b, 0, none⟩), .slice ag (lyt lys ly).length cg, .int .i64 (bnn wide lys ly : Int)] rfl rfl _ _ ((hbw7.block _ (Array.getElem?_eq_some_iff.1 hsw6).1).trans hsw6) (by kernel_rfl) rfl (by simp [Value.oneCell']) ?_
          have hlv := setRow_heap _ _ _ (#[.pointer (some ⟨b, 0, none⟩), .slice ag (lyt lys ly).length cg, .int .i64 (bnn wide lys ly : Int)] : Array Value) _ _ (((hbw7.block _ (Array.getElem?_eq_some_iff.1 hsw6).1).trans hsw6))
          have hbv : Below WD.heap.size WD ((w7).setRow WD.heap.size #[.pointer (some ⟨b, 0, none⟩), .slice ag (lyt lys ly).length cg, .int .i64 (bnn wide lys ly : Int)]) := below_setRow (hbw6.trans (hbw7.mono hbw6.size)) (Nat.le_refl _) _
          have Hv : Hid (Below W1.heap.size W1 ((w7).setRow WD.heap.size #[.pointer (some ⟨b, 0, none⟩), .slice ag (lyt lys ly).length cg, .int .i64 (bnn wide lys ly : Int)])) := HWD.out.trans (hbv.mono HWD.out.size)
          obtain ⟨W9, hW9⟩ : ∃ W9, W9 = (w7).setRow WD.heap.size #[.pointer (some ⟨b, 0, none⟩), .slice ag (lyt lys ly).length cg, .int .i64 (bnn wide lys ly : Int)] := ⟨_, rfl⟩
          rw [← hW9] at hlv hbv Hv ⊢
          obtain ⟨g, hgg⟩ : ∃ g, g = WD.heap.size := ⟨_, rfl⟩
          have hgD : WD.heap.size ≤ g := by rw [hgg]; exact Nat.le_refl _
          rw [← hgg] at hlv ⊢
          refine hK'.out _ _ (HSC.out _ Hv.out) (fun hHeld => ?_)
          clear hK' K' hHeld hW9 hgg
          refine wpAnyH_done (by kernel_rfl) ?_ _
          have HBE : Hid (Below w.heap.size w W9.drew) := (HBW.out _ Hv.out).drew
          have hPE : PCh w.heap.size q n W9.drew c (S i).D := (HPD.out.below hbv).below (Below.refl _ _).drew
          have hzE : NumL W9.drew az cz (S i).z := (HZD.out.below hbv).below (Below.refl _ _).drew
          have HSE := hid (HSEE.out W9.drew i c 0 ag az ar al cg cz cr cl hlt HBE.out hPE (by rw [← HLYE.out]; exact hlg.below HBE.out) hzE (HRRX.out _ HBE.out).2 (HLLX.out _ HBE.out).2)
          rw [← HLYE.out] at HSE
          have hcW : W1.heap.size ≤ c := HCW.out
          have hND := HND.out
          have hCN := HCN.out
          have HR9 : Hid (∀ W, W9.grownBy W (some c) → W.rowIs N 164 2 (dub (.slice az (S i).z.length cz) (.int .i64 (S i).c))) := fun W hW => World.rowIs.of_block HRD.out ((gb_blk hW (by have := hbv.size; omega) (by omega)).trans (hbv.block N (by omega)))
          have HB9 : Hid (∀ W, W9.grownBy W (some c) → Below W1.heap.size W1 W) := fun W hW => Hv.out.trans (gb_to hW hcW Hv.out.size)
          have hg9 : g < W9.heap.size := (Array.getElem?_eq_some_iff.1 hlv).1
          have HSS : Hid (∀ W, W9.grownBy W (some c) → (W.cell? ⟨g, 0, none⟩ = some (.pointer (some ⟨b, 0, none⟩)) ∧ W.cell? ⟨g, 1, none⟩ = some (.slice ag (lyt lys ly).length cg) ∧ W.cell? ⟨g, 2, none⟩ = some (.int .i64 (bnn wide lys ly : Int))) ∧ (W.cell? ⟨N, 0, none⟩ = some (.slice az (S i).z.length cz) ∧ W.cell? ⟨N, 1, none⟩ = some (.int .i64 (S i).c)) ∧ (W.cell? ⟨L, 0, none⟩ = some (.slice (some ⟨bR, oR, none⟩) nL cR) ∧ W.cell? ⟨L, 1, none⟩ = some (.slice (some ⟨bS, oS, none⟩) nL cS)) ∧ W.cell? ⟨bR, oR + i, none⟩ = some (.slice ar (rrt Rs i).length cr) ∧ W.cell? ⟨bS, oS + i, none⟩ = some (.slice al (rat Ls i).length cl)) := fun W hW => by
            have e := (gb_blk hW hg9 (by have := HCD.out; omega)).trans hlv
            have hr := HR9.out W hW
            have hw := HBW.out _ (HB9.out W hW)
            exact ⟨⟨by simp [World.cell?, e], by simp [World.cell?, e], by simp [World.cell?, e]⟩, ⟨hr.cell (i := 0) (by decide), hr.cell (i := 1) (by decide)⟩, (HCC.out W (HB9.out W hW)).2, (HRRX.out W hw).1, (HLLX.out W hw).1⟩
          have HGE9 : Hid (W9.grownBy W9.drew (some c)) := gb_below (Below.refl _ _).drew
          clear hPE hzE hlg hlv hg9
          by_cases hgl : GlO q n (bnn wide lys ly) (lyt lys ly) (rrt Rs i) (rat Ls i) (S i)
          · have HSY : Hid (Calls Tryz.prog 94 _ W9.drew fun e w' => ∃ a' c', e = .returned (.tuple #[.agg #[.slice a' (S (i + 1)).z.length c', .int .i64 (S (i + 1)).c], .bool true]) ∧ NumL w' a' c' (S (i + 1)).z ∧ PCh w.heap.size q n w' c (S (i + 1)).D ∧ W9.drew.grownBy w' (some c)) := HSE.out.mono (fun e w' h => by obtain ⟨a', c', e1, e2, e3⟩ := h.1 hgl; exact ⟨a', c', e1, e2, e3, h.2.2⟩)
            have HAL : Hid (∀ j, j < i + 1 → GlO q n (bnn wide lys (nL - 1 - j)) (lyt lys (nL - 1 - j)) (rrt Rs j) (rat Ls j) (S j)) := fun j hj => by
              by_cases e : j = i
              · rw [e, ← HLYE.out]; exact hgl
              · exact hAll.out j (by omega)
            clear HSE hgl
            go_wp2_with fail
            refine wp_region_S (C := fun W => (W.cell? ⟨g, 0, none⟩ = some (.pointer (some ⟨b, 0, none⟩)) ∧ W.cell? ⟨g, 1, none⟩ = some (.slice ag (lyt lys ly).length cg) ∧ W.cell? ⟨g, 2, none⟩ = some (.int .i64 (bnn wide lys ly : Int))) ∧ (W.cell? ⟨N, 0, none⟩ = some (.slice az (S i).z.length cz) ∧ W.cell? ⟨N, 1, none⟩ = some (.int .i64 (S i).c)) ∧ (W.cell? ⟨L, 0, none⟩ = some (.slice (some ⟨bR, oR, none⟩) nL cR) ∧ W.cell? ⟨L, 1, none⟩ = some (.slice (some ⟨bS, oS, none⟩) nL cS)) ∧ W.cell? ⟨bR, oR + i, none⟩ = some (.slice ar (rrt Rs i).length cr) ∧ W.cell? ⟨bS, oS + i, none⟩ = some (.slice al (rat Ls i).length cl)) (st := [17]) hmx ?_
            refine wpAnyS_take (i := 0) (v := .agg #[.pointer (some ⟨b, 0, none⟩), .slice ag (lyt lys ly).length cg, .int .i64 (bnn wide lys ly : Int)]) rfl (by kernel_rfl) (by kernel_rfl) (by kernel_rfl) (by kernel_rfl) (by kernel_rfl) (by kernel_rfl) (fun _ _ _ h => h) (Or.inl ⟨by rfl, fun W hC => by (obtain ⟨⟨x1, x2, x3⟩, ⟨x4, x5⟩, ⟨x6, x7⟩, x8, x9⟩ := hC); go_simp⟩) (HSS.out _ HGE9.out) ?_
            refine wpAnyS_pure (i := 1) (v := .pointer (some ⟨c, 0, none⟩)) rfl (by kernel_rfl) (by kernel_rfl) (by kernel_rfl) (by kernel_rfl) (fun _ _ _ h => h) (Or.inl ⟨by rfl, fun W _ => by go_simp⟩) (fun _ => HSS.out _ HGE9.out) ?_
            refine wpAnyS_take (i := 2) (v := .agg #[.slice az (S i).z.length cz, .int .i64 (S i).c]) rfl (by kernel_rfl) (by kernel_rfl) (by kernel_rfl) (by kernel_rfl) (by kernel_rfl) (by kernel_rfl) (fun _ _ _ h => h) (Or.inl ⟨by rfl, fun W hC => by (obtain ⟨⟨x1, x2, x3⟩, ⟨x4, x5⟩, ⟨x6, x7⟩, x8, x9⟩ := hC); go_simp⟩) (HSS.out _ HGE9.out) ?_
            refine wpAnyS_pure (i := 3) (v := .pointer (some ⟨L, 0, none⟩)) rfl (by kernel_rfl) (by kernel_rfl) (by kernel_rfl) (by kernel_rfl) (fun _ _ _ h => h) (Or.inl ⟨by rfl, fun W _ => by go_simp⟩) (fun _ => HSS.out _ HGE9.out) ?_
            refine wpAnyS_take (i := 4) (v := .slice (some ⟨bR, oR, none⟩) nL cR) rfl (by kernel_rfl) (by kernel_rfl) (by kernel_rfl) (by kernel_rfl) (by kernel_rfl) (by kernel_rfl) (fun _ _ _ h => h) (Or.inl ⟨by rfl, fun W hC => by (obtain ⟨⟨x1, x2, x3⟩, ⟨x4, x5⟩, ⟨x6, x7⟩, x8, x9⟩ := hC); go_simp⟩) (HSS.out _ HGE9.out) ?_
            refine wpAnyS_pure (i := 5) (v := .int .i64 (i : Int)) rfl (by kernel_rfl) (by kernel_rfl) (by kernel_rfl) (by kernel_rfl) (fun _ _ _ h => h) (Or.inl ⟨by rfl, fun W _ => by go_simp⟩) (fun _ => HSS.out _ HGE9.out) ?_
            refine wpAnyS_pure (i := 6) (v := .pointer (some ⟨bR, oR + i, none⟩)) rfl (by kernel_rfl) (by kernel_rfl) (by kernel_rfl) (by kernel_rfl) (fun _ _ _ h => h) (Or.inl ⟨by rfl, fun W _ => by go_simp⟩) (fun _ => HSS.out _ HGE9.out) ?_
            refine wpAnyS_take (i := 7) (v := .slice ar (rrt Rs i).length cr) rfl (by kernel_rfl) (by kernel_rfl) (by kernel_rfl) (by kernel_rfl) (by kernel_rfl) (by kernel_rfl) (fun _ _ _ h => h) (Or.inl ⟨by rfl, fun W hC => by (obtain ⟨⟨x1, x2, x3⟩, ⟨x4, x5⟩, ⟨x6, x7⟩, x8, x9⟩ := hC); go_simp⟩) (HSS.out _ HGE9.out) ?_
            refine wpAnyS_pure (i := 8) (v := .pointer (some ⟨L, 1, none⟩)) rfl (by kernel_rfl) (by kernel_rfl) (by kernel_rfl) (by kernel_rfl) (fun _ _ _ h => h) (Or.inl ⟨by rfl, fun W _ => by go_simp⟩) (fun _ => HSS.out _ HGE9.out) ?_
            refine wpAnyS_take (i := 9) (v := .slice (some ⟨bS, oS, none⟩) nL cS) rfl (by kernel_rfl) (by kernel_rfl) (by kernel_rfl) (by kernel_rfl) (by kernel_rfl) (by kernel_rfl) (fun _ _ _ h => h) (Or.inl ⟨by rfl, fun W hC => by (obtain ⟨⟨x1, x2, x3⟩, ⟨x4, x5⟩, ⟨x6, x7⟩, x8, x9⟩ := hC); go_simp⟩) (HSS.out _ HGE9.out) ?_
            refine wpAnyS_pure (i := 10) (v := .int .i64 (i : Int)) rfl (by kernel_rfl) (by kernel_rfl) (by kernel_rfl) (by kernel_rfl) (fun _ _ _ h => h) (Or.inl ⟨by rfl, fun W _ => by go_simp⟩) (fun _ => HSS.out _ HGE9.out) ?_
            refine wpAnyS_pure (i := 11) (v := .pointer (some ⟨bS, oS + i, none⟩)) rfl (by kernel_rfl) (by kernel_rfl) (by kernel_rfl) (by kernel_rfl) (fun _ _ _ h => h) (Or.inl ⟨by rfl, fun W _ => by go_simp⟩) (fun _ => HSS.out _ HGE9.out) ?_
            refine wpAnyS_take (i := 12) (v := .slice al (rat Ls i).length cl) rfl (by kernel_rfl) (by kernel_rfl) (by kernel_rfl) (by kernel_rfl) (by kernel_rfl) (by kernel_rfl) (fun _ _ _ h => h) (Or.inl ⟨by rfl, fun W hC => by (obtain ⟨⟨x1, x2, x3⟩, ⟨x4, x5⟩, ⟨x6, x7⟩, x8, x9⟩ := hC); go_simp⟩) (HSS.out _ HGE9.out) ?_
            refine wpAnyS_one (i := 13) (by kernel_rfl) ?_
            refine wpOp_step rfl (fun K' hK' => ?_)
            rw [if_pos (by rfl)]
            go_simp
            refine (HSY.out).mono ?_
            rintro e w10 ⟨a', c', rfl, hn10, hp10, hg10⟩
            have HG10 : Hid (W9.grownBy w10 (some c)) := gb_trans HGE9.out hg10
            have HRX := hid (HR9.out _ HG10.out)
            have r0 := HRX.out.cell (i := 0) (by decide)
            have r1 := HRX.out.cell (i := 1) (by decide)
            have y0 := HRX.out.frozen 0
            have y1 := HRX.out.frozen 1
            simp only [dub] at r0 r1
            have HN10 := hid hn10
            have HP10 := hid hp10
            clear hn10 hp10 hg10
            refine hK' _ _ ⟨fun _ => HSS.out _ HG10.out, ?_⟩
            clear hK' K'
            refine wpAnyS_pure (i := 14) (v := .tuple #[.agg #[.slice a' (S (i + 1)).z.length c', .int .i64 (S (i + 1)).c], .bool true]) rfl (by kernel_rfl) (by kernel_rfl) (by kernel_rfl) (by kernel_rfl) (fun _ _ _ h => h) (Or.inl ⟨by rfl, fun W _ => by go_simp⟩) (fun _ => HSS.out _ HG10.out) ?_
            refine wpAnyS_pure (i := 15) (v := .agg #[.slice a' (S (i + 1)).z.length c', .int .i64 (S (i + 1)).c]) rfl (by kernel_rfl) (by kernel_rfl) (by kernel_rfl) (by kernel_rfl) (fun _ _ _ h => h) (Or.inl ⟨by rfl, fun W _ => by go_simp⟩) (fun _ => HSS.out _ HG10.out) ?_
            refine wpAnyS_pure (i := 16) (v := .bool true) rfl (by kernel_rfl) (by kernel_rfl) (by kernel_rfl) (by kernel_rfl) (fun _ _ _ h => h) (Or.inl ⟨by rfl, fun W _ => by go_simp⟩) (fun _ => HSS.out _ HG10.out) ?_
            refine wpAnyS_one (i := 17) (by kernel_rfl) ?_
            refine wpOp_step rfl (fun K' hK' => ?_)
            rw [if_pos (by rfl)]
            go_simp
            refine hK' _ _ ⟨fun h => absurd (h 17 (by simp)) (by decide), ?_⟩
            clear hK' K'
            refine wpAnyS_one (i := 18) (by kernel_rfl) ?_
            refine wpOp_step rfl (fun K' hK' => ?_)
            rw [if_pos (by rfl)]
            go_simp
            refine hK' _ _ ⟨fun h => absurd (h 17 (by simp)) (by decide), ?_⟩
            clear hK' K'
            refine wpAnyS_done (by kernel_rfl) ?_ _
            have HE : Hid (∃ az cz, ((w10.setCell ⟨N, 0, none⟩ (.slice a' (S (i + 1)).z.length c')).setCell ⟨N, 1, none⟩ (.int .i64 (S (i + 1)).c)).rowIs N 164 2 (dub (.slice az (S (i + 1)).z.length cz) (.int .i64 (S (i + 1)).c)) ∧ NumL ((w10.setCell ⟨N, 0, none⟩ (.slice a' (S (i + 1)).z.length c')).setCell ⟨N, 1, none⟩ (.int .i64 (S (i + 1)).c)) az cz (S (i + 1)).z ∧ PCh w.heap.size q n ((w10.setCell ⟨N, 0, none⟩ (.slice a' (S (i + 1)).z.length c')).setCell ⟨N, 1, none⟩ (.int .i64 (S (i + 1)).c)) c (S (i + 1)).D ∧ Below W1.heap.size W1 ((w10.setCell ⟨N, 0, none⟩ (.slice a' (S (i + 1)).z.length c')).setCell ⟨N, 1, none⟩ (.int .i64 (S (i + 1)).c))) := by
              have hbk : ∀ x, x ≠ N → ((w10.setCell ⟨N, 0, none⟩ (.slice a' (S (i + 1)).z.length c')).setCell ⟨N, 1, none⟩ (.int .i64 (S (i + 1)).c)).heap[x]? = w10.heap[x]? := fun x hx => (Below.heap_setCell _ _ _ _ (by show x ≠ N; exact hx)).trans (Below.heap_setCell _ _ _ _ (by show x ≠ N; exact hx))
              have hNW := HNW.out
              refine ⟨a', c', dub_set1 (dub_set0 HRX.out _) _, HN10.out.blocks (by simp [World.setCell]) (fun x cs f hx => hbk x (fun e => ?_)), HP10.out.blocks (hbk c (by omega)) (fun x hx => hbk x (by have := HZ1.out; omega)), ((HB9.out _ HG10.out).setCell (p := ⟨N, 0, none⟩) (by show W1.heap.size ≤ N; omega) _).setCell (p := ⟨N, 1, none⟩) (by show W1.heap.size ≤ N; omega) _⟩
              rw [e, dub_arr HRX.out] at hx
              simp at hx
            clear HSY HRX r0 r1 y0 y1 HN10 HP10 HG10 HR9 HSS
            go_wp2_with fail
            go_roundw
            case rel => exact ⟨i + 1, by omega, by go_num, HAL, HE⟩
            case measure => simp [intOf]; omega
          · have HSY : Hid (Calls Tryz.prog 94 _ W9.drew fun e w' => e = .returned (.tuple #[.agg #[.slice none 0 0, .int .i64 0], .bool false]) ∧ W9.drew.grownBy w' (some c)) := HSE.out.mono (fun e w' h => ⟨h.2.1 hgl, h.2.2⟩)
            have HNO : Hid (¬ GcO q n wide lys outs Rs Ls) := fun h => hgl (by have := HGO.out.1 h i hlt; rw [← HLYE.out] at this; exact this)
            clear HSE hgl
            go_wp2_with fail
            refine wp_region_S (C := fun W => (W.cell? ⟨g, 0, none⟩ = some (.pointer (some ⟨b, 0, none⟩)) ∧ W.cell? ⟨g, 1, none⟩ = some (.slice ag (lyt lys ly).length cg) ∧ W.cell? ⟨g, 2, none⟩ = some (.int .i64 (bnn wide lys ly : Int))) ∧ (W.cell? ⟨N, 0, none⟩ = some (.slice az (S i).z.length cz) ∧ W.cell? ⟨N, 1, none⟩ = some (.int .i64 (S i).c)) ∧ (W.cell? ⟨L, 0, none⟩ = some (.slice (some ⟨bR, oR, none⟩) nL cR) ∧ W.cell? ⟨L, 1, none⟩ = some (.slice (some ⟨bS, oS, none⟩) nL cS)) ∧ W.cell? ⟨bR, oR + i, none⟩ = some (.slice ar (rrt Rs i).length cr) ∧ W.cell? ⟨bS, oS + i, none⟩ = some (.slice al (rat Ls i).length cl)) (st := [17]) hmx ?_
            refine wpAnyS_take (i := 0) (v := .agg #[.pointer (some ⟨b, 0, none⟩), .slice ag (lyt lys ly).length cg, .int .i64 (bnn wide lys ly : Int)]) rfl (by kernel_rfl) (by kernel_rfl) (by kernel_rfl) (by kernel_rfl) (by kernel_rfl) (by kernel_rfl) (fun _ _ _ h => h) (Or.inl ⟨by rfl, fun W hC => by (obtain ⟨⟨x1, x2, x3⟩, ⟨x4, x5⟩, ⟨x6, x7⟩, x8, x9⟩ := hC); go_simp⟩) (HSS.out _ HGE9.out) ?_
            refine wpAnyS_pure (i := 1) (v := .pointer (some ⟨c, 0, none⟩)) rfl (by kernel_rfl) (by kernel_rfl) (by kernel_rfl) (by kernel_rfl) (fun _ _ _ h => h) (Or.inl ⟨by rfl, fun W _ => by go_simp⟩) (fun _ => HSS.out _ HGE9.out) ?_
            refine wpAnyS_take (i := 2) (v := .agg #[.slice az (S i).z.length cz, .int .i64 (S i).c]) rfl (by kernel_rfl) (by kernel_rfl) (by kernel_rfl) (by kernel_rfl) (by kernel_rfl) (by kernel_rfl) (fun _ _ _ h => h) (Or.inl ⟨by rfl, fun W hC => by (obtain ⟨⟨x1, x2, x3⟩, ⟨x4, x5⟩, ⟨x6, x7⟩, x8, x9⟩ := hC); go_simp⟩) (HSS.out _ HGE9.out) ?_
            refine wpAnyS_pure (i := 3) (v := .pointer (some ⟨L, 0, none⟩)) rfl (by kernel_rfl) (by kernel_rfl) (by kernel_rfl) (by kernel_rfl) (fun _ _ _ h => h) (Or.inl ⟨by rfl, fun W _ => by go_simp⟩) (fun _ => HSS.out _ HGE9.out) ?_
            refine wpAnyS_take (i := 4) (v := .slice (some ⟨bR, oR, none⟩) nL cR) rfl (by kernel_rfl) (by kernel_rfl) (by kernel_rfl) (by kernel_rfl) (by kernel_rfl) (by kernel_rfl) (fun _ _ _ h => h) (Or.inl ⟨by rfl, fun W hC => by (obtain ⟨⟨x1, x2, x3⟩, ⟨x4, x5⟩, ⟨x6, x7⟩, x8, x9⟩ := hC); go_simp⟩) (HSS.out _ HGE9.out) ?_
            refine wpAnyS_pure (i := 5) (v := .int .i64 (i : Int)) rfl (by kernel_rfl) (by kernel_rfl) (by kernel_rfl) (by kernel_rfl) (fun _ _ _ h => h) (Or.inl ⟨by rfl, fun W _ => by go_simp⟩) (fun _ => HSS.out _ HGE9.out) ?_
            refine wpAnyS_pure (i := 6) (v := .pointer (some ⟨bR, oR + i, none⟩)) rfl (by kernel_rfl) (by kernel_rfl) (by kernel_rfl) (by kernel_rfl) (fun _ _ _ h => h) (Or.inl ⟨by rfl, fun W _ => by go_simp⟩) (fun _ => HSS.out _ HGE9.out) ?_
            refine wpAnyS_take (i := 7) (v := .slice ar (rrt Rs i).length cr) rfl (by kernel_rfl) (by kernel_rfl) (by kernel_rfl) (by kernel_rfl) (by kernel_rfl) (by kernel_rfl) (fun _ _ _ h => h) (Or.inl ⟨by rfl, fun W hC => by (obtain ⟨⟨x1, x2, x3⟩, ⟨x4, x5⟩, ⟨x6, x7⟩, x8, x9⟩ := hC); go_simp⟩) (HSS.out _ HGE9.out) ?_
            refine wpAnyS_pure (i := 8) (v := .pointer (some ⟨L, 1, none⟩)) rfl (by kernel_rfl) (by kernel_rfl) (by kernel_rfl) (by kernel_rfl) (fun _ _ _ h => h) (Or.inl ⟨by rfl, fun W _ => by go_simp⟩) (fun _ => HSS.out _ HGE9.out) ?_
            refine wpAnyS_take (i := 9) (v := .slice (some ⟨bS, oS, none⟩) nL cS) rfl (by kernel_rfl) (by kernel_rfl) (by kernel_rfl) (by kernel_rfl) (by kernel_rfl) (by kernel_rfl) (fun _ _ _ h => h) (Or.inl ⟨by rfl, fun W hC => by (obtain ⟨⟨x1, x2, x3⟩, ⟨x4, x5⟩, ⟨x6, x7⟩, x8, x9⟩ := hC); go_simp⟩) (HSS.out _ HGE9.out) ?_
            refine wpAnyS_pure (i := 10) (v := .int .i64 (i : Int)) rfl (by kernel_rfl) (by kernel_rfl) (by kernel_rfl) (by kernel_rfl) (fun _ _ _ h => h) (Or.inl ⟨by rfl, fun W _ => by go_simp⟩) (fun _ => HSS.out _ HGE9.out) ?_
            refine wpAnyS_pure (i := 11) (v := .pointer (some ⟨bS, oS + i, none⟩)) rfl (by kernel_rfl) (by kernel_rfl) (by kernel_rfl) (by kernel_rfl) (fun _ _ _ h => h) (Or.inl ⟨by rfl, fun W _ => by go_simp⟩) (fun _ => HSS.out _ HGE9.out) ?_
            refine wpAnyS_take (i := 12) (v := .slice al (rat Ls i).length cl) rfl (by kernel_rfl) (by kernel_rfl) (by kernel_rfl) (by kernel_rfl) (by kernel_rfl) (by kernel_rfl) (fun _ _ _ h => h) (Or.inl ⟨by rfl, fun W hC => by (obtain ⟨⟨x1, x2, x3⟩, ⟨x4, x5⟩, ⟨x6, x7⟩, x8, x9⟩ := hC); go_simp⟩) (HSS.out _ HGE9.out) ?_
            refine wpAnyS_one (i := 13) (by kernel_rfl) ?_
            refine wpOp_step rfl (fun K' hK' => ?_)
            rw [if_pos (by rfl)]
            go_simp
            refine (HSY.out).mono ?_
            rintro e w10 ⟨rfl, hg10⟩
            have HG10 : Hid (W9.grownBy w10 (some c)) := gb_trans HGE9.out hg10
            have HRX := hid (HR9.out _ HG10.out)
            have r0 := HRX.out.cell (i := 0) (by decide)
            have r1 := HRX.out.cell (i := 1) (by decide)
            have y0 := HRX.out.frozen 0
            have y1 := HRX.out.frozen 1
            simp only [dub] at r0 r1
            clear hg10
            refine hK' _ _ ⟨fun _ => HSS.out _ HG10.out, ?_⟩
            clear hK' K'
            refine wpAnyS_pure (i := 14) (v := .tuple #[.agg #[.slice none 0 0, .int .i64 0], .bool false]) rfl (by kernel_rfl) (by kernel_rfl) (by kernel_rfl) (by kernel_rfl) (fun _ _ _ h => h) (Or.inl ⟨by rfl, fun W _ => by go_simp⟩) (fun _ => HSS.out _ HG10.out) ?_
            refine wpAnyS_pure (i := 15) (v := .agg #[.slice none 0 0, .int .i64 0]) rfl (by kernel_rfl) (by kernel_rfl) (by kernel_rfl) (by kernel_rfl) (fun _ _ _ h => h) (Or.inl ⟨by rfl, fun W _ => by go_simp⟩) (fun _ => HSS.out _ HG10.out) ?_
            refine wpAnyS_pure (i := 16) (v := .bool false) rfl (by kernel_rfl) (by kernel_rfl) (by kernel_rfl) (by kernel_rfl) (fun _ _ _ h => h) (Or.inl ⟨by rfl, fun W _ => by go_simp⟩) (fun _ => HSS.out _ HG10.out) ?_
            refine wpAnyS_one (i := 17) (by kernel_rfl) ?_
            refine wpOp_step rfl (fun K' hK' => ?_)
            rw [if_pos (by rfl)]
            go_simp
            refine hK' _ _ ⟨fun h => absurd (h 17 (by simp)) (by decide), ?_⟩
            clear hK' K'
            refine wpAnyS_one (i := 18) (by kernel_rfl) ?_
            refine wpOp_step rfl (fun K' hK' => ?_)
            rw [if_pos (by rfl)]
            go_simp
            refine hK' _ _ ⟨fun h => absurd (h 17 (by simp)) (by decide), ?_⟩
            clear hK' K'
            refine wpAnyS_done (by kernel_rfl) ?_ _
            have HE : Hid (Below w.heap.size w ((w10.setCell ⟨N, 0, none⟩ (.slice none 0 0)).setCell ⟨N, 1, none⟩ (.int .i64 0))) := HBW.out _ (((HB9.out _ HG10.out).setCell (p := ⟨N, 0, none⟩) (by show W1.heap.size ≤ N; have := HNW.out; omega) _).setCell (p := ⟨N, 1, none⟩) (by show W1.heap.size ≤ N; have := HNW.out; omega) _)
            clear HSY HRX r0 r1 y0 y1 HG10 HR9 HSS
            go_wp2_with fail
            go_ret3
            exact ⟨fun h => absurd h HNO.out, fun _ => rfl, HE.out⟩
      · skip
        go_simp
        obtain ⟨w6, hw6⟩ : ∃ w6, w6 = (WD).alloc (.cells #[.pointer none, .slice none 0 0, .int .i64 0] 149) := ⟨_, rfl⟩
        rw [← hw6]
        obtain ⟨hbw6, hsw6, _⟩ := own_blk hw6
        clear hw6
        have Hw6 : Hid (Below W1.heap.size W1 w6) := HWD.out.trans (hbw6.mono (HWD.out).size)
        refine hK'.out _ _ (HSC.out _ Hw6.out) (fun hHeld => ?_)
        clear hK' K'
        refine wpAnyH_ready (rs := [1]) (by kernel_rfl) (by simp) ?_
        refine AllReadyH.consU rfl (fun K' hK' => ?_) AllReadyH.nil
        go_simp
        refine (HFI.out _ (HBW.out _ Hw6.out)).mono ?_
        rintro e w3 ⟨rfl, hw⟩
        have hw1 := hw.symm
        subst hw1
        clear hw
        refine hK'.out _ _ (HSC.out _ Hw6.out) (fun hHeld => ?_)
        clear hK' K'
        refine wpAnyH_ready (rs := [9]) (by kernel_rfl) (by simp) ?_
        refine AllReadyH.consU rfl (fun K' hK' => ?_) AllReadyH.nil
        go_simp
        refine (HLVL.out _ ly (HBW.out _ Hw6.out) hly).mono ?_
        rintro e w7 ⟨ag, cg, rfl, hlg, hbw7⟩
        have Hw7 : Hid (Below W1.heap.size W1 w7) := Hw6.out.trans (hbw7.mono (Hw6.out).size)
        refine hK'.out _ _ (HSC.out _ Hw7.out) (fun hHeld => ?_)
        clear hK' K'
        refine wpAnyH_ready (rs := [11]) (by kernel_rfl) (by simp) ?_
        refine AllReadyH.consU rfl (fun K' hK' => ?_) AllReadyH.nil
        rw [if_pos (by rfl)]
        refine wp_store_row 149 _ _ rfl WD.heap.size #[.pointer (some ⟨b, 0, none⟩), .slice ag (lyt lys ly).length cg, .int .i64 (bnn wide lys ly : Int)] rfl rfl _ _ ((hbw7.block _ (Array.getElem?_eq_some_iff.1 hsw6).1).trans hsw6) (by kernel_rfl) rfl (by simp [Value.oneCell']) ?_
        have hlv := setRow_heap _ _ _ (#[.pointer (some ⟨b, 0, none⟩), .slice ag (lyt lys ly).length cg, .int .i64 (bnn wide lys ly : Int)] : Array Value) _ _ (((hbw7.block _ (Array.getElem?_eq_some_iff.1 hsw6).1).trans hsw6))
        have hbv : Below WD.heap.size WD ((w7).setRow WD.heap.size #[.pointer (some ⟨b, 0, none⟩), .slice ag (lyt lys ly).length cg, .int .i64 (bnn wide lys ly : Int)]) := below_setRow (hbw6.trans (hbw7.mono hbw6.size)) (Nat.le_refl _) _
        have Hv : Hid (Below W1.heap.size W1 ((w7).setRow WD.heap.size #[.pointer (some ⟨b, 0, none⟩), .slice ag (lyt lys ly).length cg, .int .i64 (bnn wide lys ly : Int)])) := HWD.out.trans (hbv.mono HWD.out.size)
        obtain ⟨W9, hW9⟩ : ∃ W9, W9 = (w7).setRow WD.heap.size #[.pointer (some ⟨b, 0, none⟩), .slice ag (lyt lys ly).length cg, .int .i64 (bnn wide lys ly : Int)] := ⟨_, rfl⟩
        rw [← hW9] at hlv hbv Hv ⊢
        obtain ⟨g, hgg⟩ : ∃ g, g = WD.heap.size := ⟨_, rfl⟩
        have hgD : WD.heap.size ≤ g := by rw [hgg]; exact Nat.le_refl _
        rw [← hgg] at hlv ⊢
        refine hK'.out _ _ (HSC.out _ Hv.out) (fun hHeld => ?_)
        clear hK' K' hHeld hW9 hgg
        refine wpAnyH_done (by kernel_rfl) ?_ _
        have HBE : Hid (Below w.heap.size w W9.drew) := (HBW.out _ Hv.out).drew
        have hPE : PCh w.heap.size q n W9.drew c (S i).D := (HPD.out.below hbv).below (Below.refl _ _).drew
        have hzE : NumL W9.drew az cz (S i).z := (HZD.out.below hbv).below (Below.refl _ _).drew
        have HSE := hid (HSEE.out W9.drew i c 0 ag az ar al cg cz cr cl hlt HBE.out hPE (by rw [← HLYE.out]; exact hlg.below HBE.out) hzE (HRRX.out _ HBE.out).2 (HLLX.out _ HBE.out).2)
        rw [← HLYE.out] at HSE
        have hcW : W1.heap.size ≤ c := HCW.out
        have hND := HND.out
        have hCN := HCN.out
        have HR9 : Hid (∀ W, W9.grownBy W (some c) → W.rowIs N 164 2 (dub (.slice az (S i).z.length cz) (.int .i64 (S i).c))) := fun W hW => World.rowIs.of_block HRD.out ((gb_blk hW (by have := hbv.size; omega) (by omega)).trans (hbv.block N (by omega)))
        have HB9 : Hid (∀ W, W9.grownBy W (some c) → Below W1.heap.size W1 W) := fun W hW => Hv.out.trans (gb_to hW hcW Hv.out.size)
        have hg9 : g < W9.heap.size := (Array.getElem?_eq_some_iff.1 hlv).1
        have HSS : Hid (∀ W, W9.grownBy W (some c) → (W.cell? ⟨g, 0, none⟩ = some (.pointer (some ⟨b, 0, none⟩)) ∧ W.cell? ⟨g, 1, none⟩ = some (.slice ag (lyt lys ly).length cg) ∧ W.cell? ⟨g, 2, none⟩ = some (.int .i64 (bnn wide lys ly : Int))) ∧ (W.cell? ⟨N, 0, none⟩ = some (.slice az (S i).z.length cz) ∧ W.cell? ⟨N, 1, none⟩ = some (.int .i64 (S i).c)) ∧ (W.cell? ⟨L, 0, none⟩ = some (.slice (some ⟨bR, oR, none⟩) nL cR) ∧ W.cell? ⟨L, 1, none⟩ = some (.slice (some ⟨bS, oS, none⟩) nL cS)) ∧ W.cell? ⟨bR, oR + i, none⟩ = some (.slice ar (rrt Rs i).length cr) ∧ W.cell? ⟨bS, oS + i, none⟩ = some (.slice al (rat Ls i).length cl)) := fun W hW => by
          have e := (gb_blk hW hg9 (by have := HCD.out; omega)).trans hlv
          have hr := HR9.out W hW
          have hw := HBW.out _ (HB9.out W hW)
          exact ⟨⟨by simp [World.cell?, e], by simp [World.cell?, e], by simp [World.cell?, e]⟩, ⟨hr.cell (i := 0) (by decide), hr.cell (i := 1) (by decide)⟩, (HCC.out W (HB9.out W hW)).2, (HRRX.out W hw).1, (HLLX.out W hw).1⟩
        have HGE9 : Hid (W9.grownBy W9.drew (some c)) := gb_below (Below.refl _ _).drew
        clear hPE hzE hlg hlv hg9
        by_cases hgl : GlO q n (bnn wide lys ly) (lyt lys ly) (rrt Rs i) (rat Ls i) (S i)
        · have HSY : Hid (Calls Tryz.prog 94 _ W9.drew fun e w' => ∃ a' c', e = .returned (.tuple #[.agg #[.slice a' (S (i + 1)).z.length c', .int .i64 (S (i + 1)).c], .bool true]) ∧ NumL w' a' c' (S (i + 1)).z ∧ PCh w.heap.size q n w' c (S (i + 1)).D ∧ W9.drew.grownBy w' (some c)) := HSE.out.mono (fun e w' h => by obtain ⟨a', c', e1, e2, e3⟩ := h.1 hgl; exact ⟨a', c', e1, e2, e3, h.2.2⟩)
          have HAL : Hid (∀ j, j < i + 1 → GlO q n (bnn wide lys (nL - 1 - j)) (lyt lys (nL - 1 - j)) (rrt Rs j) (rat Ls j) (S j)) := fun j hj => by
            by_cases e : j = i
            · rw [e, ← HLYE.out]; exact hgl
            · exact hAll.out j (by omega)
          clear HSE hgl
          go_wp2_with fail
          refine wp_region_S (C := fun W => (W.cell? ⟨g, 0, none⟩ = some (.pointer (some ⟨b, 0, none⟩)) ∧ W.cell? ⟨g, 1, none⟩ = some (.slice ag (lyt lys ly).length cg) ∧ W.cell? ⟨g, 2, none⟩ = some (.int .i64 (bnn wide lys ly : Int))) ∧ (W.cell? ⟨N, 0, none⟩ = some (.slice az (S i).z.length cz) ∧ W.cell? ⟨N, 1, none⟩ = some (.int .i64 (S i).c)) ∧ (W.cell? ⟨L, 0, none⟩ = some (.slice (some ⟨bR, oR, none⟩) nL cR) ∧ W.cell? ⟨L, 1, none⟩ = some (.slice (some ⟨bS, oS, none⟩) nL cS)) ∧ W.cell? ⟨bR, oR + i, none⟩ = some (.slice ar (rrt Rs i).length cr) ∧ W.cell? ⟨bS, oS + i, none⟩ = some (.slice al (rat Ls i).length cl)) (st := [17]) hmx ?_
          refine wpAnyS_take (i := 0) (v := .agg #[.pointer (some ⟨b, 0, none⟩), .slice ag (lyt lys ly).length cg, .int .i64 (bnn wide lys ly : Int)]) rfl (by kernel_rfl) (by kernel_rfl) (by kernel_rfl) (by kernel_rfl) (by kernel_rfl) (by kernel_rfl) (fun _ _ _ h => h) (Or.inl ⟨by rfl, fun W hC => by (obtain ⟨⟨x1, x2, x3⟩, ⟨x4, x5⟩, ⟨x6, x7⟩, x8, x9⟩ := hC); go_simp⟩) (HSS.out _ HGE9.out) ?_
          refine wpAnyS_pure (i := 1) (v := .pointer (some ⟨c, 0, none⟩)) rfl (by kernel_rfl) (by kernel_rfl) (by kernel_rfl) (by kernel_rfl) (fun _ _ _ h => h) (Or.inl ⟨by rfl, fun W _ => by go_simp⟩) (fun _ => HSS.out _ HGE9.out) ?_
          refine wpAnyS_take (i := 2) (v := .agg #[.slice az (S i).z.length cz, .int .i64 (S i).c]) rfl (by kernel_rfl) (by kernel_rfl) (by kernel_rfl) (by kernel_rfl) (by kernel_rfl) (by kernel_rfl) (fun _ _ _ h => h) (Or.inl ⟨by rfl, fun W hC => by (obtain ⟨⟨x1, x2, x3⟩, ⟨x4, x5⟩, ⟨x6, x7⟩, x8, x9⟩ := hC); go_simp⟩) (HSS.out _ HGE9.out) ?_
          refine wpAnyS_pure (i := 3) (v := .pointer (some ⟨L, 0, none⟩)) rfl (by kernel_rfl) (by kernel_rfl) (by kernel_rfl) (by kernel_rfl) (fun _ _ _ h => h) (Or.inl ⟨by rfl, fun W _ => by go_simp⟩) (fun _ => HSS.out _ HGE9.out) ?_
          refine wpAnyS_take (i := 4) (v := .slice (some ⟨bR, oR, none⟩) nL cR) rfl (by kernel_rfl) (by kernel_rfl) (by kernel_rfl) (by kernel_rfl) (by kernel_rfl) (by kernel_rfl) (fun _ _ _ h => h) (Or.inl ⟨by rfl, fun W hC => by (obtain ⟨⟨x1, x2, x3⟩, ⟨x4, x5⟩, ⟨x6, x7⟩, x8, x9⟩ := hC); go_simp⟩) (HSS.out _ HGE9.out) ?_
          refine wpAnyS_pure (i := 5) (v := .int .i64 (i : Int)) rfl (by kernel_rfl) (by kernel_rfl) (by kernel_rfl) (by kernel_rfl) (fun _ _ _ h => h) (Or.inl ⟨by rfl, fun W _ => by go_simp⟩) (fun _ => HSS.out _ HGE9.out) ?_
          refine wpAnyS_pure (i := 6) (v := .pointer (some ⟨bR, oR + i, none⟩)) rfl (by kernel_rfl) (by kernel_rfl) (by kernel_rfl) (by kernel_rfl) (fun _ _ _ h => h) (Or.inl ⟨by rfl, fun W _ => by go_simp⟩) (fun _ => HSS.out _ HGE9.out) ?_
          refine wpAnyS_take (i := 7) (v := .slice ar (rrt Rs i).length cr) rfl (by kernel_rfl) (by kernel_rfl) (by kernel_rfl) (by kernel_rfl) (by kernel_rfl) (by kernel_rfl) (fun _ _ _ h => h) (Or.inl ⟨by rfl, fun W hC => by (obtain ⟨⟨x1, x2, x3⟩, ⟨x4, x5⟩, ⟨x6, x7⟩, x8, x9⟩ := hC); go_simp⟩) (HSS.out _ HGE9.out) ?_
          refine wpAnyS_pure (i := 8) (v := .pointer (some ⟨L, 1, none⟩)) rfl (by kernel_rfl) (by kernel_rfl) (by kernel_rfl) (by kernel_rfl) (fun _ _ _ h => h) (Or.inl ⟨by rfl, fun W _ => by go_simp⟩) (fun _ => HSS.out _ HGE9.out) ?_
          refine wpAnyS_take (i := 9) (v := .slice (some ⟨bS, oS, none⟩) nL cS) rfl (by kernel_rfl) (by kernel_rfl) (by kernel_rfl) (by kernel_rfl) (by kernel_rfl) (by kernel_rfl) (fun _ _ _ h => h) (Or.inl ⟨by rfl, fun W hC => by (obtain ⟨⟨x1, x2, x3⟩, ⟨x4, x5⟩, ⟨x6, x7⟩, x8, x9⟩ := hC); go_simp⟩) (HSS.out _ HGE9.out) ?_
          refine wpAnyS_pure (i := 10) (v := .int .i64 (i : Int)) rfl (by kernel_rfl) (by kernel_rfl) (by kernel_rfl) (by kernel_rfl) (fun _ _ _ h => h) (Or.inl ⟨by rfl, fun W _ => by go_simp⟩) (fun _ => HSS.out _ HGE9.out) ?_
          refine wpAnyS_pure (i := 11) (v := .pointer (some ⟨bS, oS + i, none⟩)) rfl (by kernel_rfl) (by kernel_rfl) (by kernel_rfl) (by kernel_rfl) (fun _ _ _ h => h) (Or.inl ⟨by rfl, fun W _ => by go_simp⟩) (fun _ => HSS.out _ HGE9.out) ?_
          refine wpAnyS_take (i := 12) (v := .slice al (rat Ls i).length cl) rfl (by kernel_rfl) (by kernel_rfl) (by kernel_rfl) (by kernel_rfl) (by kernel_rfl) (by kernel_rfl) (fun _ _ _ h => h) (Or.inl ⟨by rfl, fun W hC => by (obtain ⟨⟨x1, x2, x3⟩, ⟨x4, x5⟩, ⟨x6, x7⟩, x8, x9⟩ := hC); go_simp⟩) (HSS.out _ HGE9.out) ?_
          refine wpAnyS_one (i := 13) (by kernel_rfl) ?_
          refine wpOp_step rfl (fun K' hK' => ?_)
          rw [if_pos (by rfl)]
          go_simp
          refine (HSY.out).mono ?_
          rintro e w10 ⟨a', c', rfl, hn10, hp10, hg10⟩
          have HG10 : Hid (W9.grownBy w10 (some c)) := gb_trans HGE9.out hg10
          have HRX := hid (HR9.out _ HG10.out)
          have r0 := HRX.out.cell (i := 0) (by decide)
          have r1 := HRX.out.cell (i := 1) (by decide)
          have y0 := HRX.out.frozen 0
          have y1 := HRX.out.frozen 1
          simp only [dub] at r0 r1
          have HN10 := hid hn10
          have HP10 := hid hp10
          clear hn10 hp10 hg10
          refine hK' _ _ ⟨fun _ => HSS.out _ HG10.out, ?_⟩
          clear hK' K'
          refine wpAnyS_pure (i := 14) (v := .tuple #[.agg #[.slice a' (S (i + 1)).z.length c', .int .i64 (S (i + 1)).c], .bool true]) rfl (by kernel_rfl) (by kernel_rfl) (by kernel_rfl) (by kernel_rfl) (fun _ _ _ h => h) (Or.inl ⟨by rfl, fun W _ => by go_simp⟩) (fun _ => HSS.out _ HG10.out) ?_
          refine wpAnyS_pure (i := 15) (v := .agg #[.slice a' (S (i + 1)).z.length c', .int .i64 (S (i + 1)).c]) rfl (by kernel_rfl) (by kernel_rfl) (by kernel_rfl) (by kernel_rfl) (fun _ _ _ h => h) (Or.inl ⟨by rfl, fun W _ => by go_simp⟩) (fun _ => HSS.out _ HG10.out) ?_
          refine wpAnyS_pure (i := 16) (v := .bool true) rfl (by kernel_rfl) (by kernel_rfl) (by kernel_rfl) (by kernel_rfl) (fun _ _ _ h => h) (Or.inl ⟨by rfl, fun W _ => by go_simp⟩) (fun _ => HSS.out _ HG10.out) ?_
          refine wpAnyS_one (i := 17) (by kernel_rfl) ?_
          refine wpOp_step rfl (fun K' hK' => ?_)
          rw [if_pos (by rfl)]
          go_simp
          refine hK' _ _ ⟨fun h => absurd (h 17 (by simp)) (by decide), ?_⟩
          clear hK' K'
          refine wpAnyS_one (i := 18) (by kernel_rfl) ?_
          refine wpOp_step rfl (fun K' hK' => ?_)
          rw [if_pos (by rfl)]
          go_simp
          refine hK' _ _ ⟨fun h => absurd (h 17 (by simp)) (by decide), ?_⟩
          clear hK' K'
          refine wpAnyS_done (by kernel_rfl) ?_ _
          have HE : Hid (∃ az cz, ((w10.setCell ⟨N, 0, none⟩ (.slice a' (S (i + 1)).z.length c')).setCell ⟨N, 1, none⟩ (.int .i64 (S (i + 1)).c)).rowIs N 164 2 (dub (.slice az (S (i + 1)).z.length cz) (.int .i64 (S (i + 1)).c)) ∧ NumL ((w10.setCell ⟨N, 0, none⟩ (.slice a' (S (i + 1)).z.length c')).setCell ⟨N, 1, none⟩ (.int .i64 (S (i + 1)).c)) az cz (S (i + 1)).z ∧ PCh w.heap.size q n ((w10.setCell ⟨N, 0, none⟩ (.slice a' (S (i + 1)).z.length c')).setCell ⟨N, 1, none⟩ (.int .i64 (S (i + 1)).c)) c (S (i + 1)).D ∧ Below W1.heap.size W1 ((w10.setCell ⟨N, 0, none⟩ (.slice a' (S (i + 1)).z.length c')).setCell ⟨N, 1, none⟩ (.int .i64 (S (i + 1)).c))) := by
            have hbk : ∀ x, x ≠ N → ((w10.setCell ⟨N, 0, none⟩ (.slice a' (S (i + 1)).z.length c')).setCell ⟨N, 1, none⟩ (.int .i64 (S (i + 1)).c)).heap[x]? = w10.heap[x]? := fun x hx => (Below.heap_setCell _ _ _ _ (by show x ≠ N; exact hx)).trans (Below.heap_setCell _ _ _ _ (by show x ≠ N; exact hx))
            have hNW := HNW.out
            refine ⟨a', c', dub_set1 (dub_set0 HRX.out _) _, HN10.out.blocks (by simp [World.setCell]) (fun x cs f hx => hbk x (fun e => ?_)), HP10.out.blocks (hbk c (by omega)) (fun x hx => hbk x (by have := HZ1.out; omega)), ((HB9.out _ HG10.out).setCell (p := ⟨N, 0, none⟩) (by show W1.heap.size ≤ N; omega) _).setCell (p := ⟨N, 1, none⟩) (by show W1.heap.size ≤ N; omega) _⟩
            rw [e, dub_arr HRX.out] at hx
            simp at hx
          clear HSY HRX r0 r1 y0 y1 HN10 HP10 HG10 HR9 HSS
          go_wp2_with fail
          go_roundw
          case rel => exact ⟨i + 1, by omega, by go_num, HAL, HE⟩
          case measure => simp [intOf]; omega
        · have HSY : Hid (Calls Tryz.prog 94 _ W9.drew fun e w' => e = .returned (.tuple #[.agg #[.slice none 0 0, .int .i64 0], .bool false]) ∧ W9.drew.grownBy w' (some c)) := HSE.out.mono (fun e w' h => ⟨h.2.1 hgl, h.2.2⟩)
          have HNO : Hid (¬ GcO q n wide lys outs Rs Ls) := fun h => hgl (by have := HGO.out.1 h i hlt; rw [← HLYE.out] at this; exact this)
          clear HSE hgl
          go_wp2_with fail
          refine wp_region_S (C := fun W => (W.cell? ⟨g, 0, none⟩ = some (.pointer (some ⟨b, 0, none⟩)) ∧ W.cell? ⟨g, 1, none⟩ = some (.slice ag (lyt lys ly).length cg) ∧ W.cell? ⟨g, 2, none⟩ = some (.int .i64 (bnn wide lys ly : Int))) ∧ (W.cell? ⟨N, 0, none⟩ = some (.slice az (S i).z.length cz) ∧ W.cell? ⟨N, 1, none⟩ = some (.int .i64 (S i).c)) ∧ (W.cell? ⟨L, 0, none⟩ = some (.slice (some ⟨bR, oR, none⟩) nL cR) ∧ W.cell? ⟨L, 1, none⟩ = some (.slice (some ⟨bS, oS, none⟩) nL cS)) ∧ W.cell? ⟨bR, oR + i, none⟩ = some (.slice ar (rrt Rs i).length cr) ∧ W.cell? ⟨bS, oS + i, none⟩ = some (.slice al (rat Ls i).length cl)) (st := [17]) hmx ?_
          refine wpAnyS_take (i := 0) (v := .agg #[.pointer (some ⟨b, 0, none⟩), .slice ag (lyt lys ly).length cg, .int .i64 (bnn wide lys ly : Int)]) rfl (by kernel_rfl) (by kernel_rfl) (by kernel_rfl) (by kernel_rfl) (by kernel_rfl) (by kernel_rfl) (fun _ _ _ h => h) (Or.inl ⟨by rfl, fun W hC => by (obtain ⟨⟨x1, x2, x3⟩, ⟨x4, x5⟩, ⟨x6, x7⟩, x8, x9⟩ := hC); go_simp⟩) (HSS.out _ HGE9.out) ?_
          refine wpAnyS_pure (i := 1) (v := .pointer (some ⟨c, 0, none⟩)) rfl (by kernel_rfl) (by kernel_rfl) (by kernel_rfl) (by kernel_rfl) (fun _ _ _ h => h) (Or.inl ⟨by rfl, fun W _ => by go_simp⟩) (fun _ => HSS.out _ HGE9.out) ?_
          refine wpAnyS_take (i := 2) (v := .agg #[.slice az (S i).z.length cz, .int .i64 (S i).c]) rfl (by kernel_rfl) (by kernel_rfl) (by kernel_rfl) (by kernel_rfl) (by kernel_rfl) (by kernel_rfl) (fun _ _ _ h => h) (Or.inl ⟨by rfl, fun W hC => by (obtain ⟨⟨x1, x2, x3⟩, ⟨x4, x5⟩, ⟨x6, x7⟩, x8, x9⟩ := hC); go_simp⟩) (HSS.out _ HGE9.out) ?_
          refine wpAnyS_pure (i := 3) (v := .pointer (some ⟨L, 0, none⟩)) rfl (by kernel_rfl) (by kernel_rfl) (by kernel_rfl) (by kernel_rfl) (fun _ _ _ h => h) (Or.inl ⟨by rfl, fun W _ => by go_simp⟩) (fun _ => HSS.out _ HGE9.out) ?_
          refine wpAnyS_take (i := 4) (v := .slice (some ⟨bR, oR, none⟩) nL cR) rfl (by kernel_rfl) (by kernel_rfl) (by kernel_rfl) (by kernel_rfl) (by kernel_rfl) (by kernel_rfl) (fun _ _ _ h => h) (Or.inl ⟨by rfl, fun W hC => by (obtain ⟨⟨x1, x2, x3⟩, ⟨x4, x5⟩, ⟨x6, x7⟩, x8, x9⟩ := hC); go_simp⟩) (HSS.out _ HGE9.out) ?_
          refine wpAnyS_pure (i := 5) (v := .int .i64 (i : Int)) rfl (by kernel_rfl) (by kernel_rfl) (by kernel_rfl) (by kernel_rfl) (fun _ _ _ h => h) (Or.inl ⟨by rfl, fun W _ => by go_simp⟩) (fun _ => HSS.out _ HGE9.out) ?_
          refine wpAnyS_pure (i := 6) (v := .pointer (some ⟨bR, oR + i, none⟩)) rfl (by kernel_rfl) (by kernel_rfl) (by kernel_rfl) (by kernel_rfl) (fun _ _ _ h => h) (Or.inl ⟨by rfl, fun W _ => by go_simp⟩) (fun _ => HSS.out _ HGE9.out) ?_
          refine wpAnyS_take (i := 7) (v := .slice ar (rrt Rs i).length cr) rfl (by kernel_rfl) (by kernel_rfl) (by kernel_rfl) (by kernel_rfl) (by kernel_rfl) (by kernel_rfl) (fun _ _ _ h => h) (Or.inl ⟨by rfl, fun W hC => by (obtain ⟨⟨x1, x2, x3⟩, ⟨x4, x5⟩, ⟨x6, x7⟩, x8, x9⟩ := hC); go_simp⟩) (HSS.out _ HGE9.out) ?_
          refine wpAnyS_pure (i := 8) (v := .pointer (some ⟨L, 1, none⟩)) rfl (by kernel_rfl) (by kernel_rfl) (by kernel_rfl) (by kernel_rfl) (fun _ _ _ h => h) (Or.inl ⟨by rfl, fun W _ => by go_simp⟩) (fun _ => HSS.out _ HGE9.out) ?_
          refine wpAnyS_take (i := 9) (v := .slice (some ⟨bS, oS, none⟩) nL cS) rfl (by kernel_rfl) (by kernel_rfl) (by kernel_rfl) (by kernel_rfl) (by kernel_rfl) (by kernel_rfl) (fun _ _ _ h => h) (Or.inl ⟨by rfl, fun W hC => by (obtain ⟨⟨x1, x2, x3⟩, ⟨x4, x5⟩, ⟨x6, x7⟩, x8, x9⟩ := hC); go_simp⟩) (HSS.out _ HGE9.out) ?_
          refine wpAnyS_pure (i := 10) (v := .int .i64 (i : Int)) rfl (by kernel_rfl) (by kernel_rfl) (by kernel_rfl) (by kernel_rfl) (fun _ _ _ h => h) (Or.inl ⟨by rfl, fun W _ => by go_simp⟩) (fun _ => HSS.out _ HGE9.out) ?_
          refine wpAnyS_pure (i := 11) (v := .pointer (some ⟨bS, oS + i, none⟩)) rfl (by kernel_rfl) (by kernel_rfl) (by kernel_rfl) (by kernel_rfl) (fun _ _ _ h => h) (Or.inl ⟨by rfl, fun W _ => by go_simp⟩) (fun _ => HSS.out _ HGE9.out) ?_
          refine wpAnyS_take (i := 12) (v := .slice al (rat Ls i).length cl) rfl (by kernel_rfl) (by kernel_rfl) (by kernel_rfl) (by kernel_rfl) (by kernel_rfl) (by kernel_rfl) (fun _ _ _ h => h) (Or.inl ⟨by rfl, fun W hC => by (obtain ⟨⟨x1, x2, x3⟩, ⟨x4, x5⟩, ⟨x6, x7⟩, x8, x9⟩ := hC); go_simp⟩) (HSS.out _ HGE9.out) ?_
          refine wpAnyS_one (i := 13) (by kernel_rfl) ?_
          refine wpOp_step rfl (fun K' hK' => ?_)
          rw [if_pos (by rfl)]
          go_simp
          refine (HSY.out).mono ?_
          rintro e w10 ⟨rfl, hg10⟩
          have HG10 : Hid (W9.grownBy w10 (some c)) := gb_trans HGE9.out hg10
          have HRX := hid (HR9.out _ HG10.out)
          have r0 := HRX.out.cell (i := 0) (by decide)
          have r1 := HRX.out.cell (i := 1) (by decide)
          have y0 := HRX.out.frozen 0
          have y1 := HRX.out.frozen 1
          simp only [dub] at r0 r1
          clear hg10
          refine hK' _ _ ⟨fun _ => HSS.out _ HG10.out, ?_⟩
          clear hK' K'
          refine wpAnyS_pure (i := 14) (v := .tuple #[.agg #[.slice none 0 0, .int .i64 0], .bool false]) rfl (by kernel_rfl) (by kernel_rfl) (by kernel_rfl) (by kernel_rfl) (fun _ _ _ h => h) (Or.inl ⟨by rfl, fun W _ => by go_simp⟩) (fun _ => HSS.out _ HG10.out) ?_
          refine wpAnyS_pure (i := 15) (v := .agg #[.slice none 0 0, .int .i64 0]) rfl (by kernel_rfl) (by kernel_rfl) (by kernel_rfl) (by kernel_rfl) (fun _ _ _ h => h) (Or.inl ⟨by rfl, fun W _ => by go_simp⟩) (fun _ => HSS.out _ HG10.out) ?_
          refine wpAnyS_pure (i := 16) (v := .bool false) rfl (by kernel_rfl) (by kernel_rfl) (by kernel_rfl) (by kernel_rfl) (fun _ _ _ h => h) (Or.inl ⟨by rfl, fun W _ => by go_simp⟩) (fun _ => HSS.out _ HG10.out) ?_
          refine wpAnyS_one (i := 17) (by kernel_rfl) ?_
          refine wpOp_step rfl (fun K' hK' => ?_)
          rw [if_pos (by rfl)]
          go_simp
          refine hK' _ _ ⟨fun h => absurd (h 17 (by simp)) (by decide), ?_⟩
          clear hK' K'
          refine wpAnyS_one (i := 18) (by kernel_rfl) ?_
          refine wpOp_step rfl (fun K' hK' => ?_)
          rw [if_pos (by rfl)]
          go_simp
          refine hK' _ _ ⟨fun h => absurd (h 17 (by simp)) (by decide), ?_⟩
          clear hK' K'
          refine wpAnyS_done (by kernel_rfl) ?_ _
          have HE : Hid (Below w.heap.size w ((w10.setCell ⟨N, 0, none⟩ (.slice none 0 0)).setCell ⟨N, 1, none⟩ (.int .i64 0))) := HBW.out _ (((HB9.out _ HG10.out).setCell (p := ⟨N, 0, none⟩) (by show W1.heap.size ≤ N; have := HNW.out; omega) _).setCell (p := ⟨N, 1, none⟩) (by show W1.heap.size ≤ N; have := HNW.out; omega) _)
          clear HSY HRX r0 r1 y0 y1 HG10 HR9 HSS
          go_wp2_with fail
          go_ret3
          exact ⟨fun h => absurd h HNO.out, fun _ => rfl, HE.out⟩
    · have hin : i = nL := by omega
      have hlt2 : ¬ (i : Int) < (nL : Int) := by omega
      have HYES : Hid (GcO q n wide lys outs Rs Ls) := HGO.out.2 (fun j hj => hAll.out j (by omega))
      have HBD0 : Below wr.heap.size wr wr.drew := (Below.refl _ _).drew
      have r0 := hrow.cell (i := 0) (by decide)
      have r1 := hrow.cell (i := 1) (by decide)
      simp only [dub] at r0 r1
      rw [hin] at r0 r1 hnz'
      have HE : Hid (NumL wr.drew az cz (S nL).z ∧ Below w.heap.size w wr.drew) := ⟨hnz'.below HBD0, (HBW.out _ hbl).drew⟩
      clear hI hrow hnz' hPi hbl HBD0 hin hAll
      go_wp2_with fail
      have r0 : wr.drew.cell? ⟨N, 0, none⟩ = _ := r0
      have r1 : wr.drew.cell? ⟨N, 1, none⟩ = _ := r1
      refine wp_region_held_drew (S := fun W => W.cell? ⟨N, 0, none⟩ = some (.slice az (S nL).z.length cz) ∧ W.cell? ⟨N, 1, none⟩ = some (.int .i64 (S nL).c)) (by kernel_rfl) (⟨r0, r1⟩) (fun hHeld => ?_)
      refine wpAnyH_takeU (i := 0) (v := .pointer (some ⟨N, 0, none⟩)) rfl (by kernel_rfl) (by kernel_rfl) (by kernel_rfl) (fun _ _ _ h => h) (by rfl) (fun W hC => by go_simp) hHeld ?_
      simp only [Act.put, List.setIfInBounds_toArray, List.set_cons_zero, List.set_cons_succ]
      refine wpAnyH_takeU (i := 1) (v := .slice az (S nL).z.length cz) rfl (by kernel_rfl) (by kernel_rfl) (by kernel_rfl) (fun _ _ _ h => h) (by rfl) (fun W hC => by (obtain ⟨x1, x2⟩ := hC); go_simp) hHeld ?_
      simp only [Act.put, List.setIfInBounds_toArray, List.set_cons_zero, List.set_cons_succ]
      refine wpAnyH_takeU (i := 2) (v := .pointer (some ⟨N, 1, none⟩)) rfl (by kernel_rfl) (by kernel_rfl) (by kernel_rfl) (fun _ _ _ h => h) (by rfl) (fun W hC => by go_simp) hHeld ?_
      simp only [Act.put, List.setIfInBounds_toArray, List.set_cons_zero, List.set_cons_succ]
      refine wpAnyH_takeU (i := 3) (v := .int .i64 (S nL).c) rfl (by kernel_rfl) (by kernel_rfl) (by kernel_rfl) (fun _ _ _ h => h) (by rfl) (fun W hC => by (obtain ⟨x1, x2⟩ := hC); go_simp) hHeld ?_
      simp only [Act.put, List.setIfInBounds_toArray, List.set_cons_zero, List.set_cons_succ]
      refine wpAnyH_takeU (i := 4) (v := .slice az (S nL).z.length cz) rfl (by kernel_rfl) (by kernel_rfl) (by kernel_rfl) (fun _ _ _ h => h) (by rfl) (fun W hC => by go_simp) hHeld ?_
      simp only [Act.put, List.setIfInBounds_toArray, List.set_cons_zero, List.set_cons_succ]
      refine wpAnyH_takeU (i := 5) (v := .int .i64 (S nL).c) rfl (by kernel_rfl) (by kernel_rfl) (by kernel_rfl) (fun _ _ _ h => h) (by rfl) (fun W hC => by go_simp) hHeld ?_
      simp only [Act.put, List.setIfInBounds_toArray, List.set_cons_zero, List.set_cons_succ]
      refine wpAnyH_takeU (i := 6) (v := .bool true) rfl (by kernel_rfl) (by kernel_rfl) (by kernel_rfl) (fun _ _ _ h => h) (by rfl) (fun W hC => by go_simp) hHeld ?_
      simp only [Act.put, List.setIfInBounds_toArray, List.set_cons_zero, List.set_cons_succ]
      refine wpAnyH_done (by kernel_rfl) ?_ _
      go_wp2_with fail
      go_ret3
      exact ⟨fun _ => ⟨az, cz, rfl, HE.out.1⟩, fun h => absurd HYES.out h, HE.out.2⟩

end Go.Proofs.YtpgnabmkfkcogaaGreatDoor
