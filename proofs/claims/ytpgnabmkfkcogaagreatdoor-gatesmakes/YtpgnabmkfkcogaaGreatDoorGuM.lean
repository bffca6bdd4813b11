/- Package gates: Make. -/
import Derived.Test.YtpgnabmkfkcogaaGreatDoorGmAV
import Derived.Test.YtpgnabmkfkcogaaGreatDoorGmAW
import Derived.Test.YtpgnabmkfkcogaaGreatDoorGmAK
import Derived.Test.YtpgnabmkfkcogaaGreatDoorGmAT
namespace Go.Proofs.YtpgnabmkfkcogaaGreatDoor
open Go.RowKit

theorem ownR_lst {base : Nat} {w : World} {v : Value} {rs : List (List Int)} (h : OwnR base w v rs) : ∃ a c, v = .slice a rs.length c ∧ LstR w.heap.size w a c rs := h.lst
theorem mst_ok {q : Nat} (h3 : 3 ≤ q) (h4 : q ≤ 2147483647) (n : Nat) (wide : Int) (lys : List (List GatZ)) (inputs : List Int) (i : Nat) (hi : i ≤ lys.length) : GsI wide lys i (mst q n wide lys inputs i) := by
  rw [← gst_mst i hi]
  exact gst_ok h3 h4 n wide lys _ _ _ i hi
theorem alloc_two (W : World) (o : Obj) (o2 : Obj) : ((W.alloc o).alloc o2).heap[W.heap.size + 1]? = some o2 := by
  have := heap_alloc_new (W.alloc o) o2
  rwa [show (W.alloc o).heap.size = W.heap.size + 1 from by simp] at this
theorem LyI.mono {base base' : Nat} {w : World} {lv u : Value} {rs : List (List Int)} (h : LyI base w lv u rs) (e : base' ≤ base) : LyI base' w lv u rs := by
  obtain ⟨vals, h1, h2⟩ := h.own
  exact ⟨⟨vals, World.ownsRow.mono h1 e, h2⟩, h.apart⟩
theorem MkG.mono {base base' : Nat} {w : World} {rv lv : Value} {Rs : List (List (List Int))} {Ls : List (List Int)} (h : MkG base w rv lv Rs Ls) (e : base' ≤ base) : MkG base' w rv lv Rs Ls := by
  obtain ⟨vals, h1, h2⟩ := h.rds
  obtain ⟨vl, l1, l2⟩ := h.lns
  refine ⟨⟨vals, World.ownsRow.mono h1 e, fun j hj => ?_⟩, ⟨vl, World.ownsRow.mono l1 e, l2⟩⟩
  obtain ⟨u, e1, e2, e3⟩ := h2 j hj
  exact ⟨u, e1, e2, e3.mono e⟩
theorem mRs_succ (q n : Nat) (wide : Int) (lys : List (List GatZ)) (inputs : List Int) (k : Nat) : mRs q n wide lys inputs (k + 1) = mRs q n wide lys inputs k ++ [mrs q n wide lys inputs (lys.length - 1 - k) (mst q n wide lys inputs k)] := by
  unfold mRs
  rw [List.range_succ, List.map_append]
  rfl
theorem mLs_succ (q n : Nat) (wide : Int) (lys : List (List GatZ)) (inputs : List Int) (k : Nat) : mLs q n wide lys inputs (k + 1) = mLs q n wide lys inputs k ++ [mln q n wide lys inputs (lys.length - 1 - k) (mst q n wide lys inputs k)] := by
  unfold mLs
  rw [List.range_succ, List.map_append]
  rfl
set_option maxRecDepth 100000 in
set_option maxHeartbeats 8000000 in
theorem gmake_yes (q n d sp b cL ci : Nat) (wide : Int) (aL ai : Option Addr) (lys : List (List GatZ)) (inputs : List Int) (w : World) (ok : SpgOk q n d) (hsp : SpgAt w sp b q n d) (h23 : 23 ≤ q) (hIT : InT q b w) (hB : CirB lys) (hl : LstGG w.heap.size w aL cL lys) (li : Lst w.heap.size w ai ci inputs) (fi : Fits inputs) (hV : vle wide lys inputs.length = 0) :
    Calls Tryz.prog 29 #[.pointer (some ⟨sp, 0, none⟩), .agg #[.int .i64 wide, .slice aL lys.length cL], .slice ai inputs.length ci] w fun e w' => ∃ aR cR aS cS, e = .returned (.tuple #[.agg #[.slice aR lys.length cR, .slice aS lys.length cS], .nilIface]) ∧ MkG w.heap.size w' (.slice aR lys.length cR) (.slice aS lys.length cS) (mRs q n wide lys inputs lys.length) (mLs q n wide lys inputs lys.length) ∧ Below w.heap.size w w' := by
  have h3 : 3 ≤ q := hIT.h3
  have h4 : q ≤ 2147483647 := hIT.hm
  obtain ⟨hS, hGC, hin⟩ := vle_zero hV
  have h8 := hS.2.1
  obtain ⟨nL, hnL⟩ : ∃ nL, nL = lys.length := ⟨_, rfl⟩
  obtain ⟨ni, hni⟩ : ∃ ni, ni = inputs.length := ⟨_, rfl⟩
  obtain ⟨W1, hW1⟩ : ∃ W1, W1 = (w.alloc (.cells #[.int .i64 wide, .slice aL nL cL] 69)).alloc (.cells #[.slice none 0 0, .slice none 0 0] 74) := ⟨_, rfl⟩
  obtain ⟨G, hG⟩ : ∃ G, G = w.heap.size := ⟨_, rfl⟩
  obtain ⟨R, hR⟩ : ∃ R, R = w.heap.size + 1 := ⟨_, rfl⟩
  have hb1 : Below w.heap.size w W1 := by rw [hW1]; exact ((Below.refl _ _).alloc (Nat.le_refl _) _).alloc (by simp) _
  have hz1 : W1.heap.size = w.heap.size + 2 := by rw [hW1]; simp
  have hs1 : W1.heap[G]? = some (.cells #[.int .i64 wide, .slice aL nL cL] 69 (0, 0)) := by
    rw [hW1, hG]
    exact (hao _ _ (by simp)).trans (heap_alloc_new w _)
  have hs2 : W1.rowIs R 74 2 (dub (.slice none 0 0) (.slice none 0 0)) := by
    rw [hW1, hR]
    have := dub_new (w.alloc (.cells #[.int .i64 wide, .slice aL nL cL] 69)) 74 (.slice none 0 0) (.slice none 0 0)
    simpa using this
  have HSC : Hid (∀ W, Below W1.heap.size W1 W → W.cell? ⟨G, 0, none⟩ = some (.int .i64 wide) ∧ W.cell? ⟨G, 1, none⟩ = some (.slice aL nL cL)) := fun W hW => by
    have e1 := (hW.block G (by omega)).trans hs1
    exact ⟨by simp [World.cell?, e1], by simp [World.cell?, e1]⟩
  have HRS : Hid (∀ W, Below W1.heap.size W1 W → W.rowIs R 74 2 (dub (.slice none 0 0) (.slice none 0 0))) := fun W hW => World.rowIs.of_block hs2 (hW.block R (by omega))
  have HBW : Hid (∀ W, Below W1.heap.size W1 W → Below w.heap.size w W) := fun W hW => hb1.trans (hW.mono (by omega))
  obtain ⟨S, hSS⟩ : ∃ S : Nat → GSt, S = mst q n wide lys inputs := ⟨_, rfl⟩
  have HOK : Hid (∀ i, i ≤ nL → GsI wide lys i (S i)) := fun i hi => by rw [hSS]; exact mst_ok h3 h4 n wide lys inputs i (by omega)
  have HFI : Hid (∀ W, Below W1.heap.size W1 W → Calls Tryz.prog 9 #[.pointer (some ⟨sp, 0, none⟩)] W fun e w' => e = .returned (.pointer (some ⟨b, 0, none⟩)) ∧ w' = W) := fun W hW => sfield_any q n d b sp W (hsp.below (HBW.out W hW) hsp.lt hsp.ltb)
  have HVA : Hid (∀ W, Below W1.heap.size W1 W → Calls Tryz.prog 34 #[.pointer (some ⟨b, 0, none⟩), .agg #[.int .i64 wide, .slice aL nL cL], .slice ai ni ci] W fun e w' => ∃ v, e = .returned (.tuple #[v, .nilIface]) ∧ OwnR W.heap.size w' v (gva q lys inputs (nL + 1)) ∧ Below W.heap.size W w') := fun W hW => by
    have hw := HBW.out W hW
    have h := gatesValues_any q b cL ci wide aL ai lys inputs W (hIT.below hw) hB (hl.step hw) ((li.below hw).mono hw.size) fi
    rw [hV, errz_nil, ← hnL, ← hni] at h
    unfold gvr at h
    rw [if_pos hV, ← hnL] at h
    exact h
  have hbw : b < w.heap.size := heap_lt hIT.cell
  have htb : 2 < w.heap.size := cell_lt (hIT.tab 0 (by decide))
  have HGV : Hid (∀ i, i ≤ nL → (gvs q lys inputs i).length = 2 ^ bnn wide lys i ∧ Fits (gvs q lys inputs i)) := fun i hi => ⟨gvs_len hS hin (by omega), gvs_fits h3 h4 lys inputs i⟩
  have HBGX : Hid (∀ W ao co, Below w.heap.size w W → Lst W.heap.size W ao co (gvs q lys inputs nL) → Calls Tryz.prog 81 #[.pointer (some ⟨sp, 0, none⟩), .agg #[.int .i64 wide, .slice aL nL cL], .slice ao (gvs q lys inputs nL).length co] W fun e w' => ∃ r az cz, e = .returned (.tuple #[.pointer (some ⟨r, 0, none⟩), .slice az (S 0).z.length cz]) ∧ W.heap.size ≤ r ∧ PCh w.heap.size q n w' r (S 0).D ∧ NumL w' az cz (S 0).z ∧ Below W.heap.size W w') := fun W ao co hW hla => by
    have h := gbegin_any w.heap.size q n (bnn wide lys lys.length) d sp b cL co wide aL ao lys (gvs q lys inputs nL) W ok (hsp.below hW hsp.lt hsp.ltb) hW.size hsp.lt hbw h23 h4 (hIT.below hW).tab hS hB (hl.step hW) (hS.bn (Nat.le_refl lys.length)).2 (by rw [(HGV.out nL (Nat.le_refl _)).1, hnL]) (HGV.out nL (Nat.le_refl _)).2 hla
    rw [← hnL] at h
    have e0 : (S 0).z.length = bnn wide lys nL := by have := (HOK.out 0 (Nat.zero_le _)).len; rw [← hnL] at this; exact this
    rw [e0, hSS]
    rw [show mst q n wide lys inputs 0 = gs0 q n wide lys (gvs q lys inputs lys.length) from rfl]
    unfold gs0
    rw [← hnL]
    exact h
  have HLVL : Hid (∀ W ly, Below w.heap.size w W → ly < nL → Calls Tryz.prog 82 #[.pointer (some ⟨b, 0, none⟩), .agg #[.int .i64 wide, .slice aL nL cL], .int .i64 (ly : Int)] W fun e w' => ∃ ag cg, e = .returned (.agg #[.pointer (some ⟨b, 0, none⟩), .slice ag (lyt lys ly).length cg, .int .i64 (bnn wide lys ly : Int)]) ∧ LstG w.heap.size w ag cg (lyt lys ly) ∧ Below W.heap.size W w') := fun W ly hW hly => by
    have h := levelOf_at w.heap.size b ly cL wide aL lys W hS (by omega) (hl.below hW) hW.size (hIT.below hW).tab
    rw [← hnL] at h
    refine h.mono ?_
    rintro e w' ⟨ag, cg, rfl, h1, h2⟩
    exact ⟨ag, cg, rfl, h1.back hW, h2⟩
  have HSHX : Hid (∀ (W : World) (i c N1 : Nat) (ag ab az : Option Addr) (cg cb cz : Nat), i < nL → Below w.heap.size w W → PCh w.heap.size q n W c (S i).D → LstG w.heap.size W ag cg (lyt lys (nL - 1 - i)) → Lst N1 W ab cb (gvs q lys inputs (nL - 1 - i)) → N1 ≤ c → NumL W az cz (S i).z →
      Calls Tryz.prog 83 #[.agg #[.pointer (some ⟨b, 0, none⟩), .slice ag (lyt lys (nL - 1 - i)).length cg, .int .i64 (bnn wide lys (nL - 1 - i) : Int)], .pointer (some ⟨c, 0, none⟩), .slice ab (gvs q lys inputs (nL - 1 - i)).length cb, .slice az (S i).z.length cz] W fun e w' => ∃ rv dv Lb Z xs, e = .returned (.tuple #[rv, .slice (some ⟨Lb, 0, none⟩) (mln q n wide lys inputs (nL - 1 - i) (S i)).length (mln q n wide lys inputs (nL - 1 - i) (S i)).length, .slice (some ⟨Z, 0, none⟩) (S (i + 1)).z.length (S (i + 1)).z.length]) ∧
        ShI W.heap.size w' rv dv (mrs q n wide lys inputs (nL - 1 - i) (S i)) xs ∧ ArrI w' Lb 3 (mln q n wide lys inputs (nL - 1 - i) (S i)).length (zat (mln q n wide lys inputs (nL - 1 - i) (S i))) ∧ NumL w' (some ⟨Z, 0, none⟩) (S (i + 1)).z.length (S (i + 1)).z ∧ PCh w.heap.size q n w' c (S (i + 1)).D ∧ W.grownBy w' (some c)) := fun W i c N1 ag ab az cg cb cz hi hW hP hg hla hN1 hz => by
    have hk := HOK.out i (by omega)
    have hk1 := HOK.out (i + 1) (by omega)
    have hly : nL - 1 - i < lys.length := by omega
    have hbn := hS.bn (show nL - 1 - i ≤ lys.length by omega)
    have hzl : (S i).z.length ≤ 6 := by rw [hk.len]; exact (hS.bn (show lys.length - i ≤ lys.length by omega)).2
    have hz1 : (S (i + 1)).z.length = bnn wide lys (nL - 1 - i) := by rw [hk1.len, ← hnL, show nL - (i + 1) = nL - 1 - i from by omega]
    have hln : (mln q n wide lys inputs (nL - 1 - i) (S i)).length = bnn wide lys (nL - 1 - i) + 1 := lnz_len _ _ _ _ _
    have h := gtshown_any w.heap.size N1 q n c b (bnn wide lys (nL - 1 - i)) cg cb cz ag ab az (lyt lys (nL - 1 - i)) (gvs q lys inputs (nL - 1 - i)) (S i) W (hIT.below hW) hbw htb hP hk.dig hbn.2 hg (by rw [(hS.own hly).1]; exact pow_6 (hS.bn (show nL - 1 - i + 1 ≤ lys.length by omega)).2) (fun k hk' => ⟨((hGC _ hly k hk').2.1).1, ((hGC _ hly k hk').2.2).1⟩) (HGV.out _ (by omega)).1 (HGV.out _ (by omega)).2 hla hN1 hzl hk.fit hz
    refine h.mono ?_
    rintro e w' ⟨rv, dv, Lb, Z, rfl, h1, ⟨_, _, h2⟩, ⟨_, h3'⟩, h4', h5⟩
    have eS : S (i + 1) = gnx q n (bnn wide lys (nL - 1 - i)) (mrs q n wide lys inputs (nL - 1 - i) (S i)) (mln q n wide lys inputs (nL - 1 - i) (S i)) (S i) := by rw [hSS, hnL]; rfl
    refine ⟨rv, dv, Lb, Z, _, by rw [hln, hz1], h1, by rw [hln]; exact h2, ?_, by rw [eS]; exact h4', h5⟩
    rw [hz1]
    exact arr_num (by rw [eS]; exact h3') hz1
  have HRSS : Hid (∀ i, mRs q n wide lys inputs (i + 1) = mRs q n wide lys inputs i ++ [mrs q n wide lys inputs (nL - 1 - i) (S i)] ∧ mLs q n wide lys inputs (i + 1) = mLs q n wide lys inputs i ++ [mln q n wide lys inputs (nL - 1 - i) (S i)]) := fun i => by rw [hSS, hnL]; exact ⟨mRs_succ _ _ _ _ _ _, mLs_succ _ _ _ _ _ _⟩
  have hL8 : nL ≤ 8 := by omega
  have hL1 : 1 ≤ nL := by omega
  have HW1 := hid hW1
  have HGE := hid hG
  have HRE := hid hR
  have HZ1 : Hid (W1.heap.size = w.heap.size + 2) := hz1
  have HWD0 : Hid (Below W1.heap.size W1 W1.drew) := (Below.refl _ _).drew
  rw [← hnL, ← hni]
  clear hW1 hG hR hs1 hs2 hz1 hb1 hnL hni hSS hS hGC hin h8 ok hsp hIT hB hl li fi hV
  go_enter Tryz.func29, Tryz.ntmps29
  go_wp2_with fail
  rw [← HRE.out, ← HGE.out, ← HW1.out]
  have HWD := HWD0
  refine wp_region_held_drew (S := fun W => W.cell? ⟨G, 0, none⟩ = some (.int .i64 wide) ∧ W.cell? ⟨G, 1, none⟩ = some (.slice aL nL cL)) (by kernel_rfl) (HSC.out _ HWD.out) (fun hHeld => ?_)
  refine wpAnyH_takeU (i := 0) (v := .pointer (some ⟨sp, 0, none⟩)) rfl (by kernel_rfl) (by kernel_rfl) (by kernel_rfl) (fun _ _ _ h => h) (by rfl) (fun W hC => by go_simp) hHeld ?_
  simp only [Act.put, List.setIfInBounds_toArray, List.set_cons_zero, List.set_cons_succ]
  refine wpAnyH_takeU (i := 2) (v := .agg #[.int .i64 wide, .slice aL nL cL]) rfl (by kernel_rfl) (by kernel_rfl) (by kernel_rfl) (fun _ _ _ h => h) (by rfl) (fun W hC => by (obtain ⟨x1, x2⟩ := hC); go_simp) hHeld ?_
  simp only [Act.put, List.setIfInBounds_toArray, List.set_cons_zero, List.set_cons_succ]
  refine wpAnyH_takeU (i := 3) (v := .slice ai ni ci) rfl (by kernel_rfl) (by kernel_rfl) (by kernel_rfl) (fun _ _ _ h => h) (by rfl) (fun W hC => by go_simp) hHeld ?_
  simp only [Act.put, List.setIfInBounds_toArray, List.set_cons_zero, List.set_cons_succ]
  refine wpAnyH_ready (rs := [1]) (by kernel_rfl) (by simp) ?_
  refine AllReadyH.consU rfl (fun K' hK' => ?_) AllReadyH.nil
  go_simp
  refine (HFI.out _ HWD.out).mono ?_
  rintro e w3 ⟨rfl, hw⟩
  have hw1 := hw.symm
  subst hw1
  clear hw
  refine hK'.out _ _ (HSC.out _ HWD.out) (fun hHeld => ?_)
  clear hK' K'
  refine wpAnyH_ready (rs := [4]) (by kernel_rfl) (by simp) ?_
  refine AllReadyH.consU rfl (fun K' hK' => ?_) AllReadyH.nil
  go_simp
  refine (HVA.out _ HWD.out).mono ?_
  rintro e w4 ⟨vv, rfl, ho4, hb4⟩
  have H4 : Hid (Below W1.heap.size W1 w4) := HWD.out.trans (hb4.mono HWD.out.size)
  have HO4 := hid ho4
  clear ho4 hb4
  refine hK'.out _ _ (HSC.out _ H4.out) (fun hHeld => ?_)
  clear hK' K'
  refine wpAnyH_takeU (i := 5) (v := .tuple #[vv, .nilIface]) rfl (by kernel_rfl) (by kernel_rfl) (by kernel_rfl) (fun _ _ _ h => h) (by rfl) (fun W hC => by go_simp) hHeld ?_
  simp only [Act.put, List.setIfInBounds_toArray, List.set_cons_zero, List.set_cons_succ]
  refine wpAnyH_takeU (i := 6) (v := vv) rfl (by kernel_rfl) (by kernel_rfl) (by kernel_rfl) (fun _ _ _ h => h) (by rfl) (fun W hC => by go_simp) hHeld ?_
  simp only [Act.put, List.setIfInBounds_toArray, List.set_cons_zero, List.set_cons_succ]
  refine wpAnyH_takeU (i := 7) (v := .nilIface) rfl (by kernel_rfl) (by kernel_rfl) (by kernel_rfl) (fun _ _ _ h => h) (by rfl) (fun W hC => by go_simp) hHeld ?_
  simp only [Act.put, List.setIfInBounds_toArray, List.set_cons_zero, List.set_cons_succ]
  refine wpAnyH_takeU (i := 8) (v := vv) rfl (by kernel_rfl) (by kernel_rfl) (by kernel_rfl) (fun _ _ _ h => h) (by rfl) (fun W hC => by go_simp) hHeld ?_
  simp only [Act.put, List.setIfInBounds_toArray, List.set_cons_zero, List.set_cons_succ]
  refine wpAnyH_takeU (i := 9) (v := .nilIface) rfl (by kernel_rfl) (by kernel_rfl) (by kernel_rfl) (fun _ _ _ h => h) (by rfl) (fun W hC => by go_simp) hHeld ?_
  simp only [Act.put, List.setIfInBounds_toArray, List.set_cons_zero, List.set_cons_succ]
  refine wpAnyH_done (by kernel_rfl) ?_ _
  obtain ⟨av, cv, rfl, hlv⟩ := ownR_lst HO4.out
  rw [gva_len]
  obtain ⟨nv, hnv⟩ : ∃ nv, nv = nL + 1 := ⟨_, rfl⟩
  rw [← hnv]
  have HGVR : Hid (∀ i, i ≤ nL → ∃ bv ov ak ck, av = some ⟨bv, ov, none⟩ ∧ bv < w4.heap.size ∧ w4.cell? ⟨bv, ov + i, none⟩ = some (.slice ak (gvs q lys inputs i).length ck) ∧ Lst w4.heap.size w4 ak ck (gvs q lys inputs i)) := fun i hi => lst_gvs hlv (by omega)
  have HNV := hid hnv
  obtain ⟨bv, ov, aN, cN, rfl, hbv, hcN, hlN⟩ := HGVR.out nL (Nat.le_refl _)
  obtain ⟨W5, hW5⟩ : ∃ W5, W5 = w4.alloc (.cells #[.slice none 0 0, .slice none 0 0] 74) := ⟨_, rfl⟩
  obtain ⟨hb5, hs5, hz5⟩ := own_blk hW5
  have H5 : Hid (Below W1.heap.size W1 W5) := H4.out.trans (hb5.mono H4.out.size)
  have HB5 := hid hb5
  have HS5 : Hid (∀ W, Below W5.heap.size W5 W → (W.cell? ⟨G, 0, none⟩ = some (.int .i64 wide) ∧ W.cell? ⟨G, 1, none⟩ = some (.slice aL nL cL)) ∧ W.cell? ⟨bv, ov + nL, none⟩ = some (.slice aN (gvs q lys inputs nL).length cN)) := fun W hW => ⟨HSC.out W (H5.out.trans (hW.mono H5.out.size)), (hW.cell (p := ⟨bv, ov + nL, none⟩) (by have := HB5.out.size; show bv < _; omega)).trans ((HB5.out.cell (p := ⟨bv, ov + nL, none⟩) hbv).trans hcN)⟩
  have HWE : Hid (Below W5.heap.size W5 W5.drew) := (Below.refl _ _).drew
  have HBG : Hid (Calls Tryz.prog 81 #[.pointer (some ⟨sp, 0, none⟩), .agg #[.int .i64 wide, .slice aL nL cL], .slice aN (gvs q lys inputs nL).length cN] W5.drew fun e w' => ∃ r az cz, e = .returned (.tuple #[.pointer (some ⟨r, 0, none⟩), .slice az (S 0).z.length cz]) ∧ W5.drew.heap.size ≤ r ∧ PCh w.heap.size q n w' r (S 0).D ∧ NumL w' az cz (S 0).z ∧ Below W5.drew.heap.size W5.drew w') := HBGX.out W5.drew aN cN (HBW.out _ H5.out).drew ((hlN.below (hb5.drew)).mono (by exact hb5.size))
  obtain ⟨P, hP⟩ : ∃ P, P = w4.heap.size := ⟨_, rfl⟩
  have HPE := hid hP
  have HW5 := hid hW5
  have HP5 : Hid (W5.rowIs P 74 2 (dub (.slice none 0 0) (.slice none 0 0))) := by rw [hW5, hP]; exact dub_new w4 _ _ _
  have HZ5 : Hid (W5.heap.size = P + 1) := by unfold Hid; omega
  have hnLv : (nL : Int) < (nv : Int) := by omega
  have hL0 : ¬ (nL : Int) < 0 := by omega
  clear hlv hnv hcN hlN hbv hb5 hs5 hz5 hW5 hP HO4 HVA HBGX
  go_wp2_with fail
  rw [← HPE.out, ← HW5.out]
  refine wp_region_held_drew (S := fun W => (W.cell? ⟨G, 0, none⟩ = some (.int .i64 wide) ∧ W.cell? ⟨G, 1, none⟩ = some (.slice aL nL cL)) ∧ W.cell? ⟨bv, ov + nL, none⟩ = some (.slice aN (gvs q lys inputs nL).length cN)) (by kernel_rfl) (HS5.out _ HWE.out) (fun hHeld => ?_)
  refine wpAnyH_takeU (i := 0) (v := .pointer (some ⟨sp, 0, none⟩)) rfl (by kernel_rfl) (by kernel_rfl) (by kernel_rfl) (fun _ _ _ h => h) (by rfl) (fun W hC => by go_simp) hHeld ?_
  simp only [Act.put, List.setIfInBounds_toArray, List.set_cons_zero, List.set_cons_succ]
  refine wpAnyH_takeU (i := 1) (v := .agg #[.int .i64 wide, .slice aL nL cL]) rfl (by kernel_rfl) (by kernel_rfl) (by kernel_rfl) (fun _ _ _ h => h) (by rfl) (fun W hC => by (obtain ⟨⟨x1, x2⟩, x3⟩ := hC); go_simp) hHeld ?_
  simp only [Act.put, List.setIfInBounds_toArray, List.set_cons_zero, List.set_cons_succ]
  refine wpAnyH_takeU (i := 2) (v := .slice (some ⟨bv, ov, none⟩) nv cv) rfl (by kernel_rfl) (by kernel_rfl) (by kernel_rfl) (fun _ _ _ h => h) (by rfl) (fun W hC => by go_simp) hHeld ?_
  simp only [Act.put, List.setIfInBounds_toArray, List.set_cons_zero, List.set_cons_succ]
  refine wpAnyH_takeU (i := 3) (v := .pointer (some ⟨G, 1, none⟩)) rfl (by kernel_rfl) (by kernel_rfl) (by kernel_rfl) (fun _ _ _ h => h) (by rfl) (fun W hC => by go_simp) hHeld ?_
  simp only [Act.put, List.setIfInBounds_toArray, List.set_cons_zero, List.set_cons_succ]
  refine wpAnyH_takeU (i := 4) (v := .slice aL nL cL) rfl (by kernel_rfl) (by kernel_rfl) (by kernel_rfl) (fun _ _ _ h => h) (by rfl) (fun W hC => by (obtain ⟨⟨x1, x2⟩, x3⟩ := hC); go_simp) hHeld ?_
  simp only [Act.put, List.setIfInBounds_toArray, List.set_cons_zero, List.set_cons_succ]
  refine wpAnyH_takeU (i := 5) (v := .int .i64 (nL : Int)) rfl (by kernel_rfl) (by kernel_rfl) (by kernel_rfl) (fun _ _ _ h => h) (by rfl) (fun W hC => by go_simp) hHeld ?_
  simp only [Act.put, List.setIfInBounds_toArray, List.set_cons_zero, List.set_cons_succ]
  refine wpAnyH_takeU (i := 6) (v := .pointer (some ⟨bv, ov + nL, none⟩)) rfl (by kernel_rfl) (by kernel_rfl) (by kernel_rfl) (fun _ _ _ h => h) (by rfl) (fun W hC => by go_simp) hHeld ?_
  simp only [Act.put, List.setIfInBounds_toArray, List.set_cons_zero, List.set_cons_succ]
  refine wpAnyH_takeU (i := 7) (v := .slice aN (gvs q lys inputs nL).length cN) rfl (by kernel_rfl) (by kernel_rfl) (by kernel_rfl) (fun _ _ _ h => h) (by rfl) (fun W hC => by (obtain ⟨⟨x1, x2⟩, x3⟩ := hC); go_simp) hHeld ?_
  simp only [Act.put, List.setIfInBounds_toArray, List.set_cons_zero, List.set_cons_succ]
  refine wpAnyH_ready (rs := [8]) (by kernel_rfl) (by simp) ?_
  refine AllReadyH.consU rfl (fun K' hK' => ?_) AllReadyH.nil
  go_simp
  refine (HBG.out).mono ?_
  rintro e w6 ⟨c, az, cz, rfl, hc6, hp6, hz6, hb6⟩
  have H6 : Hid (Below W5.heap.size W5 w6) := HWE.out.trans (hb6.mono HWE.out.size)
  have HP6 := hid hp6
  have HZ6 := hid hz6
  have HC6 := hid hc6
  clear hp6 hz6 hc6 hb6
  refine hK'.out _ _ (HS5.out _ H6.out) (fun hHeld => ?_)
  clear hK' K'
  refine wpAnyH_takeU (i := 9) (v := .tuple #[.pointer (some ⟨c, 0, none⟩), .slice az (S 0).z.length cz]) rfl (by kernel_rfl) (by kernel_rfl) (by kernel_rfl) (fun _ _ _ h => h) (by rfl) (fun W hC => by go_simp) hHeld ?_
  simp only [Act.put, List.setIfInBounds_toArray, List.set_cons_zero, List.set_cons_succ]
  refine wpAnyH_takeU (i := 10) (v := .pointer (some ⟨c, 0, none⟩)) rfl (by kernel_rfl) (by kernel_rfl) (by kernel_rfl) (fun _ _ _ h => h) (by rfl) (fun W hC => by go_simp) hHeld ?_
  simp only [Act.put, List.setIfInBounds_toArray, List.set_cons_zero, List.set_cons_succ]
  refine wpAnyH_takeU (i := 11) (v := .slice az (S 0).z.length cz) rfl (by kernel_rfl) (by kernel_rfl) (by kernel_rfl) (fun _ _ _ h => h) (by rfl) (fun W hC => by go_simp) hHeld ?_
  simp only [Act.put, List.setIfInBounds_toArray, List.set_cons_zero, List.set_cons_succ]
  refine wpAnyH_takeU (i := 12) (v := .pointer (some ⟨c, 0, none⟩)) rfl (by kernel_rfl) (by kernel_rfl) (by kernel_rfl) (fun _ _ _ h => h) (by rfl) (fun W hC => by go_simp) hHeld ?_
  simp only [Act.put, List.setIfInBounds_toArray, List.set_cons_zero, List.set_cons_succ]
  refine wpAnyH_takeU (i := 13) (v := .slice az (S 0).z.length cz) rfl (by kernel_rfl) (by kernel_rfl) (by kernel_rfl) (fun _ _ _ h => h) (by rfl) (fun W hC => by go_simp) hHeld ?_
  simp only [Act.put, List.setIfInBounds_toArray, List.set_cons_zero, List.set_cons_succ]
  refine wpAnyH_done (by kernel_rfl) ?_ _
  have HCW : Hid (w4.heap.size ≤ c) := by have := HC6.out; have := HB5.out.size; unfold Hid; show _ ≤ _; have e : W5.drew.heap.size = W5.heap.size := rfl; omega
  have hcl6 := HP6.out.lt
  have H46 : Hid (Below w4.heap.size w4 w6) := HB5.out.trans (H6.out.mono HB5.out.size)
  have HB41 : Hid (∀ W, Below w4.heap.size w4 W → Below W1.heap.size W1 W) := fun W hW => H4.out.trans (hW.mono H4.out.size)
  have HPR6 : Hid (w6.rowIs P 74 2 (dub (.slice none 0 0) (.slice none 0 0))) := World.rowIs.of_block HP5.out (H6.out.block P (by have := HZ5.out; omega))
  have hP6 : P < w6.heap.size := World.rowIs.lt HPR6.out
  have hcP : c ≠ P := by have := HCW.out; have := HC6.out; have := HZ5.out; have e : W5.drew.heap.size = W5.heap.size := rfl; omega
  have hsub : IntKind.i64.wrap ((nL : Int) - 1) = (nL : Int) - 1 := by rw [IntKind.wrap_i64]; omega
  have hmx : Tryz.prog.follows .mixedOrders = true := by kernel_rfl
  obtain ⟨k0, k1⟩ := HSC.out w6 (HB41.out _ H46.out)
  go_wp2_with fail
  clear k0 k1
  go_loopw [12, 13, 14, 15, 16, 17, 45] (fun zv _ _ _ _ _ iv wr => ∃ i : Nat, i ≤ nL ∧ iv = .int .i64 (i : Int) ∧ ∃ az cz, zv = .slice az (S i).z.length cz ∧ Hid (∃ aR cR aS cS, wr.rowIs P 74 2 (dub (.slice aR i cR) (.slice aS i cS)) ∧ MkG w6.heap.size wr (.slice aR i cR) (.slice aS i cS) (mRs q n wide lys inputs i) (mLs q n wide lys inputs i) ∧ NumL wr az cz (S i).z ∧ PCh w.heap.size q n wr c (S i).D ∧ Below w4.heap.size w4 wr ∧ w6.heap.size ≤ wr.heap.size)) (fun _ _ _ _ _ _ iv _ => nL - (intOf iv).toNat)
  case atStart => exact ⟨0, Nat.zero_le _, rfl, az, cz, rfl, none, 0, none, 0, HPR6.out, ⟨⟨[], World.ownsRow_nil _ _ _ _, fun j hj => by simp [mRs] at hj⟩, ⟨[], World.ownsRow_nil _ _ _ _, fun j hj => by simp [mLs] at hj⟩⟩, HZ6.out, HP6.out, H46.out, Nat.le_refl _⟩
  case round =>
    obtain ⟨i, hi, rfl, az, cz, rfl, hI⟩ := hrel
    obtain ⟨aR, cR, aS, cS, hrow, hM, hzi, hPi, hbi, hsz⟩ := hI.out
    by_cases hlt : i < nL
    · have hlt2 : (i : Int) < (nL : Int) := by omega
      have hks : IntKind.i64.wrap ((i : Int) + 1) = (i : Int) + 1 := by rw [IntKind.wrap_i64]; omega
      obtain ⟨ly, hlyE⟩ : ∃ ly, ly = nL - 1 - i := ⟨_, rfl⟩
      have HLYE := hid hlyE
      have hly : ly < nL := by omega
      have hsub2 : IntKind.i64.wrap ((nL : Int) - 1 - (i : Int)) = (ly : Int) := by rw [IntKind.wrap_i64]; omega
      have hlv : (ly : Int) < (nv : Int) := by have := HNV.out; omega
      have hl0 : ¬ (ly : Int) < 0 := by omega
      obtain ⟨bv', ov', aV, cV, eV, hbV, hcV, hlV⟩ := HGVR.out ly (by omega)
      cases eV
      have HLV := hid hlV
      have HS10 : Hid (∀ W, Below w4.heap.size w4 W → (W.cell? ⟨G, 0, none⟩ = some (.int .i64 wide) ∧ W.cell? ⟨G, 1, none⟩ = some (.slice aL nL cL)) ∧ W.cell? ⟨bv, ov + ly, none⟩ = some (.slice aV (gvs q lys inputs ly).length cV)) := fun W hW => ⟨HSC.out W (HB41.out W hW), (hW.cell (p := ⟨bv, ov + ly, none⟩) hbV).trans hcV⟩
      have HWR : Hid (Below w4.heap.size w4 wr.drew) := hbi.drew
      have HSHZ : Hid (∀ W ag cg, Below wr.drew.heap.size wr.drew W → LstG w.heap.size w ag cg (lyt lys ly) → Calls Tryz.prog 83 #[.agg #[.pointer (some ⟨b, 0, none⟩), .slice ag (lyt lys ly).length cg, .int .i64 (bnn wide lys ly : Int)], .pointer (some ⟨c, 0, none⟩), .slice aV (gvs q lys inputs ly).length cV, .slice az (S i).z.length cz] W fun e w' => ∃ rv dv Lb Z xs, e = .returned (.tuple #[rv, .slice (some ⟨Lb, 0, none⟩) (mln q n wide lys inputs ly (S i)).length (mln q n wide lys inputs ly (S i)).length, .slice (some ⟨Z, 0, none⟩) (S (i + 1)).z.length (S (i + 1)).z.length]) ∧ ShI W.heap.size w' rv dv (mrs q n wide lys inputs ly (S i)) xs ∧ ArrI w' Lb 3 (mln q n wide lys inputs ly (S i)).length (zat (mln q n wide lys inputs ly (S i))) ∧ NumL w' (some ⟨Z, 0, none⟩) (S (i + 1)).z.length (S (i + 1)).z ∧ PCh w.heap.size q n w' c (S (i + 1)).D ∧ W.grownBy w' (some c)) := fun W ag cg hW hg => by
        have hw4 : Below w4.heap.size w4 W := HWR.out.trans (hW.mono HWR.out.size)
        have hw := HBW.out _ (HB41.out W hw4)
        have h := HSHX.out W i c w4.heap.size ag aV az cg cV cz hlt hw ((hPi.below (Below.refl _ _).drew).below hW) (by rw [← HLYE.out]; exact hg.below hw) (by rw [← HLYE.out]; exact HLV.out.below hw4) HCW.out ((hzi.below (Below.refl _ _).drew).below hW)
        rw [← HLYE.out] at h
        exact h
      have HMD : Hid (MkG w6.heap.size wr.drew (.slice aR i cR) (.slice aS i cS) (mRs q n wide lys inputs i) (mLs q n wide lys inputs i)) := hM.below (Below.refl _ _).drew
      have HRW : Hid (wr.drew.rowIs P 74 2 (dub (.slice aR i cR) (.slice aS i cS))) := hrow
      have hsz6 : w6.heap.size ≤ wr.drew.heap.size := hsz
      have HPI : Hid (PCh w.heap.size q n wr.drew c (S i).D) := hPi.below (Below.refl _ _).drew
      obtain ⟨k0, k1⟩ := HSC.out wr (HB41.out _ hbi)
      clear hI hrow hM hzi hPi hbi hsz hlyE hcV hlV
      go_wp2_with fail
      refine wp_region_held_drew (S := fun W => (W.cell? ⟨G, 0, none⟩ = some (.int .i64 wide) ∧ W.cell? ⟨G, 1, none⟩ = some (.slice aL nL cL)) ∧ W.cell? ⟨bv, ov + ly, none⟩ = some (.slice aV (gvs q lys inputs ly).length cV)) (by kernel_rfl) (HS10.out _ HWR.out) (fun hHeld => ?_)
      refine wpAnyH_takeU (i := 0) (v := .pointer (some ⟨sp, 0, none⟩)) rfl (by kernel_rfl) (by kernel_rfl) (by kernel_rfl) (fun _ _ _ h => h) (by rfl) (fun W hC => by go_simp) hHeld ?_
      simp only [Act.put, List.setIfInBounds_toArray, List.set_cons_zero, List.set_cons_succ]
      refine wpAnyH_takeU (i := 2) (v := .agg #[.int .i64 wide, .slice aL nL cL]) rfl (by kernel_rfl) (by kernel_rfl) (by kernel_rfl) (fun _ _ _ h => h) (by rfl) (fun W hC => by (obtain ⟨⟨x1, x2⟩, x3⟩ := hC); go_simp) hHeld ?_
      simp only [Act.put, List.setIfInBounds_toArray, List.set_cons_zero, List.set_cons_succ]
      refine wpAnyH_takeU (i := 3) (v := .int .i64 (ly : Int)) rfl (by kernel_rfl) (by kernel_rfl) (by kernel_rfl) (fun _ _ _ h => h) (by rfl) (fun W hC => by go_simp) hHeld ?_
      simp only [Act.put, List.setIfInBounds_toArray, List.set_cons_zero, List.set_cons_succ]
      refine wpAnyH_takeU (i := 5) (v := .pointer (some ⟨c, 0, none⟩)) rfl (by kernel_rfl) (by kernel_rfl) (by kernel_rfl) (fun _ _ _ h => h) (by rfl) (fun W hC => by go_simp) hHeld ?_
      simp only [Act.put, List.setIfInBounds_toArray, List.set_cons_zero, List.set_cons_succ]
      refine wpAnyH_takeU (i := 6) (v := .slice (some ⟨bv, ov, none⟩) nv cv) rfl (by kernel_rfl) (by kernel_rfl) (by kernel_rfl) (fun _ _ _ h => h) (by rfl) (fun W hC => by go_simp) hHeld ?_
      simp only [Act.put, List.setIfInBounds_toArray, List.set_cons_zero, List.set_cons_succ]
      refine wpAnyH_takeU (i := 7) (v := .int .i64 (ly : Int)) rfl (by kernel_rfl) (by kernel_rfl) (by kernel_rfl) (fun _ _ _ h => h) (by rfl) (fun W hC => by go_simp) hHeld ?_
      simp only [Act.put, List.setIfInBounds_toArray, List.set_cons_zero, List.set_cons_succ]
      refine wpAnyH_takeU (i := 8) (v := .pointer (some ⟨bv, ov + ly, none⟩)) rfl (by kernel_rfl) (by kernel_rfl) (by kernel_rfl) (fun _ _ _ h => h) (by rfl) (fun W hC => by go_simp) hHeld ?_
      simp only [Act.put, List.setIfInBounds_toArray, List.set_cons_zero, List.set_cons_succ]
      refine wpAnyH_takeU (i := 9) (v := .slice aV (gvs q lys inputs ly).length cV) rfl (by kernel_rfl) (by kernel_rfl) (by kernel_rfl) (fun _ _ _ h => h) (by rfl) (fun W hC => by (obtain ⟨⟨x1, x2⟩, x3⟩ := hC); go_simp) hHeld ?_
      simp only [Act.put, List.setIfInBounds_toArray, List.set_cons_zero, List.set_cons_succ]
      refine wpAnyH_takeU (i := 10) (v := .slice az (S i).z.length cz) rfl (by kernel_rfl) (by kernel_rfl) (by kernel_rfl) (fun _ _ _ h => h) (by rfl) (fun W hC => by go_simp) hHeld ?_
      simp only [Act.put, List.setIfInBounds_toArray, List.set_cons_zero, List.set_cons_succ]
      refine wpAnyH_ready (rs := [1]) (by kernel_rfl) (by simp) ?_
      refine AllReadyH.consU rfl (fun K' hK' => ?_) AllReadyH.nil
      go_simp
      refine (HFI.out _ (HB41.out _ HWR.out)).mono ?_
      rintro e w7 ⟨rfl, hw⟩
      have hw1 := hw.symm
      subst hw1
      clear hw
      refine hK'.out _ _ (HS10.out _ HWR.out) (fun hHeld => ?_)
      clear hK' K'
      refine wpAnyH_ready (rs := [4]) (by kernel_rfl) (by simp) ?_
      refine AllReadyH.consU rfl (fun K' hK' => ?_) AllReadyH.nil
      go_simp
      refine (HLVL.out _ ly (HBW.out _ (HB41.out _ HWR.out)) hly).mono ?_
      rintro e w7 ⟨ag, cg, rfl, hlg, hb7⟩
      have HSHY := hid (HSHZ.out w7 ag cg hb7 hlg)
      have H7 : Hid (Below w4.heap.size w4 w7) := HWR.out.trans (hb7.mono HWR.out.size)
      have HB7 := hid hb7
      clear hlg hb7
      refine hK'.out _ _ (HS10.out _ H7.out) (fun hHeld => ?_)
      clear hK' K'
      refine wpAnyH_ready (rs := [11]) (by kernel_rfl) (by simp) ?_
      refine AllReadyH.consU rfl (fun K' hK' => ?_) AllReadyH.nil
      go_simp
      refine (HSHY.out).mono ?_
      rintro e w9 ⟨rv, dv, Lb, Z, xs, rfl, hS9, hA9, hZ9, hP9, hg9⟩
      have H9 : Hid (Below w4.heap.size w4 w9) := H7.out.trans (gb_to hg9 HCW.out H7.out.size)
      have HS9 := hid hS9
      have HA9 := hid hA9
      have HZ9 := hid hZ9
      have HP9 := hid hP9
      have HG9 := hid hg9
      clear hS9 hA9 hZ9 hP9 hg9
      refine hK'.out _ _ (HS10.out _ H9.out) (fun hHeld => ?_)
      clear hK' K'
      refine wpAnyH_takeU (i := 12) (v := .tuple #[rv, .slice (some ⟨Lb, 0, none⟩) (mln q n wide lys inputs ly (S i)).length (mln q n wide lys inputs ly (S i)).length, .slice (some ⟨Z, 0, none⟩) (S (i + 1)).z.length (S (i + 1)).z.length]) rfl (by kernel_rfl) (by kernel_rfl) (by kernel_rfl) (fun _ _ _ h => h) (by rfl) (fun W hC => by go_simp) hHeld ?_
      simp only [Act.put, List.setIfInBounds_toArray, List.set_cons_zero, List.set_cons_succ]
      refine wpAnyH_takeU (i := 13) (v := rv) rfl (by kernel_rfl) (by kernel_rfl) (by kernel_rfl) (fun _ _ _ h => h) (by rfl) (fun W hC => by go_simp) hHeld ?_
      simp only [Act.put, List.setIfInBounds_toArray, List.set_cons_zero, List.set_cons_succ]
      refine wpAnyH_takeU (i := 14) (v := .slice (some ⟨Lb, 0, none⟩) (mln q n wide lys inputs ly (S i)).length (mln q n wide lys inputs ly (S i)).length) rfl (by kernel_rfl) (by kernel_rfl) (by kernel_rfl) (fun _ _ _ h => h) (by rfl) (fun W hC => by go_simp) hHeld ?_
      simp only [Act.put, List.setIfInBounds_toArray, List.set_cons_zero, List.set_cons_succ]
      refine wpAnyH_takeU (i := 15) (v := .slice (some ⟨Z, 0, none⟩) (S (i + 1)).z.length (S (i + 1)).z.length) rfl (by kernel_rfl) (by kernel_rfl) (by kernel_rfl) (fun _ _ _ h => h) (by rfl) (fun W hC => by go_simp) hHeld ?_
      simp only [Act.put, List.setIfInBounds_toArray, List.set_cons_zero, List.set_cons_succ]
      refine wpAnyH_takeU (i := 16) (v := rv) rfl (by kernel_rfl) (by kernel_rfl) (by kernel_rfl) (fun _ _ _ h => h) (by rfl) (fun W hC => by go_simp) hHeld ?_
      simp only [Act.put, List.setIfInBounds_toArray, List.set_cons_zero, List.set_cons_succ]
      refine wpAnyH_takeU (i := 17) (v := .slice (some ⟨Lb, 0, none⟩) (mln q n wide lys inputs ly (S i)).length (mln q n wide lys inputs ly (S i)).length) rfl (by kernel_rfl) (by kernel_rfl) (by kernel_rfl) (fun _ _ _ h => h) (by rfl) (fun W hC => by go_simp) hHeld ?_
      simp only [Act.put, List.setIfInBounds_toArray, List.set_cons_zero, List.set_cons_succ]
      refine wpAnyH_takeU (i := 18) (v := .slice (some ⟨Z, 0, none⟩) (S (i + 1)).z.length (S (i + 1)).z.length) rfl (by kernel_rfl) (by kernel_rfl) (by kernel_rfl) (fun _ _ _ h => h) (by rfl) (fun W hC => by go_simp) hHeld ?_
      simp only [Act.put, List.setIfInBounds_toArray, List.set_cons_zero, List.set_cons_succ]
      refine wpAnyH_done (by kernel_rfl) ?_ _
      obtain ⟨arv, nrv, crv, rfl⟩ := HS9.out.slc
      have hsD7 : w6.heap.size ≤ w7.heap.size := by have := HB7.out.size; omega
      have HM7 : Hid (MkG w6.heap.size w7 (.slice aR i cR) (.slice aS i cS) (mRs q n wide lys inputs i) (mLs q n wide lys inputs i)) := HMD.out.below HB7.out
      have HC7 : Hid (∃ cs, w7.heap[c]? = some (.cells cs 118 (0, 0))) := by
        obtain ⟨_, _, _, _, _, _, _, _, h⟩ := HPI.out.below HB7.out
        exact ⟨_, h⟩
      have HM9 : Hid (MkG w6.heap.size w9 (.slice aR i cR) (.slice aS i cS) (mRs q n wide lys inputs i) (mLs q n wide lys inputs i)) := by
        obtain ⟨cs, hcs⟩ := HC7.out
        exact HM7.out.grown HG9.out hcl6 (KJ.other HG9.out hcs (by decide) (by decide))
      have HLY9 : Hid (LyI w6.heap.size w9 (.slice aS i cS) (.slice arv nrv crv) (mrs q n wide lys inputs ly (S i))) := HS9.out.lyI hsD7 (fun g hg => by obtain ⟨vl, l1, _⟩ := HM7.out.lns; exact (l1.lt g hg).2)
      have hone := HS9.out.one
      have HR9 : Hid (w9.rowIs P 74 2 (dub (.slice aR i cR) (.slice aS i cS))) := World.rowIs.of_block HRW.out ((gb_blk HG9.out (by have := HB7.out.size; omega) (Ne.symm hcP)).trans (HB7.out.block P (by omega)))
      obtain ⟨ln, hln⟩ : ∃ ln, ln = mln q n wide lys inputs ly (S i) := ⟨_, rfl⟩
      rw [← hln] at HA9 ⊢
      have HLNE := hid hln
      have hs9 : w6.heap.size ≤ w9.heap.size := by have := HG9.out.size; omega
      have hsD : w6.heap.size ≤ w9.drew.heap.size := hs9
      have HRD : Hid (w9.drew.rowIs P 74 2 (dub (.slice aR i cR) (.slice aS i cS))) := HR9.out
      have HSP : Hid (∀ W, Below w6.heap.size w9.drew W → W.cell? ⟨P, 0, none⟩ = some (.slice aR i cR) ∧ W.cell? ⟨P, 1, none⟩ = some (.slice aS i cS)) := fun W hW => by
        have h := World.rowIs.of_block HRD.out (hW.block P hP6)
        exact ⟨h.cell (i := 0) (by decide), h.cell (i := 1) (by decide)⟩
      have HM1 : Hid (∀ W, Below w9.drew.heap.size w9.drew W → MkG w6.heap.size W (.slice aR i cR) (.slice aS i cS) (mRs q n wide lys inputs i) (mLs q n wide lys inputs i)) := fun W hW => (HM9.out.below (Below.refl _ _).drew).below hW
      have HLY : Hid (∀ W, Below w9.drew.heap.size w9.drew W → LyI w6.heap.size W (.slice aS i cS) (.slice arv nrv crv) (mrs q n wide lys inputs ly (S i))) := fun W hW => (HLY9.out.kj (KJ.below (Below.refl w9.heap.size w9).drew)).kj (KJ.below hW)
      have HAR : Hid (∀ W, Below w9.drew.heap.size w9.drew W → ArrI W Lb 3 ln.length (zat ln)) := fun W hW => (KJ.below hW).arr ((KJ.below (Below.refl w9.heap.size w9).drew).arr HA9.out)
      have HZD : Hid (NumL w9.drew (some ⟨Z, 0, none⟩) (S (i + 1)).z.length (S (i + 1)).z) := HZ9.out.below (Below.refl _ _).drew
      have HPD : Hid (PCh w.heap.size q n w9.drew c (S (i + 1)).D) := HP9.out.below (Below.refl _ _).drew
      have HBD : Hid (Below w4.heap.size w4 w9.drew) := H9.out.drew
      have HBD0 : Hid (w4.heap.size ≤ w6.heap.size) := H46.out.size
      have HW6 : Hid (w.heap.size ≤ w6.heap.size) := (HBW.out _ (HB41.out _ H46.out)).size
      have HPW : Hid (w.heap.size ≤ P) := by have := (HBW.out _ (HB41.out _ (Below.refl w4.heap.size w4))).size; have := HPE.out; unfold Hid; omega
      clear HS9 HA9 HZ9 HP9 HMD HRW HM7 HC7 HM9 HLY9 HR9 HSHY HSHZ k0 k1 hln
      go_wp2_with fail
      refine wp_region_S (C := fun W => W.cell? ⟨P, 0, none⟩ = some (.slice aR i cR) ∧ W.cell? ⟨P, 1, none⟩ = some (.slice aS i cS)) (st := [12, 14]) hmx ?_
      generalize w9.drew = WD at *
      refine wpAnyS_pure (i := 0) (v := .pointer (some ⟨P, 0, none⟩)) rfl (by kernel_rfl) (by kernel_rfl) (by kernel_rfl) (by kernel_rfl) (fun _ _ _ h => h) (Or.inl ⟨by rfl, fun W _ => by go_simp⟩) (fun _ => HSP.out _ (Below.refl _ _)) ?_
      refine wpAnyS_take (i := 1) (v := .slice aR i cR) rfl (by kernel_rfl) (by kernel_rfl) (by kernel_rfl) (by kernel_rfl) (by kernel_rfl) (by kernel_rfl) (fun _ _ _ h => h) (Or.inl ⟨by rfl, fun W hC => by (obtain ⟨x1, x2⟩ := hC); go_simp⟩) (HSP.out _ (Below.refl _ _)) ?_
      refine wpAnyS_pure (i := 2) (v := .slice arv nrv crv) rfl (by kernel_rfl) (by kernel_rfl) (by kernel_rfl) (by kernel_rfl) (fun _ _ _ h => h) (Or.inl ⟨by rfl, fun W _ => by go_simp⟩) (fun _ => HSP.out _ (Below.refl _ _)) ?_
      refine wpAnyS_pure (i := 5) (v := .pointer (some ⟨P, 1, none⟩)) rfl (by kernel_rfl) (by kernel_rfl) (by kernel_rfl) (by kernel_rfl) (fun _ _ _ h => h) (Or.inl ⟨by rfl, fun W _ => by go_simp⟩) (fun _ => HSP.out _ (Below.refl _ _)) ?_
      refine wpAnyS_take (i := 6) (v := .slice aS i cS) rfl (by kernel_rfl) (by kernel_rfl) (by kernel_rfl) (by kernel_rfl) (by kernel_rfl) (by kernel_rfl) (fun _ _ _ h => h) (Or.inl ⟨by rfl, fun W hC => by (obtain ⟨x1, x2⟩ := hC); go_simp⟩) (HSP.out _ (Below.refl _ _)) ?_
      refine wpAnyS_pure (i := 7) (v := .slice (some ⟨Lb, 0, none⟩) ln.length ln.length) rfl (by kernel_rfl) (by kernel_rfl) (by kernel_rfl) (by kernel_rfl) (fun _ _ _ h => h) (Or.inl ⟨by rfl, fun W _ => by go_simp⟩) (fun _ => HSP.out _ (Below.refl _ _)) ?_
      refine wpAnyS_pure (i := 10) (v := .slice (some ⟨Z, 0, none⟩) (S (i + 1)).z.length (S (i + 1)).z.length) rfl (by kernel_rfl) (by kernel_rfl) (by kernel_rfl) (by kernel_rfl) (fun _ _ _ h => h) (Or.inl ⟨by rfl, fun W _ => by go_simp⟩) (fun _ => HSP.out _ (Below.refl _ _)) ?_
      refine wpAnyS_two (i := 3) (j := 8) (by kernel_rfl) ?_ ?_
      · skip
        refine wpOp_step rfl (fun K' hK' => ?_)
        rw [if_pos (by rfl)]
        go_simp
        refine hK' _ _ ⟨fun _ => HSP.out _ ((Below.refl _ _).alloc hsD _), ?_⟩
        clear hK' K'
        refine wpAnyS_two (i := 4) (j := 8) (by kernel_rfl) ?_ ?_
        · skip
          obtain ⟨a1, c1, w10, a2, c2, w11, hr1, hr2, hb10, hT⟩ := MkG.after (XR := WD.heap.size) (g := Lb) (l := ln) (r := mrs q n wide lys inputs ly (S i)) (HM1.out _ (Below.refl WD.heap.size WD |>.alloc (Nat.le_refl _) (.cells #[.slice arv nrv crv] 22))) (heap_alloc_new WD _) hone (HLY.out _ ((Below.refl WD.heap.size WD).alloc (Nat.le_refl _) _)) (HAR.out _ ((Below.refl WD.heap.size WD).alloc (Nat.le_refl _) _)) (by rw [mRs_len]; omega) (by rw [mLs_len]; omega) (by have := hsD; simp; omega)
          rw [mRs_len] at hr1 hT
          rw [mLs_len] at hr2 hT
          have hbA : Below w6.heap.size WD (WD.alloc (.cells #[.slice arv nrv crv] 22)) := (Below.refl _ _).alloc hsD _
          have hb10' := hbA.trans hb10
          have hbT : Below w6.heap.size WD w11 := hbA.trans hT.below
          have hT11 : MkT w6.heap.size WD w11 (.slice a1 (i + 1) c1) (.slice a2 (i + 1) c2) (mRs q n wide lys inputs i ++ [mrs q n wide lys inputs ly (S i)]) (mLs q n wide lys inputs i ++ [ln]) := ⟨hT.mkg, fun b cs f hb => (hT.ints b cs f (((KJ.below ((Below.refl WD.heap.size WD).alloc (Nat.le_refl _) (.cells #[.slice arv nrv crv] 22))).2 b cs _ f hb (.inl rfl)).trans hb)).trans ((KJ.below ((Below.refl WD.heap.size WD).alloc (Nat.le_refl _) _)).2 b cs _ f hb (.inl rfl)), hbT⟩
          clear hT hb10
          refine wpOp_step rfl (fun K' hK' => ?_)
          rw [if_pos (by rfl)]
          refine rg_appendU _ _ 72 72 rfl _ _ (.slice a1 (i + 1) c1) rfl rfl hr1 ?_
          refine hK' _ _ ⟨fun _ => HSP.out _ hb10', ?_⟩
          clear hK' K'
          refine wpAnyS_pure (i := 11) (v := .pointer (some ⟨P, 0, none⟩)) rfl (by kernel_rfl) (by kernel_rfl) (by kernel_rfl) (by kernel_rfl) (fun _ _ _ h => h) (Or.inl ⟨by rfl, fun W _ => by go_simp⟩) (fun _ => HSP.out _ hb10') ?_
          refine wpAnyS_one (i := 8) (by kernel_rfl) ?_
          refine wpOp_step rfl (fun K' hK' => ?_)
          rw [if_pos (by rfl)]
          go_simp
          refine hK' _ _ ⟨fun _ => HSP.out _ (hb10'.alloc (by have := hb10'.size; omega) _), ?_⟩
          clear hK' K'
          refine wpAnyS_one (i := 9) (by kernel_rfl) ?_
          refine wpOp_step rfl (fun K' hK' => ?_)
          rw [if_pos (by rfl)]
          refine rg_appendU _ _ 22 22 rfl _ _ (.slice a2 (i + 1) c2) rfl rfl hr2 ?_
          refine hK' _ _ ⟨fun _ => HSP.out _ hbT, ?_⟩
          clear hK' K'
          clear hr1 hr2 hbA hb10'
          have hP11 := HSP.out _ hbT
          have HRX : Hid (w11.rowIs P 74 2 (dub (.slice aR i cR) (.slice aS i cS))) := World.rowIs.of_block HRD.out (hbT.block P hP6)
          have r0 := HRX.out.cell (i := 0) (by decide)
          have r1 := HRX.out.cell (i := 1) (by decide)
          have y0 := HRX.out.frozen 0
          have y1 := HRX.out.frozen 1
          simp only [dub] at r0 r1
          have HT11 := hid hT11
          have HBT := hid hbT
          clear hT11 hbT hP11
          refine wpAnyS_one (i := 12) (by kernel_rfl) ?_
          refine wpOp_step rfl (fun K' hK' => ?_)
          rw [if_pos (by rfl)]
          go_simp
          refine hK' _ _ ⟨fun h => absurd (h 12 (by simp)) (by decide), ?_⟩
          clear hK' K'
          refine wpAnyS_pure (i := 13) (v := .pointer (some ⟨P, 1, none⟩)) rfl (by kernel_rfl) (by kernel_rfl) (by kernel_rfl) (by kernel_rfl) (fun _ _ _ h => h) (Or.inl ⟨by rfl, fun W _ => by go_simp⟩) (fun h => absurd (h 12 (by simp)) (by decide)) ?_
          refine wpAnyS_one (i := 14) (by kernel_rfl) ?_
          refine wpOp_step rfl (fun K' hK' => ?_)
          rw [if_pos (by rfl)]
          go_simp
          refine hK' _ _ ⟨fun h => absurd (h 14 (by simp)) (by decide), ?_⟩
          clear hK' K'
          refine wpAnyS_one (i := 15) (by kernel_rfl) ?_
          refine wpOp_step rfl (fun K' hK' => ?_)
          rw [if_pos (by rfl)]
          go_simp
          refine hK' _ _ ⟨fun h => absurd (h 14 (by simp)) (by decide), ?_⟩
          clear hK' K'
          refine wpAnyS_done (by kernel_rfl) ?_ _
          have HE : Hid (∃ aR cR aS cS, ((w11.setCell ⟨P, 0, none⟩ (.slice a1 (i + 1) c1)).setCell ⟨P, 1, none⟩ (.slice a2 (i + 1) c2)).rowIs P 74 2 (dub (.slice aR (i + 1) cR) (.slice aS (i + 1) cS)) ∧ MkG w6.heap.size ((w11.setCell ⟨P, 0, none⟩ (.slice a1 (i + 1) c1)).setCell ⟨P, 1, none⟩ (.slice a2 (i + 1) c2)) (.slice aR (i + 1) cR) (.slice aS (i + 1) cS) (mRs q n wide lys inputs (i + 1)) (mLs q n wide lys inputs (i + 1)) ∧ NumL ((w11.setCell ⟨P, 0, none⟩ (.slice a1 (i + 1) c1)).setCell ⟨P, 1, none⟩ (.slice a2 (i + 1) c2)) (some ⟨Z, 0, none⟩) (S (i + 1)).z.length (S (i + 1)).z ∧ PCh w.heap.size q n ((w11.setCell ⟨P, 0, none⟩ (.slice a1 (i + 1) c1)).setCell ⟨P, 1, none⟩ (.slice a2 (i + 1) c2)) c (S (i + 1)).D ∧ Below w4.heap.size w4 ((w11.setCell ⟨P, 0, none⟩ (.slice a1 (i + 1) c1)).setCell ⟨P, 1, none⟩ (.slice a2 (i + 1) c2)) ∧ w6.heap.size ≤ ((w11.setCell ⟨P, 0, none⟩ (.slice a1 (i + 1) c1)).setCell ⟨P, 1, none⟩ (.slice a2 (i + 1) c2)).heap.size) := by
            have hbk : ∀ x, x ≠ P → ((w11.setCell ⟨P, 0, none⟩ (.slice a1 (i + 1) c1)).setCell ⟨P, 1, none⟩ (.slice a2 (i + 1) c2)).heap[x]? = w11.heap[x]? := fun x hx => (Below.heap_setCell _ _ _ _ (by show x ≠ P; exact hx)).trans (Below.heap_setCell _ _ _ _ (by show x ≠ P; exact hx))
            have hgP : w11.grownBy ((w11.setCell ⟨P, 0, none⟩ (.slice a1 (i + 1) c1)).setCell ⟨P, 1, none⟩ (.slice a2 (i + 1) c2)) (some P) := gb_setCell (gb_setCell (gb_refl _ _) 0 _) 1 _
            have hPP := dub_arr HRX.out
            have hk := KJ.other hgP hPP (by decide) (by decide)
            refine ⟨a1, c1, a2, c2, dub_set1 (dub_set0 HRX.out _) _, ?_, ?_, ?_, ?_, ?_⟩
            · rw [(HRSS.out i).1, (HRSS.out i).2, ← HLYE.out, ← HLNE.out]; exact HT11.out.mkg.grown hgP hP6 hk
            · exact ((HZD.out.blocks (by have := HBT.out.size; exact this) HT11.out.ints)).blocks hk.1 (fun g cs f hg => hk.2 g cs _ f hg (.inl rfl))
            · exact (HPD.out.blocks (HBT.out.block c hcl6) (fun x hx => HBT.out.block x (by have := HW6.out; omega))).blocks (hbk c hcP) (fun x hx => hbk x (by have := HPW.out; omega))
            · exact ((HBD.out.trans (HBT.out.mono HBD0.out)).setCell (p := ⟨P, 0, none⟩) (by show w4.heap.size ≤ P; have := HPE.out; omega) _).setCell (p := ⟨P, 1, none⟩) (by show w4.heap.size ≤ P; have := HPE.out; omega) _
            · have := HBT.out.size; simp [World.setCell]; omega
          clear HRX r0 r1 y0 y1 HT11 HBT
          go_wp2_with fail
          go_roundw
          case rel => exact ⟨i + 1, by omega, by go_num, some ⟨Z, 0, none⟩, _, rfl, HE⟩
          case measure => simp [intOf]; omega
        · skip
          refine wpOp_step rfl (fun K' hK' => ?_)
          rw [if_pos (by rfl)]
          go_simp
          refine hK' _ _ ⟨fun _ => HSP.out _ (((Below.refl _ _).alloc hsD _).alloc (by simp; omega) _), ?_⟩
          clear hK' K'
          have hbW : Below WD.heap.size WD ((WD.alloc (.cells #[.slice arv nrv crv] 22)).alloc (.cells #[.slice (some ⟨Lb, 0, none⟩) ln.length ln.length] 23)) := ((Below.refl _ _).alloc (Nat.le_refl _) _).alloc (by simp) _
          obtain ⟨a1, c1, w10, a2, c2, w11, hr1, hr2, hb10, hT⟩ := MkG.both (XR := WD.heap.size) (XL := WD.heap.size + 1) (g := Lb) (l := ln) (r := mrs q n wide lys inputs ly (S i)) (HM1.out _ hbW) ((hao _ _ (by simp)).trans (heap_alloc_new WD _)) (alloc_two WD _ _) hone (HLY.out _ hbW) (HAR.out _ hbW) (by rw [mRs_len]; omega) (by rw [mLs_len]; omega) (by have := hbW.size; omega)
          rw [mRs_len] at hr1 hT
          rw [mLs_len] at hr2 hT
          have hbA : Below w6.heap.size WD ((WD.alloc (.cells #[.slice arv nrv crv] 22)).alloc (.cells #[.slice (some ⟨Lb, 0, none⟩) ln.length ln.length] 23)) := hbW.mono hsD
          have hb10' := hbA.trans hb10
          have hbT : Below w6.heap.size WD w11 := hbA.trans hT.below
          have hT11 : MkT w6.heap.size WD w11 (.slice a1 (i + 1) c1) (.slice a2 (i + 1) c2) (mRs q n wide lys inputs i ++ [mrs q n wide lys inputs ly (S i)]) (mLs q n wide lys inputs i ++ [ln]) := ⟨hT.mkg, fun b cs f hb => (hT.ints b cs f (((KJ.below hbW).2 b cs _ f hb (.inl rfl)).trans hb)).trans ((KJ.below hbW).2 b cs _ f hb (.inl rfl)), hbT⟩
          clear hT hb10
          refine wpAnyS_one (i := 4) (by kernel_rfl) ?_
          refine wpOp_step rfl (fun K' hK' => ?_)
          rw [if_pos (by rfl)]
          refine rg_appendU _ _ 72 72 rfl _ _ (.slice a1 (i + 1) c1) rfl rfl hr1 ?_
          refine hK' _ _ ⟨fun _ => HSP.out _ hb10', ?_⟩
          clear hK' K'
          refine wpAnyS_pure (i := 11) (v := .pointer (some ⟨P, 0, none⟩)) rfl (by kernel_rfl) (by kernel_rfl) (by kernel_rfl) (by kernel_rfl) (fun _ _ _ h => h) (Or.inl ⟨by rfl, fun W _ => by go_simp⟩) (fun _ => HSP.out _ hb10') ?_
          refine wpAnyS_one (i := 9) (by kernel_rfl) ?_
          refine wpOp_step rfl (fun K' hK' => ?_)
          rw [if_pos (by rfl)]
          refine rg_appendU _ _ 22 22 rfl _ _ (.slice a2 (i + 1) c2) rfl rfl hr2 ?_
          refine hK' _ _ ⟨fun _ => HSP.out _ hbT, ?_⟩
          clear hK' K'
          clear hr1 hr2 hbA hb10' hbW
          have hP11 := HSP.out _ hbT
          have HRX : Hid (w11.rowIs P 74 2 (dub (.slice aR i cR) (.slice aS i cS))) := World.rowIs.of_block HRD.out (hbT.block P hP6)
          have r0 := HRX.out.cell (i := 0) (by decide)
          have r1 := HRX.out.cell (i := 1) (by decide)
          have y0 := HRX.out.frozen 0
          have y1 := HRX.out.frozen 1
          simp only [dub] at r0 r1
          have HT11 := hid hT11
          have HBT := hid hbT
          clear hT11 hbT hP11
          refine wpAnyS_one (i := 12) (by kernel_rfl) ?_
          refine wpOp_step rfl (fun K' hK' => ?_)
          rw [if_pos (by rfl)]
          go_simp
          refine hK' _ _ ⟨fun h => absurd (h 12 (by simp)) (by decide), ?_⟩
          clear hK' K'
          refine wpAnyS_pure (i := 13) (v := .pointer (some ⟨P, 1, none⟩)) rfl (by kernel_rfl) (by kernel_rfl) (by kernel_rfl) (by kernel_rfl) (fun _ _ _ h => h) (Or.inl ⟨by rfl, fun W _ => by go_simp⟩) (fun h => absurd (h 12 (by simp)) (by decide)) ?_
          refine wpAnyS_one (i := 14) (by kernel_rfl) ?_
          refine wpOp_step rfl (fun K' hK' => ?_)
          rw [if_pos (by rfl)]
          go_simp
          refine hK' _ _ ⟨fun h => absurd (h 14 (by simp)) (by decide), ?_⟩
          clear hK' K'
          refine wpAnyS_one (i := 15) (by kernel_rfl) ?_
          refine wpOp_step rfl (fun K' hK' => ?_)
          rw [if_pos (by rfl)]
          go_simp
          refine hK' _ _ ⟨fun h => absurd (h 14 (by simp)) (by decide), ?_⟩
          clear hK' K'
          refine wpAnyS_done (by kernel_rfl) ?_ _
          have HE : Hid (∃ aR cR aS cS, ((w11.setCell ⟨P, 0, none⟩ (.slice a1 (i + 1) c1)).setCell ⟨P, 1, none⟩ (.slice a2 (i + 1) c2)).rowIs P 74 2 (dub (.slice aR (i + 1) cR) (.slice aS (i + 1) cS)) ∧ MkG w6.heap.size ((w11.setCell ⟨P, 0, none⟩ (.slice a1 (i + 1) c1)).setCell ⟨P, 1, none⟩ (.slice a2 (i + 1) c2)) (.slice aR (i + 1) cR) (.slice aS (i + 1) cS) (mRs q n wide lys inputs (i + 1)) (mLs q n wide lys inputs (i + 1)) ∧ NumL ((w11.setCell ⟨P, 0, none⟩ (.slice a1 (i + 1) c1)).setCell ⟨P, 1, none⟩ (.slice a2 (i + 1) c2)) (some ⟨Z, 0, none⟩) (S (i + 1)).z.length (S (i + 1)).z ∧ PCh w.heap.size q n ((w11.setCell ⟨P, 0, none⟩ (.slice a1 (i + 1) c1)).setCell ⟨P, 1, none⟩ (.slice a2 (i + 1) c2)) c (S (i + 1)).D ∧ Below w4.heap.size w4 ((w11.setCell ⟨P, 0, none⟩ (.slice a1 (i + 1) c1)).setCell ⟨P, 1, none⟩ (.slice a2 (i + 1) c2)) ∧ w6.heap.size ≤ ((w11.setCell ⟨P, 0, none⟩ (.slice a1 (i + 1) c1)).setCell ⟨P, 1, none⟩ (.slice a2 (i + 1) c2)).heap.size) := by
            have hbk : ∀ x, x ≠ P → ((w11.setCell ⟨P, 0, none⟩ (.slice a1 (i + 1) c1)).setCell ⟨P, 1, none⟩ (.slice a2 (i + 1) c2)).heap[x]? = w11.heap[x]? := fun x hx => (Below.heap_setCell _ _ _ _ (by show x ≠ P; exact hx)).trans (Below.heap_setCell _ _ _ _ (by show x ≠ P; exact hx))
            have hgP : w11.grownBy ((w11.setCell ⟨P, 0, none⟩ (.slice a1 (i + 1) c1)).setCell ⟨P, 1, none⟩ (.slice a2 (i + 1) c2)) (some P) := gb_setCell (gb_setCell (gb_refl _ _) 0 _) 1 _
            have hPP := dub_arr HRX.out
            have hk := KJ.other hgP hPP (by decide) (by decide)
            refine ⟨a1, c1, a2, c2, dub_set1 (dub_set0 HRX.out _) _, ?_, ?_, ?_, ?_, ?_⟩
            · rw [(HRSS.out i).1, (HRSS.out i).2, ← HLYE.out, ← HLNE.out]; exact HT11.out.mkg.grown hgP hP6 hk
            · exact ((HZD.out.blocks (by have := HBT.out.size; exact this) HT11.out.ints)).blocks hk.1 (fun g cs f hg => hk.2 g cs _ f hg (.inl rfl))
            · exact (HPD.out.blocks (HBT.out.block c hcl6) (fun x hx => HBT.out.block x (by have := HW6.out; omega))).blocks (hbk c hcP) (fun x hx => hbk x (by have := HPW.out; omega))
            · exact ((HBD.out.trans (HBT.out.mono HBD0.out)).setCell (p := ⟨P, 0, none⟩) (by show w4.heap.size ≤ P; have := HPE.out; omega) _).setCell (p := ⟨P, 1, none⟩) (by show w4.heap.size ≤ P; have := HPE.out; omega) _
            · have := HBT.out.size; simp [World.setCell]; omega
          clear HRX r0 r1 y0 y1 HT11 HBT
          go_wp2_with fail
          go_roundw
          case rel => exact ⟨i + 1, by omega, by go_num, some ⟨Z, 0, none⟩, _, rfl, HE⟩
          case measure => simp [intOf]; omega
      · skip
        refine wpOp_step rfl (fun K' hK' => ?_)
        rw [if_pos (by rfl)]
        go_simp
        refine hK' _ _ ⟨fun _ => HSP.out _ ((Below.refl _ _).alloc hsD _), ?_⟩
        clear hK' K'
        refine wpAnyS_one (i := 3) (by kernel_rfl) ?_
        refine wpOp_step rfl (fun K' hK' => ?_)
        rw [if_pos (by rfl)]
        go_simp
        refine hK' _ _ ⟨fun _ => HSP.out _ (((Below.refl _ _).alloc hsD _).alloc (by simp; omega) _), ?_⟩
        clear hK' K'
        have hbW : Below WD.heap.size WD ((WD.alloc (.cells #[.slice (some ⟨Lb, 0, none⟩) ln.length ln.length] 23)).alloc (.cells #[.slice arv nrv crv] 22)) := ((Below.refl _ _).alloc (Nat.le_refl _) _).alloc (by simp) _
        obtain ⟨a1, c1, w10, a2, c2, w11, hr1, hr2, hb10, hT⟩ := MkG.both (XR := WD.heap.size + 1) (XL := WD.heap.size) (g := Lb) (l := ln) (r := mrs q n wide lys inputs ly (S i)) (HM1.out _ hbW) (alloc_two WD _ _) ((hao _ _ (by simp)).trans (heap_alloc_new WD _)) hone (HLY.out _ hbW) (HAR.out _ hbW) (by rw [mRs_len]; omega) (by rw [mLs_len]; omega) (by have := hbW.size; omega)
        rw [mRs_len] at hr1 hT
        rw [mLs_len] at hr2 hT
        have hbA : Below w6.heap.size WD ((WD.alloc (.cells #[.slice (some ⟨Lb, 0, none⟩) ln.length ln.length] 23)).alloc (.cells #[.slice arv nrv crv] 22)) := hbW.mono hsD
        have hb10' := hbA.trans hb10
        have hbT : Below w6.heap.size WD w11 := hbA.trans hT.below
        have hT11 : MkT w6.heap.size WD w11 (.slice a1 (i + 1) c1) (.slice a2 (i + 1) c2) (mRs q n wide lys inputs i ++ [mrs q n wide lys inputs ly (S i)]) (mLs q n wide lys inputs i ++ [ln]) := ⟨hT.mkg, fun b cs f hb => (hT.ints b cs f (((KJ.below hbW).2 b cs _ f hb (.inl rfl)).trans hb)).trans ((KJ.below hbW).2 b cs _ f hb (.inl rfl)), hbT⟩
        clear hT hb10
        refine wpAnyS_one (i := 4) (by kernel_rfl) ?_
        refine wpOp_step rfl (fun K' hK' => ?_)
        rw [if_pos (by rfl)]
        refine rg_appendU _ _ 72 72 rfl _ _ (.slice a1 (i + 1) c1) rfl rfl hr1 ?_
        refine hK' _ _ ⟨fun _ => HSP.out _ hb10', ?_⟩
        clear hK' K'
        refine wpAnyS_pure (i := 11) (v := .pointer (some ⟨P, 0, none⟩)) rfl (by kernel_rfl) (by kernel_rfl) (by kernel_rfl) (by kernel_rfl) (fun _ _ _ h => h) (Or.inl ⟨by rfl, fun W _ => by go_simp⟩) (fun _ => HSP.out _ hb10') ?_
        refine wpAnyS_one (i := 9) (by kernel_rfl) ?_
        refine wpOp_step rfl (fun K' hK' => ?_)
        rw [if_pos (by rfl)]
        refine rg_appendU _ _ 22 22 rfl _ _ (.slice a2 (i + 1) c2) rfl rfl hr2 ?_
        refine hK' _ _ ⟨fun _ => HSP.out _ hbT, ?_⟩
        clear hK' K'
        clear hr1 hr2 hbA hb10' hbW
        have hP11 := HSP.out _ hbT
        have HRX : Hid (w11.rowIs P 74 2 (dub (.slice aR i cR) (.slice aS i cS))) := World.rowIs.of_block HRD.out (hbT.block P hP6)
        have r0 := HRX.out.cell (i := 0) (by decide)
        have r1 := HRX.out.cell (i := 1) (by decide)
        have y0 := HRX.out.frozen 0
        have y1 := HRX.out.frozen 1
        simp only [dub] at r0 r1
        have HT11 := hid hT11
        have HBT := hid hbT
        clear hT11 hbT hP11
        refine wpAnyS_one (i := 12) (by kernel_rfl) ?_
        refine wpOp_step rfl (fun K' hK' => ?_)
        rw [if_pos (by rfl)]
        go_simp
        refine hK' _ _ ⟨fun h => absurd (h 12 (by simp)) (by decide), ?_⟩
        clear hK' K'
        refine wpAnyS_pure (i := 13) (v := .pointer (some ⟨P, 1, none⟩)) rfl (by kernel_rfl) (by kernel_rfl) (by kernel_rfl) (by kernel_rfl) (fun _ _ _ h => h) (Or.inl ⟨by rfl, fun W _ => by go_simp⟩) (fun h => absurd (h 12 (by simp)) (by decide)) ?_
        refine wpAnyS_one (i := 14) (by kernel_rfl) ?_
        refine wpOp_step rfl (fun K' hK' => ?_)
        rw [if_pos (by rfl)]
        go_simp
        refine hK' _ _ ⟨fun h => absurd (h 14 (by simp)) (by decide), ?_⟩
        clear hK' K'
        refine wpAnyS_one (i := 15) (by kernel_rfl) ?_
        refine wpOp_step rfl (fun K' hK' => ?_)
        rw [if_pos (by rfl)]
        go_simp
        refine hK' _ _ ⟨fun h => absurd (h 14 (by simp)) (by decide), ?_⟩
        clear hK' K'
        refine wpAnyS_done (by kernel_rfl) ?_ _
        have HE : Hid (∃ aR cR aS cS, ((w11.setCell ⟨P, 0, none⟩ (.slice a1 (i + 1) c1)).setCell ⟨P, 1, none⟩ (.slice a2 (i + 1) c2)).rowIs P 74 2 (dub (.slice aR (i + 1) cR) (.slice aS (i + 1) cS)) ∧ MkG w6.heap.size ((w11.setCell ⟨P, 0, none⟩ (.slice a1 (i + 1) c1)).setCell ⟨P, 1, none⟩ (.slice a2 (i + 1) c2)) (.slice aR (i + 1) cR) (.slice aS (i + 1) cS) (mRs q n wide lys inputs (i + 1)) (mLs q n wide lys inputs (i + 1)) ∧ NumL ((w11.setCell ⟨P, 0, none⟩ (.slice a1 (i + 1) c1)).setCell ⟨P, 1, none⟩ (.slice a2 (i + 1) c2)) (some ⟨Z, 0, none⟩) (S (i + 1)).z.length (S (i + 1)).z ∧ PCh w.heap.size q n ((w11.setCell ⟨P, 0, none⟩ (.slice a1 (i + 1) c1)).setCell ⟨P, 1, none⟩ (.slice a2 (i + 1) c2)) c (S (i + 1)).D ∧ Below w4.heap.size w4 ((w11.setCell ⟨P, 0, none⟩ (.slice a1 (i + 1) c1)).setCell ⟨P, 1, none⟩ (.slice a2 (i + 1) c2)) ∧ w6.heap.size ≤ ((w11.setCell ⟨P, 0, none⟩ (.slice a1 (i + 1) c1)).setCell ⟨P, 1, none⟩ (.slice a2 (i + 1) c2)).heap.size) := by
          have hbk : ∀ x, x ≠ P → ((w11.setCell ⟨P, 0, none⟩ (.slice a1 (i + 1) c1)).setCell ⟨P, 1, none⟩ (.slice a2 (i + 1) c2)).heap[x]? = w11.heap[x]? := fun x hx => (Below.heap_setCell _ _ _ _ (by show x ≠ P; exact hx)).trans (Below.heap_setCell _ _ _ _ (by show x ≠ P; exact hx))
          have hgP : w11.grownBy ((w11.setCell ⟨P, 0, none⟩ (.slice a1 (i + 1) c1)).setCell ⟨P, 1, none⟩ (.slice a2 (i + 1) c2)) (some P) := gb_setCell (gb_setCell (gb_refl _ _) 0 _) 1 _
          have hPP := dub_arr HRX.out
          have hk := KJ.other hgP hPP (by decide) (by decide)
          refine ⟨a1, c1, a2, c2, dub_set1 (dub_set0 HRX.out _) _, ?_, ?_, ?_, ?_, ?_⟩
          · rw [(HRSS.out i).1, (HRSS.out i).2, ← HLYE.out, ← HLNE.out]; exact HT11.out.mkg.grown hgP hP6 hk
          · exact ((HZD.out.blocks (by have := HBT.out.size; exact this) HT11.out.ints)).blocks hk.1 (fun g cs f hg => hk.2 g cs _ f hg (.inl rfl))
          · exact (HPD.out.blocks (HBT.out.block c hcl6) (fun x hx => HBT.out.block x (by have := HW6.out; omega))).blocks (hbk c hcP) (fun x hx => hbk x (by have := HPW.out; omega))
          · exact ((HBD.out.trans (HBT.out.mono HBD0.out)).setCell (p := ⟨P, 0, none⟩) (by show w4.heap.size ≤ P; have := HPE.out; omega) _).setCell (p := ⟨P, 1, none⟩) (by show w4.heap.size ≤ P; have := HPE.out; omega) _
          · have := HBT.out.size; simp [World.setCell]; omega
        clear HRX r0 r1 y0 y1 HT11 HBT
        go_wp2_with fail
        go_roundw
        case rel => exact ⟨i + 1, by omega, by go_num, some ⟨Z, 0, none⟩, _, rfl, HE⟩
        case measure => simp [intOf]; omega
    · have hin : i = nL := by omega
      subst hin
      have hlt2 : ¬ (i : Int) < (i : Int) := by omega
      have HPI : Hid (wr.rowIs P 74 2 (dub (.slice aR i cR) (.slice aS i cS))) := hrow
      have HMI : Hid (MkG w6.heap.size wr (.slice aR i cR) (.slice aS i cS) (mRs q n wide lys inputs i) (mLs q n wide lys inputs i)) := hM
      have HBE : Hid (Below w.heap.size w wr ∧ Below W1.heap.size W1 wr) := ⟨HBW.out _ (HB41.out _ hbi), HB41.out _ hbi⟩
      have HRR := hid (HRS.out wr HBE.out.2)
      have HLE : Hid (w.heap.size ≤ w6.heap.size) := (HBW.out _ (HB41.out _ H46.out)).size
      have r0 := HRR.out.cell (i := 0) (by decide)
      have r1 := HRR.out.cell (i := 1) (by decide)
      have y0 := HRR.out.frozen 0
      have y1 := HRR.out.frozen 1
      have k0 := HPI.out.cell (i := 0) (by decide)
      have k1 := HPI.out.cell (i := 1) (by decide)
      simp only [dub] at r0 r1 k0 k1
      clear hI hrow hM hzi hPi hbi hsz
      go_wp2_with fail
      have HRF := hid (dub_arr (dub_set1 (dub_set0 HRR.out (.slice aR i cR)) (.slice aS i cS)))
      refine bodyPost_ret (results_ctb rfl _ _ R 74 _ (0, 0) _ rfl HRF.out Tryz.underlying74 rfl (by kernel_rfl)) rfl ?_
      have hgR : wr.grownBy ((wr.setCell ⟨R, 0, none⟩ (.slice aR i cR)).setCell ⟨R, 1, none⟩ (.slice aS i cS)) (some R) := gb_setCell (gb_setCell (gb_refl _ _) 0 _) 1 _
      have hRl : R < w6.heap.size := by have := HRE.out; have := HZ1.out; have := (HB41.out _ H46.out).size; omega
      have hRw : w.heap.size ≤ R := by have := HRE.out; omega
      exact ⟨aR, cR, aS, cS, rfl, (HMI.out.grown hgR hRl (KJ.other hgR (dub_arr HRR.out) (by decide) (by decide))).mono HLE.out, (HBE.out.1.setCell (p := ⟨R, 0, none⟩) hRw _).setCell (p := ⟨R, 1, none⟩) hRw _⟩

end Go.Proofs.YtpgnabmkfkcogaaGreatDoor
