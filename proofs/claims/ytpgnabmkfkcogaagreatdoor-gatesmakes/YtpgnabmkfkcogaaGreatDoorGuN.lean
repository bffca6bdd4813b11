/- What gates.Make makes can be read; Make where something is wrong. -/
import Derived.Test.YtpgnabmkfkcogaaGreatDoorGuM
import Derived.Test.YtpgnabmkfkcogaaGreatDoorGmAT
namespace Go.Proofs.YtpgnabmkfkcogaaGreatDoor
open Go.RowKit

theorem MkG.lnR {base : Nat} {w : World} {rv : Value} {aS : Option Addr} {n cS : Nat} {Rs : List (List (List Int))} {Ls : List (List Int)} (h : MkG base w rv (.slice aS n cS) Rs Ls) : LstR w.heap.size w aS cS Ls := by
  obtain ⟨vals, h1, h2⟩ := h.lns
  rcases h1.2 with ⟨e, h0⟩ | ⟨g, cap, cur, e, hb, hg, hn, hm, hs, ht⟩
  · injection e with e1 e2 e3
    subst e1 e2 e3
    exact ⟨fun k hk => by omega, by omega, fun _ => rfl⟩
  · injection e with e1 e2 e3
    subst e1 e2 e3
    refine ⟨fun k hk => ?_, hn, fun e => by cases e⟩
    obtain ⟨x, h3, h4⟩ := h2 k hk
    refine ⟨g, 0, _, _, rfl, (Array.getElem?_eq_some_iff.1 hg).1, ?_, (arr_num h4 rfl).1⟩
    rw [Nat.zero_add, h1.cellAt k (by omega), h3]
theorem LyI.lst {base : Nat} {w : World} {lv u : Value} {rs : List (List Int)} (h : LyI base w lv u rs) (h3 : ∀ j, j < rs.length → (rat rs j).length = 3) : ∃ a c, u = .slice a rs.length c ∧ LstR w.heap.size w a c rs := by
  obtain ⟨vals, h1, h2⟩ := h.own
  rcases h1.2 with ⟨rfl, h0⟩ | ⟨g, cap, cur, rfl, hb, hg, hn, hm, hs, ht⟩
  · exact ⟨none, 0, by rw [h0], fun k hk => by omega, by omega, fun _ => rfl⟩
  · refine ⟨some ⟨g, 0, none⟩, cap, rfl, fun k hk => ?_, hn, fun e => by cases e⟩
    obtain ⟨x, e3, e4⟩ := h2 k hk
    refine ⟨g, 0, some ⟨x, 0, none⟩, 3, rfl, (Array.getElem?_eq_some_iff.1 hg).1, ?_, (arr_num e4 (h3 k hk)).1⟩
    rw [Nat.zero_add, h1.cellAt k (by omega), e3, h3 k hk]
theorem MkG.rdR {base : Nat} {w : World} {lv : Value} {aR : Option Addr} {n cR : Nat} {Rs : List (List (List Int))} {Ls : List (List Int)} (h : MkG base w (.slice aR n cR) lv Rs Ls) (h3 : ∀ k, k < Rs.length → ∀ j, j < (rrt Rs k).length → (rat (rrt Rs k) j).length = 3) : LstRR w.heap.size w aR cR Rs := by
  obtain ⟨vals, h1, h2⟩ := h.rds
  rcases h1.2 with ⟨e, h0⟩ | ⟨g, cap, cur, e, hb, hg, hn, hm, hs, ht⟩
  · injection e with e1 e2 e3
    subst e1 e2 e3
    exact ⟨fun k hk => by omega, by omega, fun _ => rfl⟩
  · injection e with e1 e2 e3
    subst e1 e2 e3
    refine ⟨fun k hk => ?_, hn, fun e => by cases e⟩
    obtain ⟨u, e3, _, e4⟩ := h2 k hk
    obtain ⟨a, c, rfl, hl⟩ := e4.lst (h3 k hk)
    refine ⟨g, 0, a, c, rfl, (Array.getElem?_eq_some_iff.1 hg).1, ?_, hl⟩
    rw [Nat.zero_add, h1.cellAt k (by omega), e3]
theorem tld_len (q : Nat) (gs : List GatZ) (t : List Int) (m : Nat) (z xs : List Int) : (tld q gs t m z xs).length = 3 := ls_len _ _
theorem mrs_len (q n : Nat) (wide : Int) (lys : List (List GatZ)) (inputs : List Int) (ly : Nat) (s : GSt) : (mrs q n wide lys inputs ly s).length = 2 * bnn wide lys ly := mkr_len _ _ _ _ _ _ _ _
theorem mrs_row {q n : Nat} {wide : Int} {lys : List (List GatZ)} {inputs : List Int} {ly : Nat} {s : GSt} (h3 : 3 ≤ q) (h4 : q ≤ 2147483647) {j : Nat} (hj : j < 2 * bnn wide lys ly) : (rat (mrs q n wide lys inputs ly s) j).length = 3 ∧ Fits (rat (mrs q n wide lys inputs ly s) j) := by
  unfold mrs
  rw [mkr_rat hj]
  exact ⟨tld_len _ _ _ _ _ _, tld_fits h3 h4 _ _ _ _ _⟩
theorem mRs_three {q n : Nat} {wide : Int} {lys : List (List GatZ)} {inputs : List Int} (h3 : 3 ≤ q) (h4 : q ≤ 2147483647) {N k : Nat} (hk : k < N) : ∀ j, j < (rrt (mRs q n wide lys inputs N) k).length → (rat (rrt (mRs q n wide lys inputs N) k) j).length = 3 ∧ Fits (rat (rrt (mRs q n wide lys inputs N) k) j) := fun j hj => by
  rw [mRs_at hk] at hj ⊢
  rw [mrs_len] at hj
  exact mrs_row h3 h4 hj
theorem made_layB {q n : Nat} {wide : Int} {lys : List (List GatZ)} {inputs : List Int} (h3 : 3 ≤ q) (h4 : q ≤ 2147483647) (hS : SzC wide lys) : LayB (mRs q n wide lys inputs lys.length) (mLs q n wide lys inputs lys.length) := by
  have h8 := hS.2.1.2
  have hb : ∀ k, k < lys.length → bnn wide lys (lys.length - 1 - k) ≤ 6 := fun k hk => (hS.bn (show lys.length - 1 - k ≤ lys.length by omega)).2
  refine ⟨by rw [mRs_len]; omega, fun k hk => ?_, by rw [mLs_len]; omega, fun k hk => ?_⟩
  · rw [mRs_len] at hk
    refine ⟨?_, fun j hj => ?_⟩
    · rw [mRs_at hk, mrs_len]
      have := hb k hk
      omega
    · obtain ⟨e1, e2⟩ := mRs_three (n := n) h3 h4 hk j hj
      exact ⟨by omega, e2⟩
  · rw [mLs_len] at hk
    rw [mLs_at hk]
    unfold mln
    refine ⟨?_, lnz_fits h3 h4 _ _ _ _⟩
    rw [lnz_len]
    have := hb k hk
    omega

set_option maxRecDepth 100000 in
set_option maxHeartbeats 4000000 in
theorem gmake_no (q n d sp b cL ci : Nat) (wide : Int) (aL ai : Option Addr) (lys : List (List GatZ)) (inputs : List Int) (w : World) (hsp : SpgAt w sp b q n d) (hIT : InT q b w) (hB : CirB lys) (hl : LstGG w.heap.size w aL cL lys) (li : Lst w.heap.size w ai ci inputs) (fi : Fits inputs) (hV : vle wide lys inputs.length ≠ 0) :
    Calls Tryz.prog 29 #[.pointer (some ⟨sp, 0, none⟩), .agg #[.int .i64 wide, .slice aL lys.length cL], .slice ai inputs.length ci] w fun e w' => e = .returned (.tuple #[.agg #[.slice none 0 0, .slice none 0 0], errz (vle wide lys inputs.length)]) ∧ Below w.heap.size w w' := by
  obtain ⟨nL, hnL⟩ : ∃ nL, nL = lys.length := ⟨_, rfl⟩
  obtain ⟨ni, hni⟩ : ∃ ni, ni = inputs.length := ⟨_, rfl⟩
  obtain ⟨W1, hW1⟩ : ∃ W1, W1 = (w.alloc (.cells #[.int .i64 wide, .slice aL nL cL] 69)).alloc (.cells #[.slice none 0 0, .slice none 0 0] 74) := ⟨_, rfl⟩
  obtain ⟨G, hG⟩ : ∃ G, G = w.heap.size := ⟨_, rfl⟩
  obtain ⟨R, hR⟩ : ∃ R, R = w.heap.size + 1 := ⟨_, rfl⟩
  have hb1 : Below w.heap.size w W1 := by rw [hW1]; exact ((Below.refl _ _).alloc (Nat.le_refl _) _).alloc (by simp) _
  have hz1 : W1.heap.size = w.heap.size + 2 := by rw [hW1]; simp
  have hs1 : W1.heap[G]? = some (.cells #[.int .i64 wide, .slice aL nL cL] 69 (0, 0)) := by
    rw [hW1, hG]
    exact (hao _ _ (by simp)).trans (heap_alloc_new w _)
  have hs2 : W1.rowIs R 74 2 (dub (.slice none 0 0) (.slice none 0 0)) := by
    rw [hW1, hR]
    have := dub_new (w.alloc (.cells #[.int .i64 wide, .slice aL nL cL] 69)) 74 (.slice none 0 0) (.slice none 0 0)
    simpa using this
  have HSC : Hid (∀ W, Below W1.heap.size W1 W → W.cell? ⟨G, 0, none⟩ = some (.int .i64 wide) ∧ W.cell? ⟨G, 1, none⟩ = some (.slice aL nL cL)) := fun W hW => by
    have e1 := (hW.block G (by omega)).trans hs1
    exact ⟨by simp [World.cell?, e1], by simp [World.cell?, e1]⟩
  have HRS : Hid (∀ W, Below W1.heap.size W1 W → W.rowIs R 74 2 (dub (.slice none 0 0) (.slice none 0 0))) := fun W hW => World.rowIs.of_block hs2 (hW.block R (by omega))
  have HBW : Hid (∀ W, Below W1.heap.size W1 W → Below w.heap.size w W) := fun W hW => hb1.trans (hW.mono (by omega))
  have HFI : Hid (∀ W, Below W1.heap.size W1 W → Calls Tryz.prog 9 #[.pointer (some ⟨sp, 0, none⟩)] W fun e w' => e = .returned (.pointer (some ⟨b, 0, none⟩)) ∧ w' = W) := fun W hW => sfield_any q n d b sp W (hsp.below (HBW.out W hW) hsp.lt hsp.ltb)
  obtain ⟨EV, hEV⟩ : ∃ EV, EV = errz (vle wide lys inputs.length) := ⟨_, rfl⟩
  have HVA : Hid (∀ W, Below W1.heap.size W1 W → Calls Tryz.prog 34 #[.pointer (some ⟨b, 0, none⟩), .agg #[.int .i64 wide, .slice aL nL cL], .slice ai ni ci] W fun e w' => ∃ v, e = .returned (.tuple #[v, EV]) ∧ Below W.heap.size W w') := fun W hW => by
    have hw := HBW.out W hW
    have h := gatesValues_any q b cL ci wide aL ai lys inputs W (hIT.below hw) hB (hl.step hw) ((li.below hw).mono hw.size) fi
    rw [← hnL, ← hni] at h
    refine h.mono ?_
    rintro e w' ⟨v, rfl, _, h2⟩
    exact ⟨v, by rw [hEV, hni], h2⟩
  have HW1 := hid hW1
  have HGE := hid hG
  have HRE := hid hR
  have HZ1 : Hid (w.heap.size ≤ R) := by unfold Hid; omega
  have HWD0 : Hid (Below W1.heap.size W1 W1.drew) := (Below.refl _ _).drew
  rw [← hEV, ← hnL, ← hni]
  rw [errz_some hV] at hEV
  have hmx : Tryz.prog.follows .mixedOrders = true := by kernel_rfl
  clear hW1 hG hR hs1 hs2 hz1 hb1 hnL hni hIT hB hl li fi hV hsp
  go_enter Tryz.func29, Tryz.ntmps29
  go_wp2_with fail
  rw [← HRE.out, ← HGE.out, ← HW1.out]
  have HWD := HWD0
  refine wp_region_held_drew (S := fun W => W.cell? ⟨G, 0, none⟩ = some (.int .i64 wide) ∧ W.cell? ⟨G, 1, none⟩ = some (.slice aL nL cL)) (by kernel_rfl) (HSC.out _ HWD.out) (fun hHeld => ?_)
  refine wpAnyH_takeU (i := 0) (v := .pointer (some ⟨sp, 0, none⟩)) rfl (by kernel_rfl) (by kernel_rfl) (by kernel_rfl) (fun _ _ _ h => h) (by rfl) (fun W hC => by go_simp) hHeld ?_
  simp only [Act.put, List.setIfInBounds_toArray, List.set_cons_zero, List.set_cons_succ]
  refine wpAnyH_takeU (i := 2) (v := .agg #[.int .i64 wide, .slice aL nL cL]) rfl (by kernel_rfl) (by kernel_rfl) (by kernel_rfl) (fun _ _ _ h => h) (by rfl) (fun W hC => by (obtain ⟨x1, x2⟩ := hC); go_simp) hHeld ?_
  simp only [Act.put, List.setIfInBounds_toArray, List.set_cons_zero, List.set_cons_succ]
  refine wpAnyH_takeU (i := 3) (v := .slice ai ni ci) rfl (by kernel_rfl) (by kernel_rfl) (by kernel_rfl) (fun _ _ _ h => h) (by rfl) (fun W hC => by go_simp) hHeld ?_
  simp only [Act.put, List.setIfInBounds_toArray, List.set_cons_zero, List.set_cons_succ]
  refine wpAnyH_ready (rs := [1]) (by kernel_rfl) (by simp) ?_
  refine AllReadyH.consU rfl (fun K' hK' => ?_) AllReadyH.nil
  go_simp
  refine (HFI.out _ HWD.out).mono ?_
  rintro e w3 ⟨rfl, hw⟩
  have hw1 := hw.symm
  subst hw1
  clear hw
  refine hK'.out _ _ (HSC.out _ HWD.out) (fun hHeld => ?_)
  clear hK' K'
  refine wpAnyH_ready (rs := [4]) (by kernel_rfl) (by simp) ?_
  refine AllReadyH.consU rfl (fun K' hK' => ?_) AllReadyH.nil
  go_simp
  refine (HVA.out _ HWD.out).mono ?_
  rintro e w4 ⟨vv, rfl, hb4⟩
  have H4 : Hid (Below W1.heap.size W1 w4) := HWD.out.trans (hb4.mono HWD.out.size)
  clear hb4
  refine hK'.out _ _ (HSC.out _ H4.out) (fun hHeld => ?_)
  clear hK' K'
  refine wpAnyH_takeU (i := 5) (v := .tuple #[vv, EV]) rfl (by kernel_rfl) (by kernel_rfl) (by kernel_rfl) (fun _ _ _ h => h) (by rfl) (fun W hC => by go_simp) hHeld ?_
  simp only [Act.put, List.setIfInBounds_toArray, List.set_cons_zero, List.set_cons_succ]
  refine wpAnyH_takeU (i := 6) (v := vv) rfl (by kernel_rfl) (by kernel_rfl) (by kernel_rfl) (fun _ _ _ h => h) (by rfl) (fun W hC => by go_simp) hHeld ?_
  simp only [Act.put, List.setIfInBounds_toArray, List.set_cons_zero, List.set_cons_succ]
  refine wpAnyH_takeU (i := 7) (v := EV) rfl (by kernel_rfl) (by kernel_rfl) (by kernel_rfl) (fun _ _ _ h => h) (by rfl) (fun W hC => by go_simp) hHeld ?_
  simp only [Act.put, List.setIfInBounds_toArray, List.set_cons_zero, List.set_cons_succ]
  refine wpAnyH_takeU (i := 8) (v := vv) rfl (by kernel_rfl) (by kernel_rfl) (by kernel_rfl) (fun _ _ _ h => h) (by rfl) (fun W hC => by go_simp) hHeld ?_
  simp only [Act.put, List.setIfInBounds_toArray, List.set_cons_zero, List.set_cons_succ]
  refine wpAnyH_takeU (i := 9) (v := EV) rfl (by kernel_rfl) (by kernel_rfl) (by kernel_rfl) (fun _ _ _ h => h) (by rfl) (fun W hC => by go_simp) hHeld ?_
  simp only [Act.put, List.setIfInBounds_toArray, List.set_cons_zero, List.set_cons_succ]
  refine wpAnyH_done (by kernel_rfl) ?_ _
  subst hEV
  have HR4 := hid (HRS.out _ H4.out)
  have HE := hid (HBW.out _ H4.out)
  have r0 := HR4.out.cell (i := 0) (by decide)
  have r1 := HR4.out.cell (i := 1) (by decide)
  have y0 := HR4.out.frozen 0
  have y1 := HR4.out.frozen 1
  simp only [dub] at r0 r1
  clear HSC HVA HFI HBW H4 HWD HWD0
  go_wp2_with fail
  have HRF := hid (dub_arr (dub_set1 (dub_set0 HR4.out (.slice none 0 0)) (.slice none 0 0)))
  refine bodyPost_ret (results_ctb rfl _ _ R 74 _ (0, 0) _ rfl HRF.out Tryz.underlying74 rfl (by kernel_rfl)) rfl ?_
  exact ⟨rfl, (HE.out.setCell (p := ⟨R, 0, none⟩) HZ1.out _).setCell (p := ⟨R, 1, none⟩) HZ1.out _⟩

end Go.Proofs.YtpgnabmkfkcogaaGreatDoor
