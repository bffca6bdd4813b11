/- The reference of package gates: Check. -/
import Derived.Test.YtaapbopcfpihbabGreatDoorGuF
import Derived.Test.YtaapbopcfpihbabGreatDoorGkAY
import Derived.Test.YtaapbopcfpihbabGreatDoorGkAR
namespace Go.Proofs.YtaapbopcfpihbabGreatDoor
open Go.RowKit

set_option maxRecDepth 100000 in
set_option maxHeartbeats 2000000 in
theorem ron_num (p c1 c2 : Nat) (a1 a2 : Option Addr) (x y : List Int) (t : Int) (w : World) (h3 : 3 ≤ p) (hm : p ≤ 2147483647) (hn : x.length ≤ 1000000) (hxy : y.length = x.length) (fx : Fits x) (fy : Fits y) (ht : i64B t) (rx : RowB w.heap.size w a1 x) (ry : RowB w.heap.size w a2 y) :
    Calls Tryz.prog 31 #[.int .i64 (p : Int), .slice a1 x.length c1, .slice a2 y.length c2, .int .i64 t] w fun e w' => ∃ a' c', e = .returned (.slice a' x.length c') ∧ NumL w' a' c' (onl p x y t) ∧ Below w.heap.size w w' := by
  rw [hxy]
  obtain ⟨f, hf⟩ : ∃ f : Nat → Int, f = fun i => (zat x i + t * (zat y i - zat x i)) % (p : Int) := ⟨_, rfl⟩
  rw [show onl p x y t = ls f x.length from by rw [hf]; rfl]
  have HFE : Hid (∀ k, (zat x k + t * ((zat y k - zat x k) % (p : Int)) % (p : Int)) % (p : Int) = f k) := fun k => by rw [hf]; exact on_eq p _ _ t
  have HX := hid fx
  have HY := hid fy
  have HRX := hid rx
  have HRY : Hid (∀ k, k < x.length → ∃ b o, a2 = some ⟨b, o, none⟩ ∧ b < w.heap.size ∧ w.cell? ⟨b, o + k, none⟩ = some (.int .i64 (zat y k))) := fun k hk => ry k (by rw [hxy]; exact hk)
  obtain ⟨n, hnn⟩ : ∃ n, n = x.length := ⟨_, rfl⟩
  have HN := hid hnn
  simp only [← hnn] at HRY hn ⊢
  clear fx fy rx ry hxy hf hnn
  go_enter Tryz.func31, Tryz.ntmps31
  go_wp2_with fail
  go_loopw [9, 10, 11] (fun v iv _ wr => ∃ k : Nat, k ≤ n ∧ iv = .int .i64 (k : Int) ∧ Hid (wr.ownsRow w.heap.size 3 1 v (ls f k).length ((ls f k).map (Value.int .i64)) ∧ Below w.heap.size w wr)) (fun _ iv _ _ => n - (intOf iv).toNat)
  case atStart => exact ⟨0, Nat.zero_le _, rfl, World.ownsRow_nil _ _ _ _, Below.refl _ _⟩
  case round =>
    obtain ⟨k, hk, rfl, hI⟩ := hrel
    by_cases hlt : k < n
    · have hlt2 : (k : Int) < (n : Int) := by omega
      have hks : IntKind.i64.wrap ((k : Int) + 1) = (k : Int) + 1 := by rw [IntKind.wrap_i64]; omega
      obtain ⟨b1, o1, rfl, hb1, hx1⟩ := HRX.out k (by rw [← HN.out]; exact hlt)
      obtain ⟨b2, o2, rfl, hb2, hy1⟩ := HRY.out k hlt
      have HSB : Hid (∀ W, Below wr.heap.size wr W → W.cell? ⟨b2, o2 + k, none⟩ = some (.int .i64 (zat y k)) ∧ W.cell? ⟨b1, o1 + k, none⟩ = some (.int .i64 (zat x k))) := fun W hW => by
        have hw := hI.out.2.trans (hW.mono hI.out.2.size)
        exact ⟨(hw.cell (p := ⟨b2, o2 + k, none⟩) hb2).trans hy1, (hw.cell (p := ⟨b1, o1 + k, none⟩) hb1).trans hx1⟩
      have HBD : Hid (Below wr.heap.size wr wr.drew) := (Below.refl _ _).drew
      obtain ⟨f1, f2⟩ := HX.out.all k
      obtain ⟨f3, f4⟩ := HY.out.all k
      have HE := hid (HFE.out k)
      have HLS := hid (ls_succ f k)
      have HLL : Hid ((ls f k).length ≤ 17592186044000) := by unfold Hid; rw [ls_len]; omega
      have HO := hid hI.out.1
      have HBW := hid hI.out.2
      generalize zat x k = X at *
      generalize zat y k = Y at *
      generalize ls f k = lk at *
      have HSU := hid (fun W => rsub_any p Y X W h3 hm f3 f4 f1 f2)
      obtain ⟨e1, e2⟩ := emod_bounds (Y - X) p h3
      have HMU := hid (fun W => rmul_any p t ((Y - X) % (p : Int)) W h3 hm ht.1 ht.2 (by omega) (by omega))
      generalize (Y - X) % (p : Int) = D1 at *
      obtain ⟨e3, e4⟩ := emod_bounds (t * D1) p h3
      have HAD := hid (fun W => radd_any p X (t * D1 % (p : Int)) W h3 hm f1 f2 (by omega) (by omega))
      generalize t * D1 % (p : Int) = D2 at *
      generalize (X + D2) % (p : Int) = D3 at *
      clear hI f1 f2 f3 f4 e1 e2 e3 e4 hb1 hx1 hb2 hy1
      go_wp2_with fail
      refine wp_region_held_drew (S := fun W => W.cell? ⟨b2, o2 + k, none⟩ = some (.int .i64 Y) ∧ W.cell? ⟨b1, o1 + k, none⟩ = some (.int .i64 X)) (by kernel_rfl) (HSB.out _ HBD.out) (fun hHeld => ?_)
      refine wpAnyH_takeU (i := 0) (v := .int .i64 (p : Int)) rfl (by kernel_rfl) (by kernel_rfl) (by kernel_rfl) (fun _ _ _ h => h) (by rfl) (fun W hC => by go_simp) hHeld ?_
      simp only [Act.put, List.setIfInBounds_toArray, List.set_cons_zero, List.set_cons_succ]
      refine wpAnyH_takeU (i := 1) (v := .slice (some ⟨b2, o2, none⟩) n c2) rfl (by kernel_rfl) (by kernel_rfl) (by kernel_rfl) (fun _ _ _ h => h) (by rfl) (fun W hC => by go_simp) hHeld ?_
      simp only [Act.put, List.setIfInBounds_toArray, List.set_cons_zero, List.set_cons_succ]
      refine wpAnyH_takeU (i := 2) (v := .int .i64 (k : Int)) rfl (by kernel_rfl) (by kernel_rfl) (by kernel_rfl) (fun _ _ _ h => h) (by rfl) (fun W hC => by go_simp) hHeld ?_
      simp only [Act.put, List.setIfInBounds_toArray, List.set_cons_zero, List.set_cons_succ]
      refine wpAnyH_takeU (i := 3) (v := .pointer (some ⟨b2, o2 + k, none⟩)) rfl (by kernel_rfl) (by kernel_rfl) (by kernel_rfl) (fun _ _ _ h => h) (by rfl) (fun W hC => by go_simp) hHeld ?_
      simp only [Act.put, List.setIfInBounds_toArray, List.set_cons_zero, List.set_cons_succ]
      refine wpAnyH_takeU (i := 4) (v := .int .i64 Y) rfl (by kernel_rfl) (by kernel_rfl) (by kernel_rfl) (fun _ _ _ h => h) (by rfl) (fun W hC => by (obtain ⟨x1, x2⟩ := hC); go_simp) hHeld ?_
      simp only [Act.put, List.setIfInBounds_toArray, List.set_cons_zero, List.set_cons_succ]
      refine wpAnyH_takeU (i := 5) (v := .slice (some ⟨b1, o1, none⟩) n c1) rfl (by kernel_rfl) (by kernel_rfl) (by kernel_rfl) (fun _ _ _ h => h) (by rfl) (fun W hC => by go_simp) hHeld ?_
      simp only [Act.put, List.setIfInBounds_toArray, List.set_cons_zero, List.set_cons_succ]
      refine wpAnyH_takeU (i := 6) (v := .int .i64 (k : Int)) rfl (by kernel_rfl) (by kernel_rfl) (by kernel_rfl) (fun _ _ _ h => h) (by rfl) (fun W hC => by go_simp) hHeld ?_
      simp only [Act.put, List.setIfInBounds_toArray, List.set_cons_zero, List.set_cons_succ]
      refine wpAnyH_takeU (i := 7) (v := .pointer (some ⟨b1, o1 + k, none⟩)) rfl (by kernel_rfl) (by kernel_rfl) (by kernel_rfl) (fun _ _ _ h => h) (by rfl) (fun W hC => by go_simp) hHeld ?_
      simp only [Act.put, List.setIfInBounds_toArray, List.set_cons_zero, List.set_cons_succ]
      refine wpAnyH_takeU (i := 8) (v := .int .i64 X) rfl (by kernel_rfl) (by kernel_rfl) (by kernel_rfl) (fun _ _ _ h => h) (by rfl) (fun W hC => by (obtain ⟨x1, x2⟩ := hC); go_simp) hHeld ?_
      simp only [Act.put, List.setIfInBounds_toArray, List.set_cons_zero, List.set_cons_succ]
      refine wpAnyH_ready (rs := [9]) (by kernel_rfl) (by simp) ?_
      refine AllReadyH.consU rfl (fun K' hK' => ?_) AllReadyH.nil
      go_simp
      refine (HSU.out wr.drew).mono ?_
      rintro e w3 ⟨rfl, hw⟩
      have hw1 := hw.symm
      subst hw1
      clear hw
      refine hK'.out _ _ (HSB.out _ HBD.out) (fun hHeld => ?_)
      clear hK' K'
      refine wpAnyH_ready (rs := [10]) (by kernel_rfl) (by simp) ?_
      refine AllReadyH.consU rfl (fun K' hK' => ?_) AllReadyH.nil
      go_simp
      refine hK'.out _ _ (HSB.out _ HBD.out) (fun hHeld => ?_)
      clear hK' K'
      refine wpAnyH_done (by kernel_rfl) ?_ _
      have hx4 := (HSB.out _ HBD.out).2
      have HBW2 : Hid (Below w.heap.size w wr.drew) := HBW.out.drew
      generalize wr.drew = WD at *
      go_wp2_with fail
      refine (HMU.out WD).mono ?_
      rintro e w4 ⟨rfl, hw⟩
      have hw1 := hw.symm
      subst hw1
      clear hw
      go_wp2_with fail
      refine (HAD.out WD).mono ?_
      rintro e w4 ⟨rfl, hw⟩
      have hw1 := hw.symm
      subst hw1
      clear hw
      have HO2 : Hid ((WD.alloc (.cells #[.int .i64 D3] 3)).ownsRow w.heap.size 3 1 _ lk.length (lk.map (Value.int .i64))) := (own_step HO.out HBD.out).alloc _
      have HC : Hid ((WD.alloc (.cells #[.int .i64 D3] 3)).cell? ⟨WD.heap.size, 0, none⟩ = some (.int .i64 D3)) := by unfold Hid; simp
      have HS : Hid (w.heap.size ≤ (WD.alloc (.cells #[.int .i64 D3] 3)).heap.size) := by have := HBW2.out.size; unfold Hid; simp; omega
      have HB2 : Hid (Below w.heap.size w (WD.alloc (.cells #[.int .i64 D3] 3))) := HBW2.out.alloc HBW2.out.size _
      clear HO HSB hx4 HMU HAD HSU
      go_wp2_with (at_builtin; refine wpList_append1 (WD.alloc (.cells #[.int .i64 D3] 3)) w.heap.size WD.heap.size D3 rfl _ _ rfl _ rfl lk HO2.out rfl HC.out HLL.out HS.out ?_)
      intro v' w5 ho5 _ _ hb5
      have HR : Hid (w5.ownsRow w.heap.size 3 1 v' (ls f (k + 1)).length ((ls f (k + 1)).map (Value.int .i64)) ∧ Below w.heap.size w w5) := by
        unfold Hid
        rw [HLS.out, ← HE.out, List.length_append, List.map_append]
        exact ⟨ho5, HB2.out.trans hb5⟩
      clear ho5 hb5 HO2 HC HS HB2 HLS HE
      go_wp2_with fail
      go_roundw
      case rel => exact ⟨k + 1, by omega, by go_num, HR.out⟩
      case measure => simp [intOf]; omega
    · obtain rfl : k = n := by omega
      have hlt2 : ¬ (k : Int) < (k : Int) := by omega
      obtain ⟨a', c', rfl, hl⟩ := numL_of_owns hI.out.1
      rw [ls_len]
      have HL := hid hl
      have HB := hid hI.out.2
      clear hI hl
      go_wp2_with fail
      go_ret
      exact ⟨a', c', rfl, HL.out, HB.out⟩


set_option maxRecDepth 100000 in
set_option maxHeartbeats 4000000 in
theorem rcheck13_no (q cL co cR cS : Nat) (wide : Int) (aL ao aR aS : Option Addr) (lys : List (List GatZ)) (outs : List Int) (Rs : List (List (List Int))) (Ls : List (List Int)) (w : World) (hB : CirB lys) (hl : LstGG w.heap.size w aL cL lys) (hno' : ¬ GsO wide lys outs Rs Ls) :
    Calls Tryz.prog 7 #[.int .i64 (q : Int), .agg #[.int .i64 wide, .slice aL lys.length cL], .slice ao outs.length co, .agg #[.slice aR Rs.length cR, .slice aS Ls.length cS]] w fun e w' => e = .returned (.tuple #[.slice none 0 0, .int .i64 0, .bool false]) ∧ Below w.heap.size w w' := by
  obtain ⟨nL, hnL⟩ : ∃ nL, nL = lys.length := ⟨_, rfl⟩
  obtain ⟨no, hno⟩ : ∃ no, no = outs.length := ⟨_, rfl⟩
  obtain ⟨nR, hnR⟩ : ∃ nR, nR = Rs.length := ⟨_, rfl⟩
  obtain ⟨nS, hnS⟩ : ∃ nS, nS = Ls.length := ⟨_, rfl⟩
  obtain ⟨W1, hW1⟩ : ∃ W1, W1 = (w.alloc (.cells #[.int .i64 wide, .slice aL nL cL] 24)).alloc (.cells #[.slice aR nR cR, .slice aS nS cS] 29) := ⟨_, rfl⟩
  obtain ⟨G, hG⟩ : ∃ G, G = w.heap.size := ⟨_, rfl⟩
  obtain ⟨L, hL⟩ : ∃ L, L = w.heap.size + 1 := ⟨_, rfl⟩
  have hb1 : Below w.heap.size w W1 := by rw [hW1]; exact ((Below.refl _ _).alloc (Nat.le_refl _) _).alloc (by simp) _
  have hz1 : W1.heap.size = w.heap.size + 2 := by rw [hW1]; simp
  have hs1 : W1.heap[G]? = some (.cells #[.int .i64 wide, .slice aL nL cL] 24 (0, 0)) := by
    rw [hW1, hG]
    exact (hao _ _ (by simp)).trans (heap_alloc_new w _)
  have hs2 : W1.heap[L]? = some (.cells #[.slice aR nR cR, .slice aS nS cS] 29 (0, 0)) := by
    rw [hW1, hL]
    have := heap_alloc_new (w.alloc (.cells #[.int .i64 wide, .slice aL nL cL] 24)) (.cells #[.slice aR nR cR, .slice aS nS cS] 29)
    simpa using this
  have HCC : Hid (∀ W, Below W1.heap.size W1 W → (W.cell? ⟨G, 0, none⟩ = some (.int .i64 wide) ∧ W.cell? ⟨G, 1, none⟩ = some (.slice aL nL cL)) ∧ W.cell? ⟨L, 0, none⟩ = some (.slice aR nR cR) ∧ W.cell? ⟨L, 1, none⟩ = some (.slice aS nS cS)) := fun W hW => by
    have e1 := (hW.block G (by omega)).trans hs1
    have e2 := (hW.block L (by omega)).trans hs2
    exact ⟨⟨by simp [World.cell?, e1], by simp [World.cell?, e1]⟩, by simp [World.cell?, e2], by simp [World.cell?, e2]⟩
  have HBW : Hid (∀ W, Below W1.heap.size W1 W → Below w.heap.size w W) := fun W hW => hb1.trans (hW.mono (by omega))
  have HFO : Hid (Calls Tryz.prog 21 #[.agg #[.int .i64 wide, .slice aL nL cL]] W1 fun e w' => e = .returned (.int .i64 (flt wide lys)) ∧ Below W1.heap.size W1 w') := by
    have h := rfault13_any cL wide aL lys W1 hB (hl.step hb1)
    rw [← hnL] at h
    exact h
  have HW1 := hid hW1
  have HGE := hid hG
  have HLE := hid hL
  by_cases hF : flt wide lys = 0
  rotate_left
  · obtain ⟨fv, hfv⟩ : ∃ fv, fv = flt wide lys := ⟨_, rfl⟩
    rw [← hfv] at HFO hF
    have hne : (fv != 0) = true := by simp [hF]
    rw [← hnL, ← hno, ← hnR, ← hnS]
    clear hnL hno hnR hnS hW1 hG hL hs1 hs2 hz1 hb1 hB hl hno' hF hfv
    go_enter Tryz.func7, Tryz.ntmps7
    go_wp2_with fail
    rw [← HW1.out]
    refine HFO.out.mono ?_
    rintro e w2 ⟨rfl, hb2⟩
    have HE := hid (HBW.out w2 hb2)
    clear hb2
    go_wp2_with fail
    go_ret3
    exact ⟨rfl, HE.out⟩
  obtain ⟨hS, hGC⟩ := flt_zero hF
  have h8 := hS.2.1
  rw [hF] at HFO
  obtain ⟨b1, o1, a1, c1, rfl, hbb, hx1, _⟩ := hl.row (lys.length - 1) (by omega)
  have HX1 : Hid (∀ W, Below w.heap.size w W → W.cell? ⟨b1, o1 + (lys.length - 1), none⟩ = some (.slice a1 (lyt lys (lys.length - 1)).length c1)) := fun W hW => (hW.cell (p := ⟨b1, o1 + (lys.length - 1), none⟩) hbb).trans hx1
  have hdec : ((no : Int) != ((lyt lys (lys.length - 1)).length : Int)) = true ∨ (((no : Int) != ((lyt lys (lys.length - 1)).length : Int)) = false ∧ (((nR : Int) != (nL : Int)) = true ∨ (((nR : Int) != (nL : Int)) = false ∧ ((nS : Int) != (nL : Int)) = true))) := by
    by_cases e1 : outs.length = (lyt lys (lys.length - 1)).length
    · refine Or.inr ⟨by simp; omega, ?_⟩
      by_cases e2 : Rs.length = lys.length
      · refine Or.inr ⟨by simp; omega, ?_⟩
        have e3 : ¬ Ls.length = lys.length := fun h => hno' ⟨hF, e1, e2, h⟩
        simp; omega
      · exact Or.inl (by simp; omega)
    · exact Or.inl (by simp; omega)
  obtain ⟨nq, hnq⟩ : ∃ nq, nq = (lyt lys (lys.length - 1)).length := ⟨_, rfl⟩
  obtain ⟨nk, hnk⟩ : ∃ nk, nk = lys.length - 1 := ⟨_, rfl⟩
  rw [← hnq] at hdec HX1
  rw [← hnk] at HX1
  have hsub : IntKind.i64.wrap ((nL : Int) - 1) = (nk : Int) := by rw [IntKind.wrap_i64]; omega
  have hkl : nk < nL := by omega
  have hnz : ¬ (nk : Int) < 0 := by omega
  have hkl2 : (nk : Int) < (nL : Int) := by omega
  rw [← hnL, ← hno, ← hnR, ← hnS]
  clear hnL hno hnR hnS hW1 hG hL hs1 hs2 hz1 hb1 hB hl hno' hF hnq hnk hS hGC h8 hx1
  rcases hdec with t1 | ⟨t1, t2 | ⟨t2, t3⟩⟩
  all_goals
    go_enter Tryz.func7, Tryz.ntmps7
    go_wp2_with fail
    rw [← HW1.out]
    refine HFO.out.mono ?_
    rintro e w2 ⟨rfl, hb2⟩
    obtain ⟨⟨k0, k1⟩, k2, k3⟩ := HCC.out w2 hb2
    have x1 := HX1.out w2 (HBW.out w2 hb2)
    have HE := hid (HBW.out w2 hb2)
    rw [HGE.out] at k0 k1
    rw [HLE.out] at k2 k3
    clear hb2
    go_wp2_with fail
    go_ret3
    exact ⟨rfl, HE.out⟩


end Go.Proofs.YtaapbopcfpihbabGreatDoor
