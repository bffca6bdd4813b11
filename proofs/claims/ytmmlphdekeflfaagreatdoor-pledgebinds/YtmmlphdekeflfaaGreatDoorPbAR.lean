/- Package pledge: weights, extend. Package pledge: powers, Mix. -/
import Derived.Test.YtmmlphdekeflfaaGreatDoorPbAO
import Derived.Test.YtmmlphdekeflfaaGreatDoorPbAQ
import Derived.Test.YtmmlphdekeflfaaGreatDoorPbAF
namespace Go.Proofs.YtmmlphdekeflfaaGreatDoor
open Go.RowKit

/-- how far the weights have come: k variables, and of the next one i places -/
def wgI (p : Nat) (at' : Nat → Int) (k : Nat) : List Int := ls (fun i => Sum.wgt at' k i % (p : Int)) (2 ^ k)
theorem wgI_len (p : Nat) (at' : Nat → Int) (k : Nat) : (wgI p at' k).length = 2 ^ k := ls_len _ _
theorem wgI_end (p : Nat) (at' : List Int) : wgI p (zat at') at'.length = wgL p at' := rfl
theorem wgI_zero {p : Nat} (h3 : 3 ≤ p) (at' : Nat → Int) : wgI p at' 0 = [1] := by
  simp [wgI, ls, Sum.wgt, Sum.prz]
  exact Int.emod_eq_of_lt (by omega) (by omega)
theorem wg_two {p : Nat} (at' : Nat → Int) (k i : Nat) : ls (fun j => Sum.wgt at' (k + 1) j % (p : Int)) (2 * i) ++ [(Sum.wgt at' k i % (p : Int)) * ((1 - at' k) % (p : Int)) % (p : Int), (Sum.wgt at' k i % (p : Int)) * at' k % (p : Int)] = ls (fun j => Sum.wgt at' (k + 1) j % (p : Int)) (2 * (i + 1)) := by
  rw [show 2 * (i + 1) = 2 * i + 1 + 1 from by omega, ls_succ, ls_succ, List.append_assoc]
  congr 1
  have h0 : Sum.wgt at' (k + 1) (2 * i) = _ := wgt_two at' k i 0 (by omega)
  have h1 := wgt_two at' k i 1 (by omega)
  rw [if_pos rfl] at h0
  rw [if_neg (by omega)] at h1
  rw [h0, h1]
  have e0 : Sum.wgt at' k i % (p : Int) * ((1 - at' k) % (p : Int)) % (p : Int) = Sum.wgt at' k i * (1 - at' k) % (p : Int) := by rw [← Int.mul_emod]
  have e1 : Sum.wgt at' k i % (p : Int) * at' k % (p : Int) = Sum.wgt at' k i * at' k % (p : Int) := by rw [Int.mul_emod, Int.emod_emod, ← Int.mul_emod]
  rw [e0, e1]
  rfl
theorem owns_two {w : World} {base : Nat} {v : Value} {zs : List Int} {x y : Int} (h : w.ownsRow base 3 1 v (zs.length + 2) (zs.map (Value.int .i64) ++ [.int .i64 x, .int .i64 y])) : w.ownsRow base 3 1 v (zs ++ [x, y]).length ((zs ++ [x, y]).map (Value.int .i64)) := by
  simpa using h
theorem pg_one (W : World) (x : Int) : (W.alloc (.cells #[.int .i64 x] 3)).ownsRow W.heap.size 3 1 (.slice (some ⟨W.heap.size, 0, none⟩) 1 1) [x].length ([x].map (Value.int .i64)) :=
  ⟨by simp, .inr ⟨W.heap.size, 1, #[.int .i64 x], rfl, Nat.le_refl _, heap_alloc_new W _, by simp, by decide, by simp, by simp⟩⟩

set_option maxRecDepth 100000 in
set_option maxHeartbeats 4000000 in
theorem weights_any (p b cap : Nat) (y : Value) (hi lo : Int) (a : Option Addr) (at' : List Int) (w : World) (h3 : 3 ≤ p) (hm : p ≤ 2147483647) (hp : w.cell? ⟨b, 0, none⟩ = some (.int .i64 p)) (hv : at'.length ≤ 12) (hf : Fits at') (hr : RowB w.heap.size w a at') :
    Calls Tryz.prog 106 #[.agg #[.pointer (some ⟨b, 0, none⟩), y, .int .i64 hi, .int .i64 lo], .slice a at'.length cap] w fun e w' => ∃ v, e = .returned v ∧ w'.ownsRow w.heap.size 3 1 v (wgL p at').length ((wgL p at').map (Value.int .i64)) ∧ Below w.heap.size w w' := by
  have hmx : Tryz.prog.follows .mixedOrders = true := by kernel_rfl
  obtain ⟨i0, hi0, hz0, hz1, hz2⟩ := info_parts Tryz.infoInt
  have hbl := heap_lt hp
  obtain ⟨W1, hW1⟩ : ∃ W1, W1 = w.alloc (.cells #[.pointer (some ⟨b, 0, none⟩), y, .int .i64 hi, .int .i64 lo] 92) := ⟨_, rfl⟩
  obtain ⟨G, hG⟩ : ∃ G, G = w.heap.size := ⟨_, rfl⟩
  have hb1 : Below w.heap.size w W1 := by rw [hW1]; exact (Below.refl _ _).alloc (Nat.le_refl _) _
  have hs1 : W1.heap[G]? = some (.cells #[.pointer (some ⟨b, 0, none⟩), y, .int .i64 hi, .int .i64 lo] 92 (0, 0)) := by rw [hW1, hG]; exact heap_alloc_new w _
  have hz : W1.heap.size = w.heap.size + 1 := by rw [hW1]; simp
  have HGB : Hid (∀ W, Below W1.heap.size W1 W → W.cell? ⟨G, 0, none⟩ = some (.pointer (some ⟨b, 0, none⟩)) ∧ W.cell? ⟨b, 0, none⟩ = some (.int .i64 p)) := fun W hW => by
    have e1 := (hW.block G (Array.getElem?_eq_some_iff.1 hs1).1).trans hs1
    exact ⟨by simp [World.cell?, e1], (hW.cell (p := ⟨b, 0, none⟩) (by show b < _; omega)).trans ((hb1.cell (p := ⟨b, 0, none⟩) hbl).trans hp)⟩
  have HE : Hid (∀ W, Below W1.heap.size W1 W → Below w.heap.size w W) := fun W hW => hb1.trans (hW.mono hb1.size)
  have HRO : Hid (∀ W, Below W1.heap.size W1 W → RowB W.heap.size W a at') := fun W hW => by
    have := hb1.trans (hW.mono hb1.size)
    exact (hr.below this).mono this.size
  have HF := hid hf
  obtain ⟨n, hnn⟩ : ∃ n, n = at'.length := ⟨_, rfl⟩
  have HN := hid hnn
  rw [← hnn] at hv ⊢
  have HWE : Hid (wgI p (zat at') n = wgL p at') := by unfold Hid; rw [hnn]; exact wgI_end p at'
  have HW0 := hid (wgI_zero h3 (zat at'))
  have HOM : Hid (∀ (W : World) v m xs, W.ownsRow W1.heap.size 3 1 v m xs → W.ownsRow w.heap.size 3 1 v m xs) := fun W v m xs h => h.mono hb1.size
  have HW1 := hid hW1
  have HG := hid hG
  have HZ := hid hz
  clear hp hr hf hs1 hnn hb1 hW1 hG hz
  go_enter Tryz.func106, Tryz.ntmps106
  go_wp2_with fail
  rw [← HG.out, ← HW1.out]
  have HO1 : Hid ((W1.alloc (.cells #[.int .i64 1] 3)).ownsRow W1.heap.size 3 1 (.slice (some ⟨G + 1, 0, none⟩) 1 1) (wgI p (zat at') 0).length ((wgI p (zat at') 0).map (Value.int .i64))) := by
    unfold Hid
    rw [HW0.out, HG.out, ← HZ.out]
    exact pg_one W1 1
  have HB1 : Hid (Below W1.heap.size W1 (W1.alloc (.cells #[.int .i64 1] 3))) := (Below.refl _ _).alloc (Nat.le_refl _) _
  clear HW1 HG HW0
  go_loopw [5, 14] (fun ov iv wr => ∃ k : Nat, k ≤ n ∧ iv = .int .i64 (k : Int) ∧ Hid (wr.ownsRow W1.heap.size 3 1 ov (wgI p (zat at') k).length ((wgI p (zat at') k).map (Value.int .i64)) ∧ Below W1.heap.size W1 wr)) (fun _ iv _ => n - (intOf iv).toNat)
  case atStart => exact ⟨0, by omega, rfl, HO1.out, HB1.out⟩
  case round =>
    obtain ⟨k, hk, rfl, hI⟩ := hrel
    obtain ⟨Wo, hWo⟩ : ∃ Wo, Wo = wr := ⟨_, rfl⟩
    subst hWo
    by_cases hlt : k < n
    · have hlt2 : (k : Int) < (n : Int) := by omega
      have hks : IntKind.i64.wrap ((k : Int) + 1) = (k : Int) + 1 := by rw [IntKind.wrap_i64]; omega
      obtain ⟨b0, o0, rfl, hb0, hx0⟩ := HRO.out Wo hI.out.2 k (by rw [← HN.out]; exact hlt)
      obtain ⟨f1, f2⟩ := HF.out.all k
      have HST : Hid (∀ i, ls (fun j => Sum.wgt (zat at') (k + 1) j % (p : Int)) (2 * i) ++ [(Sum.wgt (zat at') k i % (p : Int)) * ((1 - zat at' k) % (p : Int)) % (p : Int), (Sum.wgt (zat at') k i % (p : Int)) * zat at' k % (p : Int)] = ls (fun j => Sum.wgt (zat at') (k + 1) j % (p : Int)) (2 * (i + 1))) := fun i => wg_two (zat at') k i
      obtain ⟨ao, co, hov, hlo'⟩ := lst_of_owns hI.out.1
      rw [wgI_len] at hov
      have hpk : 2 ^ k ≤ 4096 := Nat.pow_le_pow_right (n := 2) (by decide) (show k ≤ 12 by omega)
      have HLO : Hid (∀ i, i < 2 ^ k → ∃ b o, ao = some ⟨b, o, none⟩ ∧ b < Wo.heap.size ∧ Wo.cell? ⟨b, o + i, none⟩ = some (.int .i64 (Sum.wgt (zat at') k i % (p : Int)))) := fun i hi => by
        obtain ⟨b, o, q1, q2, q3⟩ := hlo'.row i (by rw [wgI_len]; exact hi)
        refine ⟨b, o, q1, q2, ?_⟩
        rw [q3]
        unfold wgI
        rw [ls_at _ _ _ hi]
      have HEN : Hid (wgI p (zat at') (k + 1) = ls (fun j => Sum.wgt (zat at') (k + 1) j % (p : Int)) (2 * 2 ^ k)) := by unfold Hid wgI; rw [Nat.pow_succ, Nat.mul_comm]
      subst hov
      obtain ⟨m, hm'⟩ : ∃ m, m = 2 ^ k := ⟨_, rfl⟩
      rw [← hm'] at HLO HEN hpk
      simp only [← hm']
      have HBW := hid hI.out.2
      have HSU := hid (fun (W : World) (h : Below W1.heap.size W1 W) => sub_any p b 1 (zat at' k) W h3 hm (HGB.out W h).2 (by omega) (by omega) f1 f2)
      obtain ⟨t1, t2⟩ := emod_bounds (1 - zat at' k) p h3
      generalize zat at' k = r at *
      obtain ⟨u, hu⟩ : ∃ u, u = (1 - r) % (p : Int) := ⟨_, rfl⟩
      simp only [← hu] at HST HSU t1 t2
      obtain ⟨B, hB⟩ : ∃ B : Nat → Int, B = fun j => Sum.wgt (zat at') (k + 1) j % (p : Int) := ⟨_, rfl⟩
      obtain ⟨Z, hZ⟩ : ∃ Z : Nat → Int, Z = fun j => Sum.wgt (zat at') k j % (p : Int) := ⟨_, rfl⟩
      have HZB : Hid (∀ i, 0 ≤ Z i ∧ Z i < p) := fun i => by rw [hZ]; exact emod_bounds _ p h3
      have HST2 : Hid (∀ i, ls B (2 * i) ++ [Z i * u % (p : Int), Z i * r % (p : Int)] = ls B (2 * (i + 1))) := fun i => by rw [hB, hZ]; exact HST.out i
      have HLO2 : Hid (∀ i, i < m → ∃ b o, ao = some ⟨b, o, none⟩ ∧ b < Wo.heap.size ∧ Wo.cell? ⟨b, o + i, none⟩ = some (.int .i64 (Z i))) := fun i hi => by rw [hZ]; exact HLO.out i hi
      rw [← hB] at HEN
      clear hI hlo' HST HLO hB hZ hm' hu
      go_wp2_with fail
      go_loopw [8, 20] (fun nv jv wj => ∃ i : Nat, i ≤ m ∧ jv = .int .i64 (i : Int) ∧ Hid (wj.ownsRow Wo.heap.size 3 1 nv (ls B (2 * i)).length ((ls B (2 * i)).map (Value.int .i64)) ∧ Below Wo.heap.size Wo wj)) (fun _ jv _ => m - (intOf jv).toNat)
      case atStart => exact ⟨0, by omega, rfl, World.ownsRow_nil _ _ _ _, Below.refl _ _⟩
      case round =>
        obtain ⟨i, hi, rfl, hJ⟩ := hrel
        by_cases hit : i < m
        · have hit2 : (i : Int) < (m : Int) := by omega
          have his : IntKind.i64.wrap ((i : Int) + 1) = (i : Int) + 1 := by rw [IntKind.wrap_i64]; omega
          obtain ⟨bz, oz, rfl, hbz, hz3⟩ := HLO2.out i hit
          have y1 := (hJ.out.2.cell (p := ⟨bz, oz + i, none⟩) hbz).trans hz3
          have hzb := HZB.out i
          have HSC := hid (HST2.out i)
          have hbw : Below W1.heap.size W1 wr := HBW.out.trans (hJ.out.2.mono HBW.out.size)
          obtain ⟨x1, x2⟩ := HGB.out wr hbw
          have HSUB := hid (HSU.out wr.drew hbw.drew)
          have HMU1 := hid (mul_any p b (Z i) u wr.drew h3 hm (HGB.out wr.drew hbw.drew).2 (by omega) (by omega) (by omega) (by omega))
          have HMU2 := hid (mul_any p b (Z i) r wr.drew h3 hm (HGB.out wr.drew hbw.drew).2 (by omega) (by omega) f1 f2)
          generalize Z i * u % (p : Int) = e1 at *
          generalize Z i * r % (p : Int) = e2 at *
          generalize Z i = z at *
          have HOWN := hid hJ.out.1
          have HBEL := hid hJ.out.2
          have HLS := hid (ls_len B (2 * i))
          generalize ls B (2 * i) = Y at *
          have hY : Y.length ≤ 8192 := by rw [HLS.out]; omega
          have hsz : Wo.heap.size ≤ wr.heap.size := hJ.out.2.size
          clear hJ hbw hz3
          go_wp2_with fail
          refine wp_region_held_drew (S := fun W => W.cell? ⟨G, 0, none⟩ = some (.pointer (some ⟨b, 0, none⟩)) ∧ W.cell? ⟨b, 0, none⟩ = some (.int .i64 p)) (by kernel_rfl) (⟨x1, x2⟩) (fun hHeld => ?_)
          refine wpAnyH_takeU (i := 0) (v := u8) rfl (by kernel_rfl) (by kernel_rfl) (by kernel_rfl) (fun _ _ _ h => h) (by rfl) (fun W hC => by go_simp) hHeld ?_
          simp only [Act.put, List.setIfInBounds_toArray, List.set_cons_zero, List.set_cons_succ]
          refine wpAnyH_takeU (i := 1) (v := .pointer (some ⟨G, 0, none⟩)) rfl (by kernel_rfl) (by kernel_rfl) (by kernel_rfl) (fun _ _ _ h => h) (by rfl) (fun W hC => by go_simp) hHeld ?_
          simp only [Act.put, List.setIfInBounds_toArray, List.set_cons_zero, List.set_cons_succ]
          refine wpAnyH_takeU (i := 2) (v := .pointer (some ⟨b, 0, none⟩)) rfl (by kernel_rfl) (by kernel_rfl) (by kernel_rfl) (fun _ _ _ h => h) (by rfl) (fun W hC => by (obtain ⟨y0, y1⟩ := hC); go_simp) hHeld ?_
          simp only [Act.put, List.setIfInBounds_toArray, List.set_cons_zero, List.set_cons_succ]
          refine wpAnyH_takeU (i := 3) (v := .int .i64 z) rfl (by kernel_rfl) (by kernel_rfl) (by kernel_rfl) (fun _ _ _ h => h) (by rfl) (fun W hC => by go_simp) hHeld ?_
          simp only [Act.put, List.setIfInBounds_toArray, List.set_cons_zero, List.set_cons_succ]
          refine wpAnyH_takeU (i := 4) (v := .pointer (some ⟨G, 0, none⟩)) rfl (by kernel_rfl) (by kernel_rfl) (by kernel_rfl) (fun _ _ _ h => h) (by rfl) (fun W hC => by go_simp) hHeld ?_
          simp only [Act.put, List.setIfInBounds_toArray, List.set_cons_zero, List.set_cons_succ]
          refine wpAnyH_takeU (i := 5) (v := .pointer (some ⟨b, 0, none⟩)) rfl (by kernel_rfl) (by kernel_rfl) (by kernel_rfl) (fun _ _ _ h => h) (by rfl) (fun W hC => by (obtain ⟨y0, y1⟩ := hC); go_simp) hHeld ?_
          simp only [Act.put, List.setIfInBounds_toArray, List.set_cons_zero, List.set_cons_succ]
          refine wpAnyH_takeU (i := 6) (v := .int .i64 r) rfl (by kernel_rfl) (by kernel_rfl) (by kernel_rfl) (fun _ _ _ h => h) (by rfl) (fun W hC => by go_simp) hHeld ?_
          simp only [Act.put, List.setIfInBounds_toArray, List.set_cons_zero, List.set_cons_succ]
          refine wpAnyH_takeU (i := 9) (v := .pointer (some ⟨G, 0, none⟩)) rfl (by kernel_rfl) (by kernel_rfl) (by kernel_rfl) (fun _ _ _ h => h) (by rfl) (fun W hC => by go_simp) hHeld ?_
          simp only [Act.put, List.setIfInBounds_toArray, List.set_cons_zero, List.set_cons_succ]
          refine wpAnyH_takeU (i := 10) (v := .pointer (some ⟨b, 0, none⟩)) rfl (by kernel_rfl) (by kernel_rfl) (by kernel_rfl) (fun _ _ _ h => h) (by rfl) (fun W hC => by (obtain ⟨y0, y1⟩ := hC); go_simp) hHeld ?_
          simp only [Act.put, List.setIfInBounds_toArray, List.set_cons_zero, List.set_cons_succ]
          refine wpAnyH_takeU (i := 11) (v := .int .i64 z) rfl (by kernel_rfl) (by kernel_rfl) (by kernel_rfl) (fun _ _ _ h => h) (by rfl) (fun W hC => by go_simp) hHeld ?_
          simp only [Act.put, List.setIfInBounds_toArray, List.set_cons_zero, List.set_cons_succ]
          refine wpAnyH_takeU (i := 12) (v := .int .i64 r) rfl (by kernel_rfl) (by kernel_rfl) (by kernel_rfl) (fun _ _ _ h => h) (by rfl) (fun W hC => by go_simp) hHeld ?_
          simp only [Act.put, List.setIfInBounds_toArray, List.set_cons_zero, List.set_cons_succ]
          refine wpAnyH_ready (rs := [7]) (by kernel_rfl) (by simp) ?_
          refine AllReadyH.consU rfl (fun K' hK' => ?_) AllReadyH.nil
          go_simp
          refine (HSUB.out).mono ?_
          rintro e w' ⟨rfl, hw'⟩
          have hw'' := hw'.symm
          subst hw''
          refine hK'.out _ _ (hHeld) (fun hHeld => ?_)
          clear hK' K' hw'
          refine wpAnyH_ready (rs := [8]) (by kernel_rfl) (by simp) ?_
          refine AllReadyH.consU rfl (fun K' hK' => ?_) AllReadyH.nil
          go_simp
          refine (HMU1.out).mono ?_
          rintro e w' ⟨rfl, hw'⟩
          have hw'' := hw'.symm
          subst hw''
          refine hK'.out _ _ (hHeld) (fun hHeld => ?_)
          clear hK' K' hw'
          refine wpAnyH_ready (rs := [13]) (by kernel_rfl) (by simp) ?_
          refine AllReadyH.consU rfl (fun K' hK' => ?_) AllReadyH.nil
          go_simp
          refine (HMU2.out).mono ?_
          rintro e w' ⟨rfl, hw'⟩
          have hw'' := hw'.symm
          subst hw''
          refine hK'.out _ _ (hHeld) (fun hHeld => ?_)
          clear hK' K' hw'
          refine wpAnyH_ready (rs := [14]) (by kernel_rfl) (by simp) ?_
          refine AllReadyH.consU rfl (fun K' hK' => ?_) AllReadyH.nil
          go_simp
          obtain ⟨WA, hWA⟩ : ∃ WA, WA = (wr.alloc (.cells #[.int .i64 e1, .int .i64 e2] 3)).drew := ⟨_, rfl⟩
          have hbA : Below wr.heap.size wr WA := by rw [hWA]; exact ((Below.refl _ _).alloc (Nat.le_refl _) _).drew
          have hcA : WA.heap[wr.heap.size]? = some (.cells #[.int .i64 e1, .int .i64 e2] 3 (0, 0)) := by rw [hWA]; exact heap_alloc_new wr _
          have hOA : WA.ownsRow Wo.heap.size 3 1 u8 Y.length (Y.map (Value.int .i64)) := own_step HOWN.out hbA
          have hBA : Below Wo.heap.size Wo WA := HBEL.out.trans (hbA.mono hsz)
          rw [← hWA]
          refine hK'.out _ _ (HGB.out _ (HBW.out.trans (hBA.mono HBW.out.size))) (fun hHeld => ?_)
          clear hK' K'
          obtain ⟨v', w5, hrun, hown2, hgrow, _, hwhere⟩ := run_append_own_at WA Wo.heap.size 23 23 3 i0 _ 1 8 Tryz.underlying23 hi0 hz0 hz1 hz2 rfl (by decide) u8 _ _ hOA ⟨wr.heap.size, 0, none⟩ 2 2 [.int .i64 e1, .int .i64 e2] rfl (by
            intro j u hj
            have hadd : (⟨wr.heap.size, 0, none⟩ : Addr).add j = ⟨wr.heap.size, j, none⟩ := by unfold Addr.add; split <;> simp_all
            rw [hadd]
            simp only [World.cell?, hcA]
            simpa using hj) (by intro u hu; simp at hu; rcases hu with rfl | rfl <;> rfl) (by unfold maxLen; omega) (by omega) hBA.size
          have hown3 := owns_two hown2
          have hB5 : Below Wo.heap.size Wo w5 := hBA.grown hgrow hBA.size (fun j hj => (hOA.lt j hj).1)
          have HE5 : Hid (w5.ownsRow Wo.heap.size 3 1 v' (ls B (2 * (i + 1))).length ((ls B (2 * (i + 1))).map (Value.int .i64)) ∧ Below Wo.heap.size Wo w5) := by
            unfold Hid
            rw [← HSC.out]
            exact ⟨hown3, hB5⟩
          have HH5 := hid (HGB.out _ (HBW.out.trans (hB5.mono HBW.out.size)))
          clear hown2 hown3 hgrow hwhere hB5 hOA hBA hcA hbA
          refine wpAnyH_ready (rs := [15]) (by kernel_rfl) (by simp) ?_
          refine AllReadyH.consU rfl (fun K' hK' => ?_) AllReadyH.nil
          rw [if_pos (by rfl)]
          refine rg_appendU _ _ 23 23 rfl _ _ v' rfl rfl hrun ?_
          refine hK'.out _ _ HH5.out (fun hHeld => ?_)
          clear hK' K' hrun
          simp only [Act.put, List.setIfInBounds_toArray, List.set_cons_zero, List.set_cons_succ]
          refine wpAnyH_ready (rs := [16]) (by kernel_rfl) (by simp) ?_
          refine AllReadyH.consU rfl (fun K' hK' => ?_) AllReadyH.nil
          go_simp
          refine hK'.out _ _ hHeld (fun _ => ?_)
          clear hK' K' hHeld
          refine wpAnyH_done (by kernel_rfl) ?_ _
          go_wp2_with fail
          go_roundw
          case rel => exact ⟨i + 1, by omega, by go_num, HE5⟩
          case measure => simp [intOf]; omega
        · obtain rfl : i = m := by omega
          have hit2 : ¬ (i : Int) < (i : Int) := by omega
          have HE6 : Hid (World.ownsRow _ W1.heap.size 3 1 _ (wgI p (zat at') (k + 1)).length ((wgI p (zat at') (k + 1)).map (Value.int .i64)) ∧ Below W1.heap.size W1 _) := ⟨by rw [HEN.out]; exact hJ.out.1.mono HBW.out.size, HBW.out.trans (hJ.out.2.mono HBW.out.size)⟩
          clear hJ
          go_wp2_with fail
          go_roundw
          case rel => exact ⟨k + 1, by omega, by go_num, HE6⟩
          case measure => simp [intOf]; omega
    · obtain rfl : k = n := by omega
      have hlt2 : ¬ (k : Int) < (k : Int) := by omega
      have HE7 : Hid (Wo.ownsRow w.heap.size 3 1 _ (wgL p at').length ((wgL p at').map (Value.int .i64)) ∧ Below w.heap.size w Wo) := ⟨by rw [← HWE.out]; exact HOM.out _ _ _ _ hI.out.1, HE.out _ hI.out.2⟩
      clear hI
      go_wp2_with fail
      go_ret
      exact ⟨_, rfl, HE7.out⟩

end Go.Proofs.YtmmlphdekeflfaaGreatDoor

namespace Go.Proofs.YtmmlphdekeflfaaGreatDoor
open Go.RowKit

set_option maxRecDepth 100000 in
theorem powers_any (b : Nat) (r : Int) (w : World) :
    Calls Tryz.prog 36 #[.pointer (some ⟨b, 0, none⟩), .int .i64 r] w fun e w' => ∃ B0 B1, e = .returned (.func (.func 91) #[] #[.pointer (some ⟨B0, 0, none⟩), .pointer (some ⟨B1, 0, none⟩)]) ∧ B0 < w'.heap.size ∧ B1 < w'.heap.size ∧ w'.cell? ⟨B0, 0, none⟩ = some (.pointer (some ⟨b, 0, none⟩)) ∧ w'.cell? ⟨B1, 0, none⟩ = some (.int .i64 r) ∧ Below w.heap.size w w' ∧ w.heap.size ≤ B0 ∧ w.heap.size ≤ B1 := by
  obtain ⟨W1, hW1⟩ : ∃ W1, W1 = w.alloc (.cells #[.pointer (some ⟨b, 0, none⟩)] 28) := ⟨_, rfl⟩
  obtain ⟨W2, hW2⟩ : ∃ W2, W2 = W1.alloc (.cells #[.int .i64 r] 3) := ⟨_, rfl⟩
  have hs1 : W1.heap[w.heap.size]? = some (.cells #[.pointer (some ⟨b, 0, none⟩)] 28 (0, 0)) := by rw [hW1]; exact heap_alloc_new w _
  have hs2 : W2.heap[W1.heap.size]? = some (.cells #[.int .i64 r] 3 (0, 0)) := by rw [hW2]; exact heap_alloc_new W1 _
  have hb1 : Below w.heap.size w W1 := by rw [hW1]; exact (Below.refl _ _).alloc (Nat.le_refl _) _
  have hb2 : Below W1.heap.size W1 W2 := by rw [hW2]; exact (Below.refl _ _).alloc (Nat.le_refl _) _
  have hz1 : W1.heap.size = w.heap.size + 1 := by rw [hW1]; simp
  have hz2 : W2.heap.size = w.heap.size + 2 := by rw [hW2]; simp [hz1]
  have HE : Hid (w.heap.size < W2.heap.size ∧ W1.heap.size < W2.heap.size ∧ W2.cell? ⟨w.heap.size, 0, none⟩ = some (.pointer (some ⟨b, 0, none⟩)) ∧ W2.cell? ⟨W1.heap.size, 0, none⟩ = some (.int .i64 r) ∧ Below w.heap.size w W2 ∧ w.heap.size ≤ w.heap.size ∧ w.heap.size ≤ W1.heap.size) :=
    ⟨by omega, by omega, (hb2.cell (p := ⟨w.heap.size, 0, none⟩) (by show w.heap.size < W1.heap.size; omega)).trans (by simp [World.cell?, hs1]), by simp [World.cell?, hs2], hb1.trans (hb2.mono (by omega)), Nat.le_refl _, by omega⟩
  have HZ := hid hz1
  clear hs1 hs2 hb1 hb2 hz1 hz2
  go_enter Tryz.func36, Tryz.ntmps36
  go_wp2_with fail
  go_ret
  refine ⟨_, _, rfl, ?_⟩
  rw [hW2, hW1] at HE
  have := HE.out
  rw [← hW1, HZ.out] at this
  rw [hW1] at this
  exact this

set_option maxRecDepth 100000 in
theorem powq_any (p b B0 B1 cap : Nat) (r : Int) (a : Option Addr) (zs : List Int) (w : World) (h3 : 3 ≤ p) (hm : p ≤ 2147483647) (hp : w.cell? ⟨b, 0, none⟩ = some (.int .i64 p)) (h0 : w.cell? ⟨B0, 0, none⟩ = some (.pointer (some ⟨b, 0, none⟩))) (h1 : w.cell? ⟨B1, 0, none⟩ = some (.int .i64 r))
    (hn : zs.length ≤ 281474976710656) (hfit : Fits zs) (hr1 : -9223372036854775808 ≤ r) (hr2 : r ≤ 9223372036854775807) (hrow : RowB w.heap.size w a zs) :
    Calls Tryz.prog 91 #[.slice a zs.length cap, .pointer (some ⟨B0, 0, none⟩), .pointer (some ⟨B1, 0, none⟩)] w fun e w' => e = .returned (.int .i64 (evz p zs r)) ∧ Below w.heap.size w w' := by
  have HE := hid (eval_any p b cap (· < w.heap.size) a zs r w h3 hm hp hn hfit hr1 hr2 (hrow.p (fun _ h => h)))
  generalize evz p zs r = E at *
  generalize zs.length = n at *
  clear hfit hrow
  go_enter Tryz.func91, Tryz.ntmps91
  go_wp2_with fail
  refine HE.out.mono ?_
  rintro e w1 ⟨rfl, n1, rfl⟩
  go_wp2_with fail
  go_ret
  exact ⟨rfl, below_drewN (Below.refl _ _) n1⟩

/-- rows that can be mixed -/
def MixOk (rows : List (List Int)) : Prop := 1 ≤ rows.length ∧ wiB (rat rows 0).length rows = true
/-- what rows are mixed to -/
def mixz (p : Nat) (rows : List (List Int)) (r : Int) : List Int := ls (fun j => evz p (pgc rows j) r) (rat rows 0).length
theorem mixz_len (p : Nat) (rows : List (List Int)) (r : Int) : (mixz p rows r).length = (rat rows 0).length := ls_len _ _

set_option maxRecDepth 100000 in
set_option maxHeartbeats 1000000 in
theorem mix_any (p b cap : Nat) (r : Int) (a : Option Addr) (rows : List (List Int)) (w : World) (h3 : 3 ≤ p) (hm : p ≤ 2147483647) (hp : w.cell? ⟨b, 0, none⟩ = some (.int .i64 p)) (hb : b < w.heap.size) (hr1 : -9223372036854775808 ≤ r) (hr2 : r ≤ 9223372036854775807)
    (hn : rows.length ≤ 17592186044000) (hF : FitsR rows) (hl : LstR w.heap.size w a cap rows) :
    Calls Tryz.prog 9 #[.pointer (some ⟨b, 0, none⟩), .slice a rows.length cap, .int .i64 r] w fun e w' => Below w.heap.size w w' ∧
      (MixOk rows → ∃ g, e = .returned (.tuple #[.slice (some ⟨g, 0, none⟩) (rat rows 0).length (rat rows 0).length, .nilIface]) ∧ Lst w'.heap.size w' (some ⟨g, 0, none⟩) (rat rows 0).length (mixz p rows r)) ∧
      (¬ MixOk rows → e = .returned (.tuple #[.slice none 0 0, .iface 85 (.int .i64 2)])) := by
  by_cases h0 : rows.length = 0
  · have HN : Hid (¬ MixOk rows) := fun h => by have := h.1; omega
    have hq : (rows.length : Int) = 0 := by omega
    rw [h0]
    clear hl hF h0 hq
    go_enter Tryz.func9, Tryz.ntmps9
    go_wp2_with fail
    go_ret2
    exact ⟨Below.refl _ _, fun h => absurd h HN.out, fun _ => rfl⟩
  · obtain ⟨b0, o0, a0, c0, rfl, hb0, hc0, hl0⟩ := hl.row 0 (by omega)
    have hc0' : w.cell? ⟨b0, o0, none⟩ = some (.slice a0 (rat rows 0).length c0) := by simpa using hc0
    have HW := hid (areWide_any cap (rat rows 0).length (some ⟨b0, o0, none⟩) rows w (by omega) hl)
    by_cases hwi : wiB (rat rows 0).length rows = true
    · have HOK : Hid (MixOk rows) := ⟨by omega, hwi⟩
      have hl0n := (hF 0 (by omega)).2
      have HAC : Hid (∀ (W : World) (B0 B1 : Nat), Below w.heap.size w W → B0 < W.heap.size → B1 < W.heap.size → W.cell? ⟨B0, 0, none⟩ = some (.pointer (some ⟨b, 0, none⟩)) → W.cell? ⟨B1, 0, none⟩ = some (.int .i64 r) →
          Calls Tryz.prog 35 #[.slice (some ⟨b0, o0, none⟩) rows.length cap, .func (.func 91) #[] #[.pointer (some ⟨B0, 0, none⟩), .pointer (some ⟨B1, 0, none⟩)]] W fun e w' => e = .returned (.slice (some ⟨W.heap.size, 0, none⟩) (rat rows 0).length (rat rows 0).length) ∧ ArrI w' W.heap.size 3 (rat rows 0).length (fun j => evz p (pgc rows j) r) ∧ Below W.heap.size W w') :=
        fun W B0 B1 hW q0 q1 k0 k1 => across_any 91 cap (rat rows 0).length #[.pointer (some ⟨B0, 0, none⟩), .pointer (some ⟨B1, 0, none⟩)] (fun l => evz p l r) _ rows W (by omega) hn hl0n (fun k hk => wiB_at hwi hk) ((hl.below hW).mono hW.size)
          (enters_of Tryz.func91 (by kernel_rfl) (by kernel_rfl))
          (fun W2 g j hW2 hj hA => by
            have hq := powq_any p b B0 B1 rows.length r (some ⟨g, 0, none⟩) (pgc rows j) W2 h3 hm ((hW2.cell (p := ⟨b, 0, none⟩) (by have := hW.size; show b < _; omega)).trans ((hW.cell (p := ⟨b, 0, none⟩) hb).trans hp)) ((hW2.cell (p := ⟨B0, 0, none⟩) q0).trans k0) ((hW2.cell (p := ⟨B1, 0, none⟩) q1).trans k1)
              (by rw [pgc_len]; omega) (pgc_fits hF j) hr1 hr2 (fun k hk => ⟨g, 0, rfl, hA.lt, by rw [Nat.zero_add]; exact hA.cell (by rw [pgc_len] at hk; exact hk)⟩)
            rw [pgc_len] at hq
            exact hq)
      have HMZ : Hid (mixz p rows r = ls (fun j => evz p (pgc rows j) r) (rat rows 0).length) := rfl
      rw [hwi] at HW
      generalize (rat rows 0).length = m at *
      obtain ⟨n, hnn⟩ : ∃ n, n = rows.length := ⟨_, rfl⟩
      simp only [← hnn] at HAC HW h0 hn ⊢
      have hz : ¬ (n : Int) = 0 := by omega
      have hzl : (0 : Int) < (n : Int) := by omega
      clear hl hF hwi hl0 hc0 hnn
      go_enter Tryz.func9, Tryz.ntmps9
      go_wp2_with fail
      refine HW.out.mono ?_
      rintro e w1 ⟨rfl, hb1⟩
      have HB1 := hid hb1
      clear HW hb1
      go_wp2_with fail
      refine (powers_any b r w1).mono ?_
      rintro e w2 ⟨B0, B1, rfl, q0, q1, k0, k1, hb2, _, _⟩
      have HB2 : Hid (Below w.heap.size w w2) := HB1.out.trans (hb2.mono HB1.out.size)
      have HA := hid (HAC.out w2 B0 B1 HB2.out q0 q1 k0 k1)
      clear HAC q0 q1 k0 k1 hb2
      go_wp2_with fail
      refine HA.out.mono ?_
      rintro e w3 ⟨rfl, har, hb3⟩
      have HE : Hid (Lst w3.heap.size w3 (some ⟨w2.heap.size, 0, none⟩) m (mixz p rows r) ∧ Below w.heap.size w w3) :=
        ⟨by rw [HMZ.out]; exact ⟨fun k hk => ⟨_, 0, rfl, har.lt, by rw [ls_len] at hk; rw [ls_at _ _ _ hk, Nat.zero_add]; exact har.cell hk⟩, by rw [ls_len]; exact Nat.le_refl _, fun e => by cases e⟩, HB2.out.trans (hb3.mono HB2.out.size)⟩
      clear har hb3 HA
      go_wp2_with fail
      go_ret2
      exact ⟨HE.out.2, fun _ => ⟨_, rfl, HE.out.1⟩, fun h => absurd HOK.out h⟩
    · have HNO : Hid (¬ MixOk rows) := fun h => hwi h.2
      rw [show wiB (rat rows 0).length rows = false from by simpa using hwi] at HW
      generalize (rat rows 0).length = m at *
      obtain ⟨n, hnn⟩ : ∃ n, n = rows.length := ⟨_, rfl⟩
      simp only [← hnn] at HW h0 hn ⊢
      have hz : ¬ (n : Int) = 0 := by omega
      have hzl : (0 : Int) < (n : Int) := by omega
      clear hl hF hwi hl0 hc0 hnn
      go_enter Tryz.func9, Tryz.ntmps9
      go_wp2_with fail
      refine HW.out.mono ?_
      rintro e w1 ⟨rfl, hb1⟩
      have HB1 := hid hb1
      clear HW hb1
      go_wp2_with fail
      go_ret2
      exact ⟨HB1.out, fun h => absurd h HNO.out, fun _ => rfl⟩

end Go.Proofs.YtmmlphdekeflfaaGreatDoor
