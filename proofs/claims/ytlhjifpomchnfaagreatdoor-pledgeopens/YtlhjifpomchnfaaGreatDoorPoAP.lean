
import Derived.Test.YtlhjifpomchnfaaGreatDoorPoAO
import Derived.Test.YtlhjifpomchnfaaGreatDoorPoAE
set_option maxRecDepth 1000000
set_option maxHeartbeats 8000000
namespace Go.Proofs.YtlhjifpomchnfaaGreatDoor
open Go.RowKit
def wgI (p : Nat) (at' : Nat -> Int) (k : Nat) : List Int := ls (fun i => Sum.wgt at' k i % (p : Int)) (2 ^ k)
theorem wgI_len (p : Nat) (at' : Nat -> Int) (k : Nat) : (wgI p at' k).length = 2 ^ k := ls_len _ _
theorem wgI_end (p : Nat) (at' : List Int) : wgI p (zat at') at'.length = wgL p at' := rfl
theorem wgI_zero {p : Nat} (h3 : 3 <= p) (at' : Nat -> Int) : wgI p at' 0 = [1] := by
 simp [wgI, ls, Sum.wgt, Sum.prz]
 exact Int.emod_eq_of_lt (by omega) (by omega)
theorem wg_two {p : Nat} (at' : Nat -> Int) (k i : Nat) : ls (fun j => Sum.wgt at' (k + 1) j % (p : Int)) (2 * i) ++ [(Sum.wgt at' k i % (p : Int)) * ((1 - at' k) % (p : Int)) % (p : Int), (Sum.wgt at' k i % (p : Int)) * at' k % (p : Int)] = ls (fun j => Sum.wgt at' (k + 1) j % (p : Int)) (2 * (i + 1)) := by
 rw [show 2 * (i + 1) = 2 * i + 1 + 1 from by omega, ls_succ, ls_succ, List.append_assoc]
 congr 1
 have h0 : Sum.wgt at' (k + 1) (2 * i) = _ := wgt_two at' k i 0 (by omega)
 have h1 := wgt_two at' k i 1 (by omega)
 rw [if_pos rfl] at h0
 rw [if_neg (by omega)] at h1
 rw [h0, h1]
 have e0 : Sum.wgt at' k i % (p : Int) * ((1 - at' k) % (p : Int)) % (p : Int) = Sum.wgt at' k i * (1 - at' k) % (p : Int) := by rw [<- Int.mul_emod]
 have e1 : Sum.wgt at' k i % (p : Int) * at' k % (p : Int) = Sum.wgt at' k i * at' k % (p : Int) := by rw [Int.mul_emod, Int.emod_emod, <- Int.mul_emod]
 rw [e0, e1]
 rfl
theorem owns_two {w : World} {base : Nat} {v : Value} {zs : List Int} {x y : Int} (h : w.ownsRow base 3 1 v (zs.length + 2) (zs.map (Value.int .i64) ++ [.int .i64 x, .int .i64 y])) : w.ownsRow base 3 1 v (zs ++ [x, y]).length ((zs ++ [x, y]).map (Value.int .i64)) := by
 simpa using h
theorem pg_one (W : World) (x : Int) : (W.alloc (.cells #[.int .i64 x] 3)).ownsRow W.heap.size 3 1 (.slice (some ⟨W.heap.size, 0, none⟩) 1 1) [x].length ([x].map (Value.int .i64)) :=
 ⟨by simp, .inr ⟨W.heap.size, 1, #[.int .i64 x], rfl, Nat.le_refl _, heap_alloc_new W _, by simp, by decide, by simp, by simp⟩⟩
theorem weights_any (p b cap : Nat) (y : Value) (hi lo : Int) (a : Option Addr) (at' : List Int) (w : World) (h3 : 3 <= p) (hm : p <= 2147483647) (hp : w.cell? ⟨b, 0, none⟩ = some (.int .i64 p)) (hv : at'.length <= 12) (hf : Fits at') (hr : RowB w.heap.size w a at') :
  Calls Tryz.prog 84 #[.agg #[.pointer (some ⟨b, 0, none⟩), y, .int .i64 hi, .int .i64 lo], .slice a at'.length cap] w fun e w' => ∃ v, e = .returned v /\ w'.ownsRow w.heap.size 3 1 v (wgL p at').length ((wgL p at').map (Value.int .i64)) /\ Below w.heap.size w w' := by
 have hmx : Tryz.prog.follows .mixedOrders = true := by kernel_rfl
 obtain ⟨i0, hi0, hz0, hz1, hz2⟩ := info_parts Tryz.infoInt
 have hbl := heap_lt hp
 obtain ⟨W1, hW1⟩ : ∃ W1, W1 = w.alloc (.cells #[.pointer (some ⟨b, 0, none⟩), y, .int .i64 hi, .int .i64 lo] 87) := ⟨_, rfl⟩
 obtain ⟨G, hG⟩ : ∃ G, G = w.heap.size := ⟨_, rfl⟩
 have hb1 : Below w.heap.size w W1 := by rw [hW1]; exact (Below.refl _ _).alloc (Nat.le_refl _) _
 have hs1 : W1.heap[G]? = some (.cells #[.pointer (some ⟨b, 0, none⟩), y, .int .i64 hi, .int .i64 lo] 87 (0, 0)) := by rw [hW1, hG]; exact heap_alloc_new w _
 have hz : W1.heap.size = w.heap.size + 1 := by rw [hW1]; simp
 have HGB : Hid (∀ W, Below W1.heap.size W1 W -> W.cell? ⟨G, 0, none⟩ = some (.pointer (some ⟨b, 0, none⟩)) /\ W.cell? ⟨b, 0, none⟩ = some (.int .i64 p)) := fun W hW => by
  have e1 := (hW.block G (Array.getElem?_eq_some_iff.1 hs1).1).trans hs1
  exact ⟨by simp [World.cell?, e1], (hW.cell (p := ⟨b, 0, none⟩) (by show b < _; omega)).trans ((hb1.cell (p := ⟨b, 0, none⟩) hbl).trans hp)⟩
 have HE : Hid (∀ W, Below W1.heap.size W1 W -> Below w.heap.size w W) := fun W hW => hb1.trans (hW.mono hb1.size)
 have HRO : Hid (∀ W, Below W1.heap.size W1 W -> RowB W.heap.size W a at') := fun W hW => by
  have := hb1.trans (hW.mono hb1.size)
  exact (hr.below this).mono this.size
 have HF := hid hf
 obtain ⟨n, hnn⟩ : ∃ n, n = at'.length := ⟨_, rfl⟩
 have HN := hid hnn
 rw [<- hnn] at hv ⊢
 have HWE : Hid (wgI p (zat at') n = wgL p at') := by unfold Hid; rw [hnn]; exact wgI_end p at'
 have HW0 := hid (wgI_zero h3 (zat at'))
 have HOM : Hid (∀ (W : World) v m xs, W.ownsRow W1.heap.size 3 1 v m xs -> W.ownsRow w.heap.size 3 1 v m xs) := fun W v m xs h => h.mono hb1.size
 have HW1 := hid hW1
 have HG := hid hG
 have HZ := hid hz
 clear hp hr hf hs1 hnn hb1 hW1 hG hz
 go_enter Tryz.func84, Tryz.ntmps84
 go_wp2_with fail
 rw [<- HG.out, <- HW1.out]
 have HO1 : Hid ((W1.alloc (.cells #[.int .i64 1] 3)).ownsRow W1.heap.size 3 1 (.slice (some ⟨G + 1, 0, none⟩) 1 1) (wgI p (zat at') 0).length ((wgI p (zat at') 0).map (Value.int .i64))) := by
  unfold Hid
  rw [HW0.out, HG.out, <- HZ.out]
  exact pg_one W1 1
 have HB1 : Hid (Below W1.heap.size W1 (W1.alloc (.cells #[.int .i64 1] 3))) := (Below.refl _ _).alloc (Nat.le_refl _) _
 clear HW1 HG HW0
 go_loopw [5, 14] (fun ov iv wr => ∃ k : Nat, k <= n /\ iv = .int .i64 (k : Int) /\ Hid (wr.ownsRow W1.heap.size 3 1 ov (wgI p (zat at') k).length ((wgI p (zat at') k).map (Value.int .i64)) /\ Below W1.heap.size W1 wr)) (fun _ iv _ => n - (intOf iv).toNat)
 case atStart => exact ⟨0, by omega, rfl, HO1.out, HB1.out⟩
 case round =>
  obtain ⟨k, hk, rfl, hI⟩ := hrel
  obtain ⟨Wo, hWo⟩ : ∃ Wo, Wo = wr := ⟨_, rfl⟩
  subst hWo
  by_cases hlt : k < n
  ·have hlt2 : (k : Int) < (n : Int) := by omega
   have hks : IntKind.i64.wrap ((k : Int) + 1) = (k : Int) + 1 := by rw [IntKind.wrap_i64]; omega
   obtain ⟨b0, o0, rfl, hb0, hx0⟩ := HRO.out Wo hI.out.2 k (by rw [<- HN.out]; exact hlt)
   obtain ⟨f1, f2⟩ := HF.out.all k
   have HST : Hid (∀ i, ls (fun j => Sum.wgt (zat at') (k + 1) j % (p : Int)) (2 * i) ++ [(Sum.wgt (zat at') k i % (p : Int)) * ((1 - zat at' k) % (p : Int)) % (p : Int), (Sum.wgt (zat at') k i % (p : Int)) * zat at' k % (p : Int)] = ls (fun j => Sum.wgt (zat at') (k + 1) j % (p : Int)) (2 * (i + 1))) := fun i => wg_two (zat at') k i
   obtain ⟨ao, co, hov, hlo'⟩ := lst_of_owns hI.out.1
   rw [wgI_len] at hov
   have hpk : 2 ^ k <= 4096 := Nat.pow_le_pow_right (n := 2) (by decide) (show k <= 12 by omega)
   have HLO : Hid (∀ i, i < 2 ^ k -> ∃ b o, ao = some ⟨b, o, none⟩ /\ b < Wo.heap.size /\ Wo.cell? ⟨b, o + i, none⟩ = some (.int .i64 (Sum.wgt (zat at') k i % (p : Int)))) := fun i hi => by
    obtain ⟨b, o, q1, q2, q3⟩ := hlo'.row i (by rw [wgI_len]; exact hi)
    refine ⟨b, o, q1, q2, ?_⟩
    rw [q3]
    unfold wgI
    rw [ls_at _ _ _ hi]
   have HEN : Hid (wgI p (zat at') (k + 1) = ls (fun j => Sum.wgt (zat at') (k + 1) j % (p : Int)) (2 * 2 ^ k)) := by unfold Hid wgI; rw [Nat.pow_succ, Nat.mul_comm]
   subst hov
   obtain ⟨m, hm'⟩ : ∃ m, m = 2 ^ k := ⟨_, rfl⟩
   rw [<- hm'] at HLO HEN hpk
   simp only [<- hm']
   have HBW := hid hI.out.2
   have HSU := hid (fun (W : World) (h : Below W1.heap.size W1 W) => sub_any p b 1 (zat at' k) W h3 hm (HGB.out W h).2 (by omega) (by omega) f1 f2)
   obtain ⟨t1, t2⟩ := emod_bounds (1 - zat at' k) p h3
   generalize zat at' k = r at *
   obtain ⟨u, hu⟩ : ∃ u, u = (1 - r) % (p : Int) := ⟨_, rfl⟩
   simp only [<- hu] at HST HSU t1 t2
   obtain ⟨B, hB⟩ : ∃ B : Nat -> Int, B = fun j => Sum.wgt (zat at') (k + 1) j % (p : Int) := ⟨_, rfl⟩
   obtain ⟨Z, hZ⟩ : ∃ Z : Nat -> Int, Z = fun j => Sum.wgt (zat at') k j % (p : Int) := ⟨_, rfl⟩
   have HZB : Hid (∀ i, 0 <= Z i /\ Z i < p) := fun i => by rw [hZ]; exact emod_bounds _ p h3
   have HST2 : Hid (∀ i, ls B (2 * i) ++ [Z i * u % (p : Int), Z i * r % (p : Int)] = ls B (2 * (i + 1))) := fun i => by rw [hB, hZ]; exact HST.out i
   have HLO2 : Hid (∀ i, i < m -> ∃ b o, ao = some ⟨b, o, none⟩ /\ b < Wo.heap.size /\ Wo.cell? ⟨b, o + i, none⟩ = some (.int .i64 (Z i))) := fun i hi => by rw [hZ]; exact HLO.out i hi
   rw [<- hB] at HEN
   clear hI hlo' HST HLO hB hZ hm' hu
   go_wp2_with fail
   go_loopw [8, 20] (fun nv jv wj => ∃ i : Nat, i <= m /\ jv = .int .i64 (i : Int) /\ Hid (wj.ownsRow Wo.heap.size 3 1 nv (ls B (2 * i)).length ((ls B (2 * i)).map (Value.int .i64)) /\ Below Wo.heap.size Wo wj)) (fun _ jv _ => m - (intOf jv).toNat)
   case atStart => exact ⟨0, by omega, rfl, World.ownsRow_nil _ _ _ _, Below.refl _ _⟩
   case round =>
    obtain ⟨i, hi, rfl, hJ⟩ := hrel
    by_cases hit : i < m
    ·have hit2 : (i : Int) < (m : Int) := by omega
     have his : IntKind.i64.wrap ((i : Int) + 1) = (i : Int) + 1 := by rw [IntKind.wrap_i64]; omega
     obtain ⟨bz, oz, rfl, hbz, hz3⟩ := HLO2.out i hit
     have y1 := (hJ.out.2.cell (p := ⟨bz, oz + i, none⟩) hbz).trans hz3
     have hzb := HZB.out i
     have HSC := hid (HST2.out i)
     have hbw : Below W1.heap.size W1 wr := HBW.out.trans (hJ.out.2.mono HBW.out.size)
     obtain ⟨x1, x2⟩ := HGB.out wr hbw
     have HSUB := hid (HSU.out wr.drew hbw.drew)
     have HMU1 := hid (mul_any p b (Z i) u wr.drew h3 hm (HGB.out wr.drew hbw.drew).2 (by omega) (by omega) (by omega) (by omega))
     have HMU2 := hid (mul_any p b (Z i) r wr.drew h3 hm (HGB.out wr.drew hbw.drew).2 (by omega) (by omega) f1 f2)
     generalize Z i * u % (p : Int) = e1 at *
     generalize Z i * r % (p : Int) = e2 at *
     generalize Z i = z at *
     have HOWN := hid hJ.out.1
     have HBEL := hid hJ.out.2
     have HLS := hid (ls_len B (2 * i))
     generalize ls B (2 * i) = Y at *
     have hY : Y.length <= 8192 := by rw [HLS.out]; omega
     have hsz : Wo.heap.size <= wr.heap.size := hJ.out.2.size
     clear hJ hbw hz3
     go_wp2_with fail
     refine wp_region_held_drew (S := fun W => W.cell? ⟨G, 0, none⟩ = some (.pointer (some ⟨b, 0, none⟩)) /\ W.cell? ⟨b, 0, none⟩ = some (.int .i64 p)) (by kernel_rfl) (⟨x1, x2⟩) (fun hHeld => ?_)
     refine wpAnyH_takeU (i := 0) (v := u8) rfl (by kernel_rfl) (by kernel_rfl) (by kernel_rfl) (fun _ _ _ h => h) (by rfl) (fun W hC => by go_simp) hHeld ?_
     simp only [Act.put, List.setIfInBounds_toArray, List.set_cons_zero, List.set_cons_succ]
     refine wpAnyH_takeU (i := 1) (v := .pointer (some ⟨G, 0, none⟩)) rfl (by kernel_rfl) (by kernel_rfl) (by kernel_rfl) (fun _ _ _ h => h) (by rfl) (fun W hC => by go_simp) hHeld ?_
     simp only [Act.put, List.setIfInBounds_toArray, List.set_cons_zero, List.set_cons_succ]
     refine wpAnyH_takeU (i := 2) (v := .pointer (some ⟨b, 0, none⟩)) rfl (by kernel_rfl) (by kernel_rfl) (by kernel_rfl) (fun _ _ _ h => h) (by rfl) (fun W hC => by (obtain ⟨y0, y1⟩ := hC); go_simp) hHeld ?_
     simp only [Act.put, List.setIfInBounds_toArray, List.set_cons_zero, List.set_cons_succ]
     refine wpAnyH_takeU (i := 3) (v := .int .i64 z) rfl (by kernel_rfl) (by kernel_rfl) (by kernel_rfl) (fun _ _ _ h => h) (by rfl) (fun W hC => by go_simp) hHeld ?_
     simp only [Act.put, List.setIfInBounds_toArray, List.set_cons_zero, List.set_cons_succ]
     refine wpAnyH_takeU (i := 4) (v := .pointer (some ⟨G, 0, none⟩)) rfl (by kernel_rfl) (by kernel_rfl) (by kernel_rfl) (fun _ _ _ h => h) (by rfl) (fun W hC => by go_simp) hHeld ?_
     simp only [Act.put, List.setIfInBounds_toArray, List.set_cons_zero, List.set_cons_succ]
     refine wpAnyH_takeU (i := 5) (v := .pointer (some ⟨b, 0, none⟩)) rfl (by kernel_rfl) (by kernel_rfl) (by kernel_rfl) (fun _ _ _ h => h) (by rfl) (fun W hC => by (obtain ⟨y0, y1⟩ := hC); go_simp) hHeld ?_
     simp only [Act.put, List.setIfInBounds_toArray, List.set_cons_zero, List.set_cons_succ]
     refine wpAnyH_takeU (i := 6) (v := .int .i64 r) rfl (by kernel_rfl) (by kernel_rfl) (by kernel_rfl) (fun _ _ _ h => h) (by rfl) (fun W hC => by go_simp) hHeld ?_
     simp only [Act.put, List.setIfInBounds_toArray, List.set_cons_zero, List.set_cons_succ]
     refine wpAnyH_takeU (i := 9) (v := .pointer (some ⟨G, 0, none⟩)) rfl (by kernel_rfl) (by kernel_rfl) (by kernel_rfl) (fun _ _ _ h => h) (by rfl) (fun W hC => by go_simp) hHeld ?_
     simp only [Act.put, List.setIfInBounds_toArray, List.set_cons_zero, List.set_cons_succ]
     refine wpAnyH_takeU (i := 10) (v := .pointer (some ⟨b, 0, none⟩)) rfl (by kernel_rfl) (by kernel_rfl) (by kernel_rfl) (fun _ _ _ h => h) (by rfl) (fun W hC => by (obtain ⟨y0, y1⟩ := hC); go_simp) hHeld ?_
     simp only [Act.put, List.setIfInBounds_toArray, List.set_cons_zero, List.set_cons_succ]
     refine wpAnyH_takeU (i := 11) (v := .int .i64 z) rfl (by kernel_rfl) (by kernel_rfl) (by kernel_rfl) (fun _ _ _ h => h) (by rfl) (fun W hC => by go_simp) hHeld ?_
     simp only [Act.put, List.setIfInBounds_toArray, List.set_cons_zero, List.set_cons_succ]
     refine wpAnyH_takeU (i := 12) (v := .int .i64 r) rfl (by kernel_rfl) (by kernel_rfl) (by kernel_rfl) (fun _ _ _ h => h) (by rfl) (fun W hC => by go_simp) hHeld ?_
     simp only [Act.put, List.setIfInBounds_toArray, List.set_cons_zero, List.set_cons_succ]
     refine wpAnyH_ready (rs := [7]) (by kernel_rfl) (by simp) ?_
     refine AllReadyH.consU rfl (fun K' hK' => ?_) AllReadyH.nil
     go_simp
     refine (HSUB.out).mono ?_
     rintro e w' ⟨rfl, hw'⟩
     have hw'' := hw'.symm
     subst hw''
     refine hK'.out _ _ (hHeld) (fun hHeld => ?_)
     clear hK' K' hw'
     refine wpAnyH_ready (rs := [8]) (by kernel_rfl) (by simp) ?_
     refine AllReadyH.consU rfl (fun K' hK' => ?_) AllReadyH.nil
     go_simp
     refine (HMU1.out).mono ?_
     rintro e w' ⟨rfl, hw'⟩
     have hw'' := hw'.symm
     subst hw''
     refine hK'.out _ _ (hHeld) (fun hHeld => ?_)
     clear hK' K' hw'
     refine wpAnyH_ready (rs := [13]) (by kernel_rfl) (by simp) ?_
     refine AllReadyH.consU rfl (fun K' hK' => ?_) AllReadyH.nil
     go_simp
     refine (HMU2.out).mono ?_
     rintro e w' ⟨rfl, hw'⟩
     have hw'' := hw'.symm
     subst hw''
     refine hK'.out _ _ (hHeld) (fun hHeld => ?_)
     clear hK' K' hw'
     refine wpAnyH_ready (rs := [14]) (by kernel_rfl) (by simp) ?_
     refine AllReadyH.consU rfl (fun K' hK' => ?_) AllReadyH.nil
     go_simp
     obtain ⟨WA, hWA⟩ : ∃ WA, WA = (wr.alloc (.cells #[.int .i64 e1, .int .i64 e2] 3)).drew := ⟨_, rfl⟩
     have hbA : Below wr.heap.size wr WA := by rw [hWA]; exact ((Below.refl _ _).alloc (Nat.le_refl _) _).drew
     have hcA : WA.heap[wr.heap.size]? = some (.cells #[.int .i64 e1, .int .i64 e2] 3 (0, 0)) := by rw [hWA]; exact heap_alloc_new wr _
     have hOA : WA.ownsRow Wo.heap.size 3 1 u8 Y.length (Y.map (Value.int .i64)) := own_step HOWN.out hbA
     have hBA : Below Wo.heap.size Wo WA := HBEL.out.trans (hbA.mono hsz)
     rw [<- hWA]
     refine hK'.out _ _ (HGB.out _ (HBW.out.trans (hBA.mono HBW.out.size))) (fun hHeld => ?_)
     clear hK' K'
     obtain ⟨v', w5, hrun, hown2, hgrow, _, hwhere⟩ := run_append_own_at WA Wo.heap.size 22 22 3 i0 _ 1 8 Tryz.underlying22 hi0 hz0 hz1 hz2 rfl (by decide) u8 _ _ hOA ⟨wr.heap.size, 0, none⟩ 2 2 [.int .i64 e1, .int .i64 e2] rfl (by
      intro j u hj
      have hadd : (⟨wr.heap.size, 0, none⟩ : Addr).add j = ⟨wr.heap.size, j, none⟩ := by unfold Addr.add; split <;> simp_all
      rw [hadd]
      simp only [World.cell?, hcA]
      simpa using hj) (by intro u hu; simp at hu; rcases hu with rfl | rfl <;> rfl) (by unfold maxLen; omega) (by omega) hBA.size
     have hown3 := owns_two hown2
     have hB5 : Below Wo.heap.size Wo w5 := hBA.grown hgrow hBA.size (fun j hj => (hOA.lt j hj).1)
     have HE5 : Hid (w5.ownsRow Wo.heap.size 3 1 v' (ls B (2 * (i + 1))).length ((ls B (2 * (i + 1))).map (Value.int .i64)) /\ Below Wo.heap.size Wo w5) := by
      unfold Hid
      rw [<- HSC.out]
      exact ⟨hown3, hB5⟩
     have HH5 := hid (HGB.out _ (HBW.out.trans (hB5.mono HBW.out.size)))
     clear hown2 hown3 hgrow hwhere hB5 hOA hBA hcA hbA
     refine wpAnyH_ready (rs := [15]) (by kernel_rfl) (by simp) ?_
     refine AllReadyH.consU rfl (fun K' hK' => ?_) AllReadyH.nil
     rw [if_pos (by rfl)]
     refine rg_appendU _ _ 22 22 rfl _ _ v' rfl rfl hrun ?_
     refine hK'.out _ _ HH5.out (fun hHeld => ?_)
     clear hK' K' hrun
     simp only [Act.put, List.setIfInBounds_toArray, List.set_cons_zero, List.set_cons_succ]
     refine wpAnyH_ready (rs := [16]) (by kernel_rfl) (by simp) ?_
     refine AllReadyH.consU rfl (fun K' hK' => ?_) AllReadyH.nil
     go_simp
     refine hK'.out _ _ hHeld (fun _ => ?_)
     clear hK' K' hHeld
     refine wpAnyH_done (by kernel_rfl) ?_ _
     go_wp2_with fail
     go_roundw
     case rel => exact ⟨i + 1, by omega, by go_num, HE5⟩
     case measure => simp [intOf]; omega
    ·obtain rfl : i = m := by omega
     have hit2 : ¬ (i : Int) < (i : Int) := by omega
     have HE6 : Hid (World.ownsRow _ W1.heap.size 3 1 _ (wgI p (zat at') (k + 1)).length ((wgI p (zat at') (k + 1)).map (Value.int .i64)) /\ Below W1.heap.size W1 _) := ⟨by rw [HEN.out]; exact hJ.out.1.mono HBW.out.size, HBW.out.trans (hJ.out.2.mono HBW.out.size)⟩
     clear hJ
     go_wp2_with fail
     go_roundw
     case rel => exact ⟨k + 1, by omega, by go_num, HE6⟩
     case measure => simp [intOf]; omega
  ·obtain rfl : k = n := by omega
   have hlt2 : ¬ (k : Int) < (k : Int) := by omega
   have HE7 : Hid (Wo.ownsRow w.heap.size 3 1 _ (wgL p at').length ((wgL p at').map (Value.int .i64)) /\ Below w.heap.size w Wo) := ⟨by rw [<- HWE.out]; exact HOM.out _ _ _ _ hI.out.1, HE.out _ hI.out.2⟩
   clear hI
   go_wp2_with fail
   go_ret
   exact ⟨_, rfl, HE7.out⟩
theorem powers_any (b : Nat) (r : Int) (w : World) :
  Calls Tryz.prog 54 #[.pointer (some ⟨b, 0, none⟩), .int .i64 r] w fun e w' => ∃ B0 B1, e = .returned (.func (.func 107) #[] #[.pointer (some ⟨B0, 0, none⟩), .pointer (some ⟨B1, 0, none⟩)]) /\ B0 < w'.heap.size /\ B1 < w'.heap.size /\ w'.cell? ⟨B0, 0, none⟩ = some (.pointer (some ⟨b, 0, none⟩)) /\ w'.cell? ⟨B1, 0, none⟩ = some (.int .i64 r) /\ Below w.heap.size w w' /\ w.heap.size <= B0 /\ w.heap.size <= B1 := by
 obtain ⟨W1, hW1⟩ : ∃ W1, W1 = w.alloc (.cells #[.pointer (some ⟨b, 0, none⟩)] 57) := ⟨_, rfl⟩
 obtain ⟨W2, hW2⟩ : ∃ W2, W2 = W1.alloc (.cells #[.int .i64 r] 3) := ⟨_, rfl⟩
 have hs1 : W1.heap[w.heap.size]? = some (.cells #[.pointer (some ⟨b, 0, none⟩)] 57 (0, 0)) := by rw [hW1]; exact heap_alloc_new w _
 have hs2 : W2.heap[W1.heap.size]? = some (.cells #[.int .i64 r] 3 (0, 0)) := by rw [hW2]; exact heap_alloc_new W1 _
 have hb1 : Below w.heap.size w W1 := by rw [hW1]; exact (Below.refl _ _).alloc (Nat.le_refl _) _
 have hb2 : Below W1.heap.size W1 W2 := by rw [hW2]; exact (Below.refl _ _).alloc (Nat.le_refl _) _
 have hz1 : W1.heap.size = w.heap.size + 1 := by rw [hW1]; simp
 have hz2 : W2.heap.size = w.heap.size + 2 := by rw [hW2]; simp [hz1]
 have HE : Hid (w.heap.size < W2.heap.size /\ W1.heap.size < W2.heap.size /\ W2.cell? ⟨w.heap.size, 0, none⟩ = some (.pointer (some ⟨b, 0, none⟩)) /\ W2.cell? ⟨W1.heap.size, 0, none⟩ = some (.int .i64 r) /\ Below w.heap.size w W2 /\ w.heap.size <= w.heap.size /\ w.heap.size <= W1.heap.size) :=
  ⟨by omega, by omega, (hb2.cell (p := ⟨w.heap.size, 0, none⟩) (by show w.heap.size < W1.heap.size; omega)).trans (by simp [World.cell?, hs1]), by simp [World.cell?, hs2], hb1.trans (hb2.mono (by omega)), Nat.le_refl _, by omega⟩
 have HZ := hid hz1
 clear hs1 hs2 hb1 hb2 hz1 hz2
 go_enter Tryz.func54, Tryz.ntmps54
 go_wp2_with fail
 go_ret
 refine ⟨_, _, rfl, ?_⟩
 rw [hW2, hW1] at HE
 have := HE.out
 rw [<- hW1, HZ.out] at this
 rw [hW1] at this
 exact this
theorem powq_any (p b B0 B1 cap : Nat) (r : Int) (a : Option Addr) (zs : List Int) (w : World) (h3 : 3 <= p) (hm : p <= 2147483647) (hp : w.cell? ⟨b, 0, none⟩ = some (.int .i64 p)) (h0 : w.cell? ⟨B0, 0, none⟩ = some (.pointer (some ⟨b, 0, none⟩))) (h1 : w.cell? ⟨B1, 0, none⟩ = some (.int .i64 r))
  (hn : zs.length <= 281474976710656) (hfit : Fits zs) (hr1 : -9223372036854775808 <= r) (hr2 : r <= 9223372036854775807) (hrow : RowB w.heap.size w a zs) :
  Calls Tryz.prog 107 #[.slice a zs.length cap, .pointer (some ⟨B0, 0, none⟩), .pointer (some ⟨B1, 0, none⟩)] w fun e w' => e = .returned (.int .i64 (evz p zs r)) /\ Below w.heap.size w w' := by
 have HE := hid (eval_any p b cap (· < w.heap.size) a zs r w h3 hm hp hn hfit hr1 hr2 (hrow.p (fun _ h => h)))
 generalize evz p zs r = E at *
 generalize zs.length = n at *
 clear hfit hrow
 go_enter Tryz.func107, Tryz.ntmps107
 go_wp2_with fail
 refine HE.out.mono ?_
 rintro e w1 ⟨rfl, n1, rfl⟩
 go_wp2_with fail
 go_ret
 exact ⟨rfl, below_drewN (Below.refl _ _) n1⟩
theorem newr_of_owns {w : World} {base : Nat} {v : Value} {zs : List Int} (h : w.ownsRow base 3 1 v zs.length (zs.map (Value.int .i64))) : ∃ a cap, v = .slice a zs.length cap /\ Lst w.heap.size w a cap zs /\ NewR base w a zs := by
 obtain ⟨a, cap, e, l⟩ := lst_of_owns h
 refine ⟨a, cap, e, l, fun k hk => ?_⟩
 obtain ⟨b, o, e1, e2, e3⟩ := l.row k hk
 have := h.lt b (by rw [e, e1]; rfl)
 exact ⟨b, o, e1, this, e3⟩
structure ExQ (w : World) (lo B0 B1 b : Nat) (L : List Int) : Prop where
 f : w.cell? ⟨B0, 0, none⟩ = some (.pointer (some ⟨b, 0, none⟩))
 lo0 : lo <= B0
 lo1 : lo <= B1
 w' : ∃ aw cw, w.cell? ⟨B1, 0, none⟩ = some (.slice aw L.length cw) /\ Lst w.heap.size w aw cw L /\ NewR lo w aw L
theorem ExQ.blocks {w W : World} {lo B0 B1 b : Nat} {L : List Int} (h : ExQ w lo B0 B1 b L) (hs : w.heap.size <= W.heap.size) (e : ∀ k, lo <= k -> k < w.heap.size -> W.heap[k]? = w.heap[k]?) : ExQ W lo B0 B1 b L := by
 obtain ⟨h1, l0, l1, aw, cw, h2, h3, h4⟩ := h
 have hc : ∀ {x : Addr} {v : Value}, lo <= x.block -> w.cell? x = some v -> W.cell? x = some v := fun {x v} hl hx => (World.cell?_of_block (w := w) (e x.block hl (World.block_lt_of_cell? _ _ hx))).trans hx
 exact ⟨hc l0 h1, l0, l1, aw, cw, hc l1 h2, ⟨fun k hk => by
  obtain ⟨b', o', e1, e2, e3⟩ := h4 k hk
  exact ⟨b', o', e1, Nat.lt_of_lt_of_le e2.2 hs, hc e2.1 e3⟩, h3.room, h3.nil⟩, fun k hk => by
  obtain ⟨b', o', e1, e2, e3⟩ := h4 k hk
  exact ⟨b', o', e1, ⟨e2.1, Nat.lt_of_lt_of_le e2.2 hs⟩, hc e2.1 e3⟩⟩
theorem ExQ.below {w W : World} {lo B0 B1 b : Nat} {L : List Int} (h : ExQ w lo B0 B1 b L) (e : Below w.heap.size w W) : ExQ W lo B0 B1 b L := h.blocks e.size (fun k _ hk => e.block k hk)
theorem extend_any (p b cap : Nat) (y : Value) (hi lo : Int) (a : Option Addr) (at' : List Int) (w : World) (h3 : 3 <= p) (hm : p <= 2147483647) (hp : w.cell? ⟨b, 0, none⟩ = some (.int .i64 p)) (hv : at'.length <= 12) (hf : Fits at') (hr : RowB w.heap.size w a at') :
  Calls Tryz.prog 34 #[.agg #[.pointer (some ⟨b, 0, none⟩), y, .int .i64 hi, .int .i64 lo], .slice a at'.length cap] w fun e w' => ∃ B0 B1, e = .returned (.func (.func 85) #[] #[.pointer (some ⟨B0, 0, none⟩), .pointer (some ⟨B1, 0, none⟩)]) /\ ExQ w' w.heap.size B0 B1 b (wgL p at') /\ Below w.heap.size w w' := by
 obtain ⟨W1, hW1⟩ : ∃ W1, W1 = w.alloc (.cells #[.pointer (some ⟨b, 0, none⟩), y, .int .i64 hi, .int .i64 lo] 87) := ⟨_, rfl⟩
 obtain ⟨G, hG⟩ : ∃ G, G = w.heap.size := ⟨_, rfl⟩
 have hb1 : Below w.heap.size w W1 := by rw [hW1]; exact (Below.refl _ _).alloc (Nat.le_refl _) _
 have hs1 : W1.heap[G]? = some (.cells #[.pointer (some ⟨b, 0, none⟩), y, .int .i64 hi, .int .i64 lo] 87 (0, 0)) := by rw [hW1, hG]; exact heap_alloc_new w _
 have HWG := hid (weights_any p b cap y hi lo a at' W1 h3 hm ((hb1.cell (p := ⟨b, 0, none⟩) (heap_lt hp)).trans hp) hv hf ((hr.below hb1).mono hb1.size))
 have HEX : Hid (∀ (W : World) (v : Value), Below W1.heap.size W1 W -> W.ownsRow W1.heap.size 3 1 v (wgL p at').length ((wgL p at').map (Value.int .i64)) -> ExQ (W.alloc (.cells #[v] 22)) w.heap.size G W.heap.size b (wgL p at') /\ Below w.heap.size w (W.alloc (.cells #[v] 22))) := fun W v hW ho => by
  have hb2 : Below W.heap.size W (W.alloc (.cells #[v] 22)) := (Below.refl _ _).alloc (Nat.le_refl _) _
  obtain ⟨aw, cw, rfl, hl, hnw⟩ := newr_of_owns ho
  have e1 := (hb2.block G (Nat.lt_of_lt_of_le (Array.getElem?_eq_some_iff.1 hs1).1 hW.size)).trans ((hW.block G (Array.getElem?_eq_some_iff.1 hs1).1).trans hs1)
  have e2 := heap_alloc_new W (.cells #[.slice aw (wgL p at').length cw] 22)
  generalize W.alloc (.cells #[.slice aw (wgL p at').length cw] 22) = W2 at *
  exact ⟨⟨by simp [World.cell?, e1], by omega, Nat.le_trans hb1.size hW.size, aw, cw, by simp [World.cell?, e2], (hl.below hb2).mono hb2.size, fun k hk => by
   obtain ⟨b', o', e1, e2, e3⟩ := hnw k hk
   exact ⟨b', o', e1, ⟨Nat.le_trans hb1.size e2.1, Nat.lt_of_lt_of_le e2.2 hb2.size⟩, (hb2.cell (p := ⟨b', o' + k, none⟩) e2.2).trans e3⟩⟩, (hb1.trans (hW.mono hb1.size)).trans (hb2.mono (Nat.le_trans hb1.size hW.size))⟩
 have g0 : W1.cell? ⟨G, 0, none⟩ = some (.pointer (some ⟨b, 0, none⟩)) := by simp [World.cell?, hs1]
 have g1 : W1.cell? ⟨G, 1, none⟩ = some y := by simp [World.cell?, hs1]
 have g2 : W1.cell? ⟨G, 2, none⟩ = some (.int .i64 hi) := by simp [World.cell?, hs1]
 have g3 : W1.cell? ⟨G, 3, none⟩ = some (.int .i64 lo) := by simp [World.cell?, hs1]
 generalize at'.length = n at *
 have HW1 := hid hW1
 have HG := hid hG
 clear hp hr hf hs1 hb1 hW1 hG hv
 go_enter Tryz.func34, Tryz.ntmps34
 go_wp2_with fail
 rw [<- HG.out, <- HW1.out]
 clear HW1 HG g0 g1 g2 g3
 refine HWG.out.mono ?_
 rintro e w2 ⟨v, rfl, ho, hb2⟩
 have HX := hid (HEX.out w2 v hb2 ho)
 obtain ⟨aw, cw, rfl, _⟩ := lst_of_owns ho
 clear HEX ho hb2 HWG
 generalize (wgL p at').length = m at *
 go_wp2_with fail
 go_ret
 exact ⟨_, _, rfl, HX.out⟩
theorem extq_any (p b lo B0 B1 cap : Nat) (a : Option Addr) (zs L : List Int) (w : World) (h3 : 3 <= p) (hm : p <= 2147483647) (hp : w.cell? ⟨b, 0, none⟩ = some (.int .i64 p)) (hX : ExQ w lo B0 B1 b L) (hn : zs.length <= L.length) (hn2 : zs.length <= 281474976710656) (hf : Fits zs) (hfL : Fits L) (hr : RowB w.heap.size w a zs) :
  Calls Tryz.prog 85 #[.slice a zs.length cap, .pointer (some ⟨B0, 0, none⟩), .pointer (some ⟨B1, 0, none⟩)] w fun e w' => e = .returned (.int .i64 (dtz p zs.length zs L)) /\ Below w.heap.size w w' := by
 have hmx : Tryz.prog.follows .mixedOrders = true := by kernel_rfl
 obtain ⟨hx0, _, _, aw, cw, hx1, hlw, _⟩ := hX
 have HR1 := hid hr
 have HR2 := hid hlw.row
 have HF1 := hid hf
 have HF2 := hid hfL
 have HKP : Hid (∀ W, Below w.heap.size w W -> W.cell? ⟨B0, 0, none⟩ = some (.pointer (some ⟨b, 0, none⟩)) /\ W.cell? ⟨B1, 0, none⟩ = some (.slice aw L.length cw) /\ W.cell? ⟨b, 0, none⟩ = some (.int .i64 p)) := fun W hW =>
  ⟨(hW.cell (p := ⟨B0, 0, none⟩) (heap_lt hx0)).trans hx0, (hW.cell (p := ⟨B1, 0, none⟩) (heap_lt hx1)).trans hx1, (hW.cell (p := ⟨b, 0, none⟩) (heap_lt hp)).trans hp⟩
 obtain ⟨n, hnn⟩ : ∃ n, n = zs.length := ⟨_, rfl⟩
 obtain ⟨m, hmm⟩ : ∃ m, m = L.length := ⟨_, rfl⟩
 rw [<- hnn, <- hmm] at hn
 rw [<- hnn] at hn2 ⊢
 rw [<- hmm] at HKP
 have HN := hid hnn
 have HM := hid hmm
 obtain ⟨S, hS⟩ : ∃ S : Nat -> Int, S = fun k => dtz p k zs L := ⟨_, rfl⟩
 have HS1 : Hid (∀ k, (S k + zat zs k * zat L k % (p : Int)) % (p : Int) = S (k + 1)) := fun k => by rw [hS]; exact dtz_succ p k zs L
 have HS2 : Hid (∀ k, 0 <= S k /\ S k < p) := fun k => by rw [hS]; exact dtz_bounds p k zs L h3
 have HS0 : Hid (S 0 = 0) := by unfold Hid; rw [hS]; exact dtz_zero p zs L
 rw [show dtz p n zs L = S n from by rw [hS]]
 clear hf hfL hr hlw hx0 hx1 hp hnn hmm hS
 go_enter Tryz.func85, Tryz.ntmps85
 go_wp2_with fail
 go_loopw [5, 10] (fun sv iv wr => ∃ k : Nat, k <= n /\ iv = .int .i64 (k : Int) /\ sv = .int .i64 (S k) /\ Hid (Below w.heap.size w wr)) (fun _ iv _ => n - (intOf iv).toNat)
 case atStart => exact ⟨0, by omega, rfl, by rw [HS0.out], Below.refl _ _⟩
 case round =>
  obtain ⟨k, hk, rfl, rfl, hI⟩ := hrel
  by_cases hlt : k < n
  ·have hlt2 : (k : Int) < (n : Int) := by omega
   have hlt3 : (k : Int) < (m : Int) := by omega
   have hks : IntKind.i64.wrap ((k : Int) + 1) = (k : Int) + 1 := by rw [IntKind.wrap_i64]; omega
   obtain ⟨b1, o1, rfl, hb1, x1⟩ := HR1.out k (by rw [<- HN.out]; exact hlt)
   obtain ⟨b2, o2, rfl, hb2, x2⟩ := HR2.out k (by rw [<- HM.out]; omega)
   have y1 := (hI.out.cell (p := ⟨b1, o1 + k, none⟩) hb1).trans x1
   have y2 := (hI.out.cell (p := ⟨b2, o2 + k, none⟩) hb2).trans x2
   obtain ⟨z1, z2, z3⟩ := HKP.out wr hI.out
   obtain ⟨f1, f2⟩ := HF1.out.all k
   obtain ⟨g1, g2⟩ := HF2.out.all k
   have s1 := HS2.out k
   have HS3 := hid (HS1.out k)
   have HMU := hid (mul_any p b (zat zs k) (zat L k) wr.drew h3 hm (HKP.out _ hI.out.drew).2.2 f1 f2 g1 g2)
   obtain ⟨t1, t2⟩ := emod_bounds (zat zs k * zat L k) p h3
   generalize zat zs k * zat L k % (p : Int) = t at *
   generalize zat zs k = x at *
   generalize zat L k = y at *
   have HAD := hid (add_any p b (S k) t wr.drew h3 hm (HKP.out _ hI.out.drew).2.2 (by omega) (by omega) (by omega) (by omega))
   rw [HS3.out] at HAD
   clear x1 x2 HS3
   go_wp2_with fail
   go_still_tail 12, hmx
   still_call HMU.out
   repeat still_step
   still_call HAD.out
   repeat still_step
   refine wpStill_nil ?_
   go_wp2_with fail
   go_roundw
   case rel => exact ⟨k + 1, by omega, by go_num, rfl, hI.out.drew⟩
   case measure => simp [intOf]; omega
  ·obtain rfl : k = n := by omega
   have hlt2 : ¬ (k : Int) < (k : Int) := by omega
   go_wp2_with fail
   go_ret
   exact ⟨rfl, hI.out⟩
end Go.Proofs.YtlhjifpomchnfaaGreatDoor
