/- The reference of programs as text: names given looked at. The reference of programs as text: a function called. -/
import Derived.Test.YtlgcmeachjjmgajGreatDoorBfC
import Derived.Test.YtlgcmeachjjmgajGreatDoorBfA
namespace Go.Proofs.YtlgcmeachjjmgajGreatDoor
open Go.RowKit

set_option maxRecDepth 100000 in
set_option maxHeartbeats 4000000 in
theorem rlook_let (V p nf c fuel R k : Nat) (a : Option Addr) (fs : List FnT) (Xs : List Nat) (h3 : 3 ≤ p) (h4 : p ≤ 2147483647) (hfu : fuel ≤ 1000000) (hnf : nf = fs.length) (_hnf4 : nf ≤ 4000) (_hFs : FsOk fs) (_hFW : ∀ g, g ∈ fs → FW g) (ih : LOK V p a nf c fuel fs Xs R) (kd : Nat) (nm : List UInt8) (at' nn : Nat) (kids : List Tr) (sc : List (List UInt8 × Int)) (x v : Value) (w : World)
    (hE : ReAt w V p a nf c fuel k 0) (hk : k < fuel) (hC : ECx V a fs Xs w) (hX : XTB (fun b => b < V) w (.node kd nm at' nn kids) x) (hTW : TW (.node kd nm at' nn kids)) (hV : VeP V w v sc) (hS : ScB p sc) (hL : lk (sgF fs) (.node kd nm at' nn kids) (sc.map (·.1)) = none) (q : ER Int) (hq : q = evl p fs fuel (R + 1) (.node kd nm at' nn kids) sc k) (hro : q ≠ .out) (hkd : kd = 9) :
    Calls Tryz.prog 61 #[.pointer (some ⟨V, 0, none⟩), x, v] w (LoE V p a nf c fuel q w) := by
  have hmx : Tryz.prog.follows .mixedOrders = true := by kernel_rfl
  obtain ⟨b, ax, cx, A, rfl, hb, hh, hA, hK⟩ := hX
  obtain ⟨vq, rfl⟩ := hV.form
  obtain ⟨hsh, hTs⟩ := hTW
  have hk12 := shp_lt hsh
  unfold evl at hq
  rw [if_neg (by omega)] at hq
  have q0 : ((bs (opS kd)).toList == [110, 117, 109, 98, 101, 114]) = decide (kd = 0) := by rw [bs_list]; exact op_number kd hk12
  have q1 : ((bs (opS kd)).toList == [110, 97, 109, 101]) = decide (kd = 1) := by rw [bs_list]; exact op_name kd hk12
  have q3 : ((bs (opS kd)).toList == [110, 101, 103]) = decide (kd = 3) := by rw [bs_list]; exact op_neg kd hk12
  have q9 : ((bs (opS kd)).toList == [108, 101, 116]) = decide (kd = 9) := by rw [bs_list]; exact op_let kd hk12
  have q11 : ((bs (opS kd)).toList == [105, 102]) = decide (kd = 11) := by rw [bs_list]; exact op_if kd hk12
  have q2 : ((bs (opS kd)).toList == [99, 97, 108, 108]) = decide (kd = 2) := by rw [bs_list]; exact op_call kd hk12
  have q10 : ((bs (opS kd)).toList == [110, 101, 101, 100]) = decide (kd = 10) := by rw [bs_list]; exact op_need kd hk12
  rw [decide_eq_false (by omega)] at q0
  rw [decide_eq_false (by omega)] at q1
  rw [decide_eq_false (by omega)] at q3
  rw [decide_eq_true hkd] at q9
  rw [decide_eq_false (by omega)] at q11
  rw [decide_eq_false (by omega)] at q2
  rw [decide_eq_false (by omega)] at q10
  have e0 : w.cell? ⟨b, 0, none⟩ = some (.string (bs (opS kd))) := by simp [World.cell?, hh]
  have e1 : w.cell? ⟨b, 1, none⟩ = some (.string (bs nm)) := by simp [World.cell?, hh]
  have e2 : w.cell? ⟨b, 2, none⟩ = some (.int .i64 (nn : Int)) := by simp [World.cell?, hh]
  have e4 : w.cell? ⟨b, 4, none⟩ = some (.slice ax kids.length cx) := by simp [World.cell?, hh]
  have c3 := hE.c3
  have c4 := hE.c4
  have c2 := hE.c2
  have y3 := hE.fz 3
  have hVl := hE.lt
  have qk : ((k : Int) == (fuel : Int)) = false := by simp; omega
  have hw1 : IntKind.i64.wrap ((k : Int) + 1) = (k : Int) + 1 := by rw [IntKind.wrap_i64]; omega
  have HWD : Hid (∀ en w', LoE V p a nf c fuel q w en w' → LoE V p a nf c fuel q w en w') := fun _ _ h => h
  have HKK : Hid (∀ (W : World), Fr V w W → ∀ (i : Nat) (t : Tr), kids[i]? = some t → ∃ g vb, ax = some ⟨g, 0, none⟩ ∧ W.cell? ⟨g, i, none⟩ = some (.pointer (some ⟨vb, 0, none⟩)) ∧ XTB (fun b => b < V) W t (.pointer (some ⟨vb, 0, none⟩)) ∧ TW t) := fun W hW i t ht => by
    obtain ⟨g, v, h1, h2, h5, h6⟩ := XTBs_at hK ht
    obtain ⟨vb, rfl⟩ := h6.form
    rw [Nat.zero_add] at h5
    exact ⟨g, vb, h1, hW.cell (by omega) h5, h6.fr hW, hTs.at ht⟩
  have HXB : Hid (∀ (W : World), Fr V w W → W.heap[b]? = some (.cells #[.string (bs (opS kd)), .string (bs nm), .int .i64 (nn : Int), .int .i64 A, .slice ax kids.length cx] 166 (0, 0))) := fun W hW => (hW.2 b (Array.getElem?_eq_some_iff.1 hh).1 (by omega)).trans hh
  have HW1 : Hid (∀ nq, ReAt ((w.drewN nq).setCell ⟨V, 3, none⟩ (.int .i64 ((k : Int) + 1))) V p a nf c fuel (k + 1) 0 ∧ Fr V w ((w.drewN nq).setCell ⟨V, 3, none⟩ (.int .i64 ((k : Int) + 1)))) := fun nq => ⟨(show ReAt (w.drewN nq) V p a nf c fuel k 0 from hE).s3 (k + 1), (frN V nq w).set 3 _⟩
  have HIH := hid ih
  have HCX := hid hC
  have HVV := hid hV
  have HSB := hid hS
  have HQ := hid hq
  have HRO := hid hro
  have HLK := hid hL
  have HSH := hid hsh
  have hbV : ¬ b = V := by omega
  have HNF := hid hnf
  have HKF : Hid (k < fuel) := hk
  have HP3 := hid h3
  have HP4 := hid h4
  have HGN : Hid (∀ g, ax = some ⟨g, 0, none⟩ → ¬ g = V) := fun g hg => by
    have hm : kids.length = 2 := by rcases hsh with h | h | h | h | h | h | h <;> omega
    obtain ⟨g', v, h1, h2, _⟩ := XTBs_at hK (List.getElem?_eq_getElem (show 0 < kids.length by omega))
    rw [hg] at h1
    injection h1 with h1
    injection h1 with h1
    omega
  generalize bs (opS kd) = op at *
  clear hE hk hC hK hTs hV hS hL hq hro ih hh hA hsh hnf
  go_enter Tryz.func61, Tryz.ntmps61
  go_wp2_with fail
  go_quiet (fail)
  obtain ⟨hE1, hF1⟩ := HW1.out nq
  have y3' : (w.drewN nq).frozen? ⟨V, 3, none⟩ = false := y3
  have c3' : (w.drewN nq).cell? ⟨V, 3, none⟩ = some (.int .i64 (k : Int)) := c3
  obtain ⟨w1, hw1'⟩ : ∃ w1, (w.drewN nq).setCell ⟨V, 3, none⟩ (.int .i64 ((k : Int) + 1)) = w1 := ⟨_, rfl⟩
  rw [hw1'] at hE1 hF1
  have HE1 := hid hE1
  have HF1 := hid hF1
  have hh1 := HXB.out w1 hF1
  have f0 : w1.cell? ⟨b, 0, none⟩ = some (.string op) := by simp [World.cell?, hh1]
  have f1 : w1.cell? ⟨b, 1, none⟩ = some (.string (bs nm)) := by simp [World.cell?, hh1]
  have f2 : w1.cell? ⟨b, 2, none⟩ = some (.int .i64 (nn : Int)) := by simp [World.cell?, hh1]
  have f4 : w1.cell? ⟨b, 4, none⟩ = some (.slice ax kids.length cx) := by simp [World.cell?, hh1]
  have g0 := hE1.c0
  have g1 := hE1.c1
  have g4 := hE1.c4
  have HC1 := hid (HCX.out.fr hF1)
  have HV1 := hid (HVV.out.fr hF1)
  clear hE1 hF1 hh1 c2 c4 y3 c3 e0 e1 e2 e4 HCX HVV qk
  have HLK2 : Hid (∀ (j : Nat) (t : Tr), kids[j]? = some t → lk (sgF fs) t (if kd = 9 ∧ j = 1 then nm :: sc.map (·.1) else sc.map (·.1)) = none) := fun j t ht => by
    have hlk := HLK.out
    rw [lk] at hlk
    split at hlk
    · cases hlk
    · have := lks_at kids 0 hlk j t ht
      rwa [Nat.zero_add] at this
  obtain ⟨t0, t1, hkids⟩ : ∃ t0 t1, kids = [t0, t1] := by
    have hm : kids.length = 2 := by rcases HSH.out with h | h | h | h | h | h | h <;> omega
    match kids, hm with
    | [t0, t1], _ => exact ⟨t0, t1, rfl⟩
  subst hkids
  obtain ⟨g, _, hax, -⟩ := HKK.out w1 HF1.out 0 t0 rfl
  subst hax
  clear f4
  have HG1 : Hid (Fr V w1 w1) := Fr.refl V w1
  have HK0 : Hid (∀ (W : World), Fr V w1 W → ∃ vb, W.cell? ⟨g, 0, none⟩ = some (.pointer (some ⟨vb, 0, none⟩)) ∧ XTB (fun b => b < V) W t0 (.pointer (some ⟨vb, 0, none⟩)) ∧ TW t0) := fun W hW => by
    obtain ⟨g', vb, h1, h2, h3, h4⟩ := HKK.out W (HF1.out.trans hW) 0 t0 rfl
    injection h1 with h1
    injection h1 with h1 _ _
    subst h1
    exact ⟨vb, h2, h3, h4⟩
  have HK1 : Hid (∀ (W : World), Fr V w1 W → ∃ vb, W.cell? ⟨g, 1, none⟩ = some (.pointer (some ⟨vb, 0, none⟩)) ∧ XTB (fun b => b < V) W t1 (.pointer (some ⟨vb, 0, none⟩)) ∧ TW t1) := fun W hW => by
    obtain ⟨g', vb, h1, h2, h3, h4⟩ := HKK.out W (HF1.out.trans hW) 1 t1 rfl
    injection h1 with h1
    injection h1 with h1 _ _
    subst h1
    exact ⟨vb, h2, h3, h4⟩
  have hq := HQ.out
  rw [if_neg (by omega), if_neg (by omega), if_neg (by omega)] at hq
  simp only [if_pos hkd] at hq
  obtain ⟨r1, hr1⟩ : ∃ r1 : ER Int, r1 = evl p fs fuel R t0 sc (k + 1) := ⟨_, rfl⟩
  rw [← hr1] at hq
  have HQ2 := hid hq
  clear hq
  obtain ⟨vb0, hcg0, hx, ht⟩ := HK0.out w1 HG1.out
  have fk1 : w1.cell? ⟨b, 4, none⟩ = some (.slice (some ⟨g, 0, none⟩) 2 cx) := by simp [World.cell?, HXB.out _ (HF1.out.trans HG1.out)]
  have HC := hid (HIH.out (Unit) (.val () (k + 1)) t0 sc _ _ w1 ⟨HE1.out, by have := HKF.out; omega⟩ (HC1.out.fr HG1.out) hx ht (HV1.out.fr HG1.out) HSB.out (by have := HLK2.out 0 t0 rfl; rwa [if_neg (by omega)] at this) (show evl p fs fuel R t0 sc (k + 1) ≠ .out from fun e => HRO.out (by rw [HQ2.out, hr1, e]; rfl)))
  rw [show ((ER.val () (k + 1) : ER Unit).bind fun _ k => evl p fs fuel R t0 sc k) = r1 from hr1.symm] at HC
  clear hr1
  clear hx ht
  go_wp2_with fail
  refine HC.out.mono ?_
  rintro en w2 ⟨z0, rfl, hz0, hf, hm, hv⟩
  have HG2 := hid (HG1.out.trans hf)
  have HM2 := hid hm
  have HZ2 := hid hv
  clear hf hm hv HC hcg0 fk1
  have HQ3 : Hid (q = r1.bind fun _ k => evl p fs fuel R t1 ((nm, z0) :: sc) k) := by
    unfold Hid
    rw [HQ2.out, ER.bind_is HZ2.out]
  obtain ⟨w3, hw3⟩ : ∃ w3, w3 = (w2.alloc (.cells #[.string (bs nm), .int .i64 z0, .pointer vq] 151)).drew := ⟨_, rfl⟩
  have hV2 : V < w2.heap.size := HM2.out.lt
  have hB : Below w2.heap.size w2 w3 := by rw [hw3]; exact ((Below.refl w2.heap.size w2).alloc (Nat.le_refl _) _).drew
  have hn : w3.heap[w2.heap.size]? = some (.cells #[.string (bs nm), .int .i64 z0, .pointer vq] 151 (0, 0)) := by rw [hw3]; exact heap_alloc_new w2 _
  have HF3 := hid (Fr.below hB (Nat.le_of_lt hV2))
  have HGV := hid (HGN.out g rfl)
  have HG3 := hid (HG2.out.trans HF3.out)
  obtain ⟨vb1, hcg1, hx, ht⟩ := HK1.out w2 HG2.out
  have fk2 : w2.cell? ⟨b, 4, none⟩ = some (.slice (some ⟨g, 0, none⟩) 2 cx) := by simp [World.cell?, HXB.out _ (HF1.out.trans HG2.out)]
  have fn2 : w2.cell? ⟨b, 1, none⟩ = some (.string (bs nm)) := by simp [World.cell?, HXB.out _ (HF1.out.trans HG2.out)]
  have HS3 : Hid (w3.cell? ⟨b, 4, none⟩ = some (.slice (some ⟨g, 0, none⟩) 2 cx) ∧ w3.cell? ⟨g, 1, none⟩ = some (.pointer (some ⟨vb1, 0, none⟩)) ∧ w3.cell? ⟨b, 1, none⟩ = some (.string (bs nm))) := ⟨(hB.cell (p := ⟨b, 4, none⟩) (World.block_lt_of_cell? _ _ fk2)).trans fk2, (hB.cell (p := ⟨g, 1, none⟩) (World.block_lt_of_cell? _ _ hcg1)).trans hcg1, (hB.cell (p := ⟨b, 1, none⟩) (World.block_lt_of_cell? _ _ fn2)).trans fn2⟩
  have HC := hid (HIH.out Int r1 t1 ((nm, z0) :: sc) _ _ w3 (HM2.out.keep (hB.block _ hV2)) (HC1.out.fr HG3.out) (hx.fr HF3.out) ht (show VeP V w3 (.pointer (some ⟨w2.heap.size, 0, none⟩)) ((nm, z0) :: sc) from ⟨w2.heap.size, vq, rfl, by omega, hn, HV1.out.fr HG3.out⟩) (fun y hy => by
    rcases List.mem_cons.1 hy with rfl | hy
    · exact hz0
    · exact HSB.out y hy) (by have := HLK2.out 1 t1 rfl; rw [if_pos ⟨hkd, rfl⟩] at this; exact this) (by rw [← HQ3.out]; exact HRO.out))
  rw [← HQ3.out] at HC
  clear hx ht hn hB
  go_wp2_with fail
  clear hmx
  refine wp_region_held_drew (S := (fun W => W.cell? ⟨b, 4, none⟩ = some (.slice (some ⟨g, 0, none⟩) 2 cx) ∧ W.cell? ⟨g, 1, none⟩ = some (.pointer (some ⟨vb1, 0, none⟩)) ∧ W.cell? ⟨b, 1, none⟩ = some (.string (bs nm)))) (by kernel_rfl) ⟨fk2, hcg1, fn2⟩ (fun hHeld => ?_)
  refine wpAnyH_takeS (i := 0) (v := .pointer (some ⟨V, 0, none⟩)) rfl (by kernel_rfl) (by kernel_rfl) (by kernel_rfl) (fun _ _ _ h => h) (by rfl) (fun W hC => by go_simp) hHeld ?_
  simp only [Act.put, List.setIfInBounds_toArray, List.set_cons_zero, List.set_cons_succ]
  refine wpAnyH_takeS (i := 1) (v := .pointer (some ⟨b, 0, none⟩)) rfl (by kernel_rfl) (by kernel_rfl) (by kernel_rfl) (fun _ _ _ h => h) (by rfl) (fun W hC => by go_simp) hHeld ?_
  simp only [Act.put, List.setIfInBounds_toArray, List.set_cons_zero, List.set_cons_succ]
  refine wpAnyH_takeS (i := 2) (v := .pointer (some ⟨b, 0, none⟩)) rfl (by kernel_rfl) (by kernel_rfl) (by kernel_rfl) (fun _ _ _ h => h) (by rfl) (fun W hC => by go_simp) hHeld ?_
  simp only [Act.put, List.setIfInBounds_toArray, List.set_cons_zero, List.set_cons_succ]
  refine wpAnyH_takeS (i := 3) (v := .pointer (some ⟨b, 4, none⟩)) rfl (by kernel_rfl) (by kernel_rfl) (by kernel_rfl) (fun _ _ _ h => h) (by rfl) (fun W hC => by go_simp) hHeld ?_
  simp only [Act.put, List.setIfInBounds_toArray, List.set_cons_zero, List.set_cons_succ]
  refine wpAnyH_takeS (i := 4) (v := .slice (some ⟨g, 0, none⟩) 2 cx) rfl (by kernel_rfl) (by kernel_rfl) (by kernel_rfl) (fun _ _ _ h => h) (by rfl) (fun W hC => by (obtain ⟨y0, y1, y2⟩ := hC); go_simp) hHeld ?_
  simp only [Act.put, List.setIfInBounds_toArray, List.set_cons_zero, List.set_cons_succ]
  refine wpAnyH_takeS (i := 5) (v := .pointer (some ⟨g, 1, none⟩)) rfl (by kernel_rfl) (by kernel_rfl) (by kernel_rfl) (fun _ _ _ h => h) (by rfl) (fun W hC => by go_simp) hHeld ?_
  simp only [Act.put, List.setIfInBounds_toArray, List.set_cons_zero, List.set_cons_succ]
  refine wpAnyH_takeS (i := 6) (v := .pointer (some ⟨vb1, 0, none⟩)) rfl (by kernel_rfl) (by kernel_rfl) (by kernel_rfl) (fun _ _ _ h => h) (by rfl) (fun W hC => by (obtain ⟨y0, y1, y2⟩ := hC); go_simp) hHeld ?_
  simp only [Act.put, List.setIfInBounds_toArray, List.set_cons_zero, List.set_cons_succ]
  refine wpAnyH_takeS (i := 7) (v := .pointer (some ⟨b, 0, none⟩)) rfl (by kernel_rfl) (by kernel_rfl) (by kernel_rfl) (fun _ _ _ h => h) (by rfl) (fun W hC => by go_simp) hHeld ?_
  simp only [Act.put, List.setIfInBounds_toArray, List.set_cons_zero, List.set_cons_succ]
  refine wpAnyH_takeS (i := 8) (v := .pointer (some ⟨b, 0, none⟩)) rfl (by kernel_rfl) (by kernel_rfl) (by kernel_rfl) (fun _ _ _ h => h) (by rfl) (fun W hC => by go_simp) hHeld ?_
  simp only [Act.put, List.setIfInBounds_toArray, List.set_cons_zero, List.set_cons_succ]
  refine wpAnyH_takeS (i := 9) (v := .pointer (some ⟨b, 1, none⟩)) rfl (by kernel_rfl) (by kernel_rfl) (by kernel_rfl) (fun _ _ _ h => h) (by rfl) (fun W hC => by go_simp) hHeld ?_
  simp only [Act.put, List.setIfInBounds_toArray, List.set_cons_zero, List.set_cons_succ]
  refine wpAnyH_takeS (i := 10) (v := .string (bs nm)) rfl (by kernel_rfl) (by kernel_rfl) (by kernel_rfl) (fun _ _ _ h => h) (by rfl) (fun W hC => by (obtain ⟨y0, y1, y2⟩ := hC); go_simp) hHeld ?_
  simp only [Act.put, List.setIfInBounds_toArray, List.set_cons_zero, List.set_cons_succ]
  refine wpAnyH_takeS (i := 11) (v := .int .i64 z0) rfl (by kernel_rfl) (by kernel_rfl) (by kernel_rfl) (fun _ _ _ h => h) (by rfl) (fun W hC => by go_simp) hHeld ?_
  simp only [Act.put, List.setIfInBounds_toArray, List.set_cons_zero, List.set_cons_succ]
  refine wpAnyH_takeS (i := 12) (v := .pointer vq) rfl (by kernel_rfl) (by kernel_rfl) (by kernel_rfl) (fun _ _ _ h => h) (by rfl) (fun W hC => by go_simp) hHeld ?_
  simp only [Act.put, List.setIfInBounds_toArray, List.set_cons_zero, List.set_cons_succ]
  refine wpAnyH_takeS (i := 13) (v := .agg #[.string (bs nm), .int .i64 z0, .pointer vq]) rfl (by kernel_rfl) (by kernel_rfl) (by kernel_rfl) (fun _ _ _ h => h) (by rfl) (fun W hC => by go_simp) hHeld ?_
  simp only [Act.put, List.setIfInBounds_toArray, List.set_cons_zero, List.set_cons_succ]
  refine wpAnyH_ready (rs := [14]) (by kernel_rfl) (by simp) ?_
  refine AllReadyH.consS rfl (fun K hK => ?_) AllReadyH.nil
  go_simp
  rw [← hw3]
  refine hK.out _ _ HS3.out (fun hHeld => ?_)
  clear hK K hw3
  refine wpAnyH_ready (rs := [15]) (by kernel_rfl) (by simp) ?_
  refine AllReadyH.consS rfl (fun K hK => ?_) AllReadyH.nil
  go_simp
  refine HC.out.mono ?_
  rintro en w4 ⟨z1, rfl, hz1, hf, hm, hv⟩
  have HG4 := hid (HG3.out.trans hf)
  have HM4 := hid hm
  have HZ4 := hid hv
  refine hK.out _ _ ⟨hf.cell hbV HS3.out.1, hf.cell HGV.out HS3.out.2.1, hf.cell hbV HS3.out.2.2⟩ (fun hHeld => ?_)
  clear hf hm hv HC hK K
  refine wpAnyH_ready (rs := [16]) (by kernel_rfl) (by simp) ?_
  refine AllReadyH.consS rfl (fun K hK => ?_) AllReadyH.nil
  go_simp
  refine hK.out _ _ hHeld (fun _ => ?_)
  clear hK K hHeld
  refine wpAnyH_done (by kernel_rfl) ?_ _
  have HE : Hid (LoE V p a nf c fuel q w (.returned (.int .i64 z1)) w4) := ⟨_, rfl, hz1, HF1.out.trans HG4.out, HM4.out, HZ4.out⟩
  go_wp2_with fail
  go_ret
  exact HWD.out _ _ HE.out

end Go.Proofs.YtlgcmeachjjmgajGreatDoor

namespace Go.Proofs.YtlgcmeachjjmgajGreatDoor
open Go.RowKit

set_option maxRecDepth 100000 in
set_option maxHeartbeats 4000000 in
theorem rcl_any (V p nf c fuel R : Nat) (a : Option Addr) (fs : List FnT) (Xs : List Nat) (h3 : 3 ≤ p) (h4 : p ≤ 2147483647) (ih : LOK V p a nf c fuel fs Xs R) (α : Type) (r : ER α) (g : FnT) (X : Nat) (aa : Option Addr) (ca na : Nat) (zs : List Int) (w : World) (hE : EW w V p a nf c fuel r) (hC : ECx V a fs Xs w) (hX : RFnB (fun b => b < V) w g X) (hT : TW g.body)
    (hA : RowP (fun b => b ≠ V) w aa zs) (hAb : ∀ j, -9223372036854775808 ≤ zat zs j ∧ zat zs j ≤ 9223372036854775807) (hna : na = zs.length) (hal : zs.length = g.more.length) (h40 : g.more.length ≤ 4000) (hL : lk (sgF fs) g.body ((mnS p g.more zs g.more.length).map (·.1)) = none) (q : ER Int) (hq : q = r.bind fun _ k => evl p fs fuel R g.body (mnS p g.more zs g.more.length) k) (hro : q ≠ .out) :
    Calls Tryz.prog 32 #[.pointer (some ⟨V, 0, none⟩), .pointer (some ⟨X, 0, none⟩), .slice aa na ca] w (LoE V p a nf c fuel q w) := by
  have hmx : Tryz.prog.follows .mixedOrders = true := by kernel_rfl
  cases r with
  | out => exact hE.elim
  | stop er =>
    obtain ⟨he0, k, hR⟩ := hE
    have c4 := hR.c4
    have b2 : ((er : Int) != 0) = true := by simp; omega
    have HX : Hid (LoE V p a nf c fuel q w (.returned (.int .i64 0)) w) := by
      rw [hq]
      exact ⟨0, rfl, by omega, Fr.refl V w, ⟨he0, k, hR⟩, fun y k h => by cases h⟩
    clear hR he0 hX hA hC hq hro hL hT ih
    go_enter Tryz.func32, Tryz.ntmps32
    go_wp2_with fail
    go_ret
    exact HX.out
  | val x0 k =>
    obtain ⟨hR, hkf⟩ := hE
    have hV := hR.lt
    have c4 := hR.c4
    have c0 := hR.c0
    obtain ⟨am, cm, aw, cw, pb, hXV, hh, hcm, hB, hM, _⟩ := hX
    have x2 : w.cell? ⟨X, 2, none⟩ = some (.slice am g.more.length cm) := by simp [World.cell?, hh]
    have x4 : w.cell? ⟨X, 4, none⟩ = some (.pointer pb) := by simp [World.cell?, hh]
    have HC := hid hC
    have HBD := hid hB
    have HT := hid hT
    have HM := hid hM
    have HA := hid hA
    have HAB := hid hAb
    have HR := hid hR
    have HKF := hid hkf
    have HL := hid hL
    have HQ : Hid (q = (ER.val () k : ER Unit).bind fun _ k => evl p fs fuel R g.body (mnS p g.more zs g.more.length) k) := hq
    have HRO := hid hro
    have HIH := hid ih
    have HP3 := hid h3
    have HNA : Hid (na = g.more.length) := hna.trans hal
    have HZL : Hid (zs.length = na) := hna.symm
    have HSB := hid (mnS_bd p g.more zs h3)
    have hn4 : na ≤ 4000 := by omega
    have hxl : X < w.heap.size := (Array.getElem?_eq_some_iff.1 hh).1
    rw [← HNA.out] at x2
    clear hC hB hT hM hA hAb hR hkf hL hq hro ih hh hcm hna hal h40
    go_enter Tryz.func32, Tryz.ntmps32
    go_wp2_with fail
    go_loopw [7, 8] (fun v iv wr => ∃ (j : Nat) (ao : Option Addr), j ≤ na ∧ iv = .int .i64 j ∧ v = .pointer ao ∧ Hid (VeP V wr (.pointer ao) (mnS p g.more zs j)) ∧ Hid (Below w.heap.size w wr)) (fun _ iv _ => na - (intOf iv).toNat)
    case atStart => exact ⟨0, none, Nat.zero_le _, rfl, rfl, rfl, Below.refl _ _⟩
    case round =>
      obtain ⟨j, ao, hj, rfl, rfl, hve, hbel⟩ := hrel
      have d0 := (hbel.out.cell (p := ⟨V, 0, none⟩) hV).trans c0
      have d2 := (hbel.out.cell (p := ⟨X, 2, none⟩) hxl).trans x2
      have d4 := (hbel.out.cell (p := ⟨X, 4, none⟩) hxl).trans x4
      by_cases hlt : j < na
      · have hlt2 : (j : Int) < (na : Int) := by omega
        have hj0 : (0 : Int) ≤ (j : Int) := by omega
        have hks : IntKind.i64.wrap ((j : Int) + 1) = (j : Int) + 1 := by rw [IntKind.wrap_i64]; omega
        have hjm : j < g.more.length := by have := HNA.out; omega
        obtain ⟨x, hx⟩ : ∃ x, g.more[j]? = some x := ⟨_, List.getElem?_eq_getElem hjm⟩
        obtain ⟨kb, rfl, hkb, m0⟩ := HM.out j x hx
        obtain ⟨ab, o, rfl, hab, a0⟩ := HA.out j (by have := HZL.out; omega)
        have m1 := (hbel.out.cell (p := ⟨kb, j, none⟩) (World.block_lt_of_cell? _ _ m0)).trans m0
        have a1 := (hbel.out.cell (p := ⟨ab, o + j, none⟩) (World.block_lt_of_cell? _ _ a0)).trans a0
        have hzb := HAB.out j
        have HOF : Hid (∀ W, Calls Tryz.prog 60 #[.int .i64 p, .int .i64 (zat zs j)] W fun e w' => e = .returned (.int .i64 (zat zs j % (p : Int))) ∧ w' = W) := fun W => rof_any p _ W h3 h4 hzb.1 hzb.2
        have HMN : Hid (mnS p g.more zs (j + 1) = (x.1, zat zs j % (p : Int)) :: mnS p g.more zs j) := by unfold Hid; rw [mnS, hx]
        have hwV : wr.heap.size ≠ V := by have := hbel.out.size; omega
        have HWV := hid hwV
        generalize hxs : bs x.1 = xs at *
        have HXS := hid hxs
        generalize zat zs j = z at *
        generalize hzz : z % (p : Int) = zz at *
        clear hx m0 a0 hzb hxs hzz hwV
        go_wp2_with fail
        refine wp_region_still_lit hmx (by kernel_rfl) ?_
        (repeat still_step)
        still_call (HOF.out _)
        (repeat still_step)
        refine wpStill_nil ?_
        go_wp2_with fail
        go_roundw
        case rel =>
          have hB1 : Below wr.heap.size wr (wr.alloc (.cells #[.string xs, .int .i64 zz, .pointer ao] 151)).drew := ((Below.refl _ _).alloc (Nat.le_refl _) _).drew
          refine ⟨j + 1, some ⟨wr.heap.size, 0, none⟩, by omega, by go_num, rfl, ?_, ?_⟩
          · unfold Hid
            rw [HMN.out]
            exact ⟨wr.heap.size, ao, rfl, HWV.out, (heap_alloc_new wr _).trans (by rw [HXS.out]), hve.out.keep (fun b _ hl => hB1.block b hl)⟩
          · exact hbel.out.trans (hB1.mono hbel.out.size)
        case measure => simp [intOf]; omega
      · obtain rfl : j = na := by omega
        have hlt2 : ¬ (j : Int) < (j : Int) := by omega
        have hfr : Fr V w wr := Fr.below hbel.out (Nat.le_of_lt hV)
        have HFR := hid hfr
        have hve2 := hve.out
        rw [HNA.out] at hve2
        have HX := hid (HIH.out Unit (.val () k) g.body (mnS p g.more zs g.more.length) _ _ wr ⟨(hbel.out.block _ hV).trans HR.out, HKF.out⟩ (HC.out.fr hfr) (XTB.fr HBD.out hfr) HT.out hve2 (HSB.out _) HL.out (by rw [← HQ.out]; exact HRO.out))
        rw [← HQ.out] at HX
        clear hve2 hfr
        go_wp2_with fail
        refine HX.out.mono ?_
        rintro en w2 ⟨z, rfl, hz, hf, hm, hv⟩
        have HE : Hid (LoE V p a nf c fuel q w (.returned (.int .i64 z)) w2) := ⟨_, rfl, hz, HFR.out.trans hf, hm, hv⟩
        clear hz hf hm hv
        go_wp2_with fail
        go_ret
        exact HE.out

end Go.Proofs.YtlgcmeachjjmgajGreatDoor
