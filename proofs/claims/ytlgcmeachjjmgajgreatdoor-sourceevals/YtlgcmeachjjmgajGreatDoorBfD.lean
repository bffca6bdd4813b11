/- The reference of programs as text: signs looked at. The reference of programs as text: needs looked at. The reference of programs as text: names looked at. -/
import Derived.Test.YtlgcmeachjjmgajGreatDoorBfC
namespace Go.Proofs.YtlgcmeachjjmgajGreatDoor
open Go.RowKit

set_option maxRecDepth 100000 in
set_option maxHeartbeats 4000000 in
theorem rlook_sign (V p nf c fuel R k : Nat) (a : Option Addr) (fs : List FnT) (Xs : List Nat) (h3 : 3 ≤ p) (h4 : p ≤ 2147483647) (hfu : fuel ≤ 1000000) (hnf : nf = fs.length) (_hnf4 : nf ≤ 4000) (_hFs : FsOk fs) (_hFW : ∀ g, g ∈ fs → FW g) (ih : LOK V p a nf c fuel fs Xs R) (kd : Nat) (nm : List UInt8) (at' nn : Nat) (kids : List Tr) (sc : List (List UInt8 × Int)) (x v : Value) (w : World)
    (hE : ReAt w V p a nf c fuel k 0) (hk : k < fuel) (hC : ECx V a fs Xs w) (hX : XTB (fun b => b < V) w (.node kd nm at' nn kids) x) (hTW : TW (.node kd nm at' nn kids)) (hV : VeP V w v sc) (hS : ScB p sc) (hL : lk (sgF fs) (.node kd nm at' nn kids) (sc.map (·.1)) = none) (q : ER Int) (hq : q = evl p fs fuel (R + 1) (.node kd nm at' nn kids) sc k) (hro : q ≠ .out) (hkd : 4 ≤ kd ∧ kd ≤ 8) :
    Calls Tryz.prog 61 #[.pointer (some ⟨V, 0, none⟩), x, v] w (LoE V p a nf c fuel q w) := by
  have hmx : Tryz.prog.follows .mixedOrders = true := by kernel_rfl
  obtain ⟨b, ax, cx, A, rfl, hb, hh, hA, hK⟩ := hX
  obtain ⟨vq, rfl⟩ := hV.form
  obtain ⟨hsh, hTs⟩ := hTW
  have hk12 := shp_lt hsh
  unfold evl at hq
  rw [if_neg (by omega)] at hq
  have q0 : ((bs (opS kd)).toList == [110, 117, 109, 98, 101, 114]) = decide (kd = 0) := by rw [bs_list]; exact op_number kd hk12
  have q1 : ((bs (opS kd)).toList == [110, 97, 109, 101]) = decide (kd = 1) := by rw [bs_list]; exact op_name kd hk12
  have q3 : ((bs (opS kd)).toList == [110, 101, 103]) = decide (kd = 3) := by rw [bs_list]; exact op_neg kd hk12
  have q9 : ((bs (opS kd)).toList == [108, 101, 116]) = decide (kd = 9) := by rw [bs_list]; exact op_let kd hk12
  have q11 : ((bs (opS kd)).toList == [105, 102]) = decide (kd = 11) := by rw [bs_list]; exact op_if kd hk12
  have q2 : ((bs (opS kd)).toList == [99, 97, 108, 108]) = decide (kd = 2) := by rw [bs_list]; exact op_call kd hk12
  have q10 : ((bs (opS kd)).toList == [110, 101, 101, 100]) = decide (kd = 10) := by rw [bs_list]; exact op_need kd hk12
  rw [decide_eq_false (by omega)] at q0
  rw [decide_eq_false (by omega)] at q1
  rw [decide_eq_false (by omega)] at q3
  rw [decide_eq_false (by omega)] at q9
  rw [decide_eq_false (by omega)] at q11
  rw [decide_eq_false (by omega)] at q2
  rw [decide_eq_false (by omega)] at q10
  have e0 : w.cell? ⟨b, 0, none⟩ = some (.string (bs (opS kd))) := by simp [World.cell?, hh]
  have e1 : w.cell? ⟨b, 1, none⟩ = some (.string (bs nm)) := by simp [World.cell?, hh]
  have e2 : w.cell? ⟨b, 2, none⟩ = some (.int .i64 (nn : Int)) := by simp [World.cell?, hh]
  have e4 : w.cell? ⟨b, 4, none⟩ = some (.slice ax kids.length cx) := by simp [World.cell?, hh]
  have c3 := hE.c3
  have c4 := hE.c4
  have c2 := hE.c2
  have y3 := hE.fz 3
  have hVl := hE.lt
  have qk : ((k : Int) == (fuel : Int)) = false := by simp; omega
  have hw1 : IntKind.i64.wrap ((k : Int) + 1) = (k : Int) + 1 := by rw [IntKind.wrap_i64]; omega
  have HWD : Hid (∀ en w', LoE V p a nf c fuel q w en w' → LoE V p a nf c fuel q w en w') := fun _ _ h => h
  have HKK : Hid (∀ (W : World), Fr V w W → ∀ (i : Nat) (t : Tr), kids[i]? = some t → ∃ g vb, ax = some ⟨g, 0, none⟩ ∧ W.cell? ⟨g, i, none⟩ = some (.pointer (some ⟨vb, 0, none⟩)) ∧ XTB (fun b => b < V) W t (.pointer (some ⟨vb, 0, none⟩)) ∧ TW t) := fun W hW i t ht => by
    obtain ⟨g, v, h1, h2, h5, h6⟩ := XTBs_at hK ht
    obtain ⟨vb, rfl⟩ := h6.form
    rw [Nat.zero_add] at h5
    exact ⟨g, vb, h1, hW.cell (by omega) h5, h6.fr hW, hTs.at ht⟩
  have HXB : Hid (∀ (W : World), Fr V w W → W.heap[b]? = some (.cells #[.string (bs (opS kd)), .string (bs nm), .int .i64 (nn : Int), .int .i64 A, .slice ax kids.length cx] 166 (0, 0))) := fun W hW => (hW.2 b (Array.getElem?_eq_some_iff.1 hh).1 (by omega)).trans hh
  have HW1 : Hid (∀ nq, ReAt ((w.drewN nq).setCell ⟨V, 3, none⟩ (.int .i64 ((k : Int) + 1))) V p a nf c fuel (k + 1) 0 ∧ Fr V w ((w.drewN nq).setCell ⟨V, 3, none⟩ (.int .i64 ((k : Int) + 1)))) := fun nq => ⟨(show ReAt (w.drewN nq) V p a nf c fuel k 0 from hE).s3 (k + 1), (frN V nq w).set 3 _⟩
  have HIH := hid ih
  have HCX := hid hC
  have HVV := hid hV
  have HSB := hid hS
  have HQ := hid hq
  have HRO := hid hro
  have HLK := hid hL
  have HSH := hid hsh
  have hbV : ¬ b = V := by omega
  have HNF := hid hnf
  have HKF : Hid (k < fuel) := hk
  have HP3 := hid h3
  have HP4 := hid h4
  have HRK := hid (fun (r : ER Int) (z0 z1 : Int) (hz0 : 0 ≤ z0 ∧ z0 < (p : Int)) (hz1 : 0 ≤ z1 ∧ z1 < (p : Int)) (W : World) (hE : EW W V p a nf c fuel r) => rrk_any V p nf c fuel a r h3 h4 kd (by omega) (by omega) z0 z1 hz0 hz1 W hE)
  generalize bs (opS kd) = op at *
  clear hE hk hC hK hTs hV hS hL hq hro ih hh hA hsh hnf
  go_enter Tryz.func61, Tryz.ntmps61
  go_wp2_with fail
  go_quiet (fail)
  obtain ⟨hE1, hF1⟩ := HW1.out nq
  have y3' : (w.drewN nq).frozen? ⟨V, 3, none⟩ = false := y3
  have c3' : (w.drewN nq).cell? ⟨V, 3, none⟩ = some (.int .i64 (k : Int)) := c3
  obtain ⟨w1, hw1'⟩ : ∃ w1, (w.drewN nq).setCell ⟨V, 3, none⟩ (.int .i64 ((k : Int) + 1)) = w1 := ⟨_, rfl⟩
  rw [hw1'] at hE1 hF1
  have HE1 := hid hE1
  have HF1 := hid hF1
  have hh1 := HXB.out w1 hF1
  have f0 : w1.cell? ⟨b, 0, none⟩ = some (.string op) := by simp [World.cell?, hh1]
  have f1 : w1.cell? ⟨b, 1, none⟩ = some (.string (bs nm)) := by simp [World.cell?, hh1]
  have f2 : w1.cell? ⟨b, 2, none⟩ = some (.int .i64 (nn : Int)) := by simp [World.cell?, hh1]
  have f4 : w1.cell? ⟨b, 4, none⟩ = some (.slice ax kids.length cx) := by simp [World.cell?, hh1]
  have g0 := hE1.c0
  have g1 := hE1.c1
  have g4 := hE1.c4
  have HC1 := hid (HCX.out.fr hF1)
  have HV1 := hid (HVV.out.fr hF1)
  clear hE1 hF1 hh1 c2 c4 y3 c3 e0 e1 e2 e4 HCX HVV qk
  have HLK2 : Hid (∀ (j : Nat) (t : Tr), kids[j]? = some t → lk (sgF fs) t (if kd = 9 ∧ j = 1 then nm :: sc.map (·.1) else sc.map (·.1)) = none) := fun j t ht => by
    have hlk := HLK.out
    rw [lk] at hlk
    split at hlk
    · cases hlk
    · have := lks_at kids 0 hlk j t ht
      rwa [Nat.zero_add] at this
  obtain ⟨t0, t1, hkids⟩ : ∃ t0 t1, kids = [t0, t1] := by
    have hm : kids.length = 2 := by rcases HSH.out with h | h | h | h | h | h | h <;> omega
    match kids, hm with
    | [t0, t1], _ => exact ⟨t0, t1, rfl⟩
  subst hkids
  obtain ⟨g, _, hax, -⟩ := HKK.out w1 HF1.out 0 t0 rfl
  subst hax
  clear f4
  have HG1 : Hid (Fr V w1 w1) := Fr.refl V w1
  have HK0 : Hid (∀ (W : World), Fr V w1 W → ∃ vb, W.cell? ⟨g, 0, none⟩ = some (.pointer (some ⟨vb, 0, none⟩)) ∧ XTB (fun b => b < V) W t0 (.pointer (some ⟨vb, 0, none⟩)) ∧ TW t0) := fun W hW => by
    obtain ⟨g', vb, h1, h2, h3, h4⟩ := HKK.out W (HF1.out.trans hW) 0 t0 rfl
    injection h1 with h1
    injection h1 with h1 _ _
    subst h1
    exact ⟨vb, h2, h3, h4⟩
  have HK1 : Hid (∀ (W : World), Fr V w1 W → ∃ vb, W.cell? ⟨g, 1, none⟩ = some (.pointer (some ⟨vb, 0, none⟩)) ∧ XTB (fun b => b < V) W t1 (.pointer (some ⟨vb, 0, none⟩)) ∧ TW t1) := fun W hW => by
    obtain ⟨g', vb, h1, h2, h3, h4⟩ := HKK.out W (HF1.out.trans hW) 1 t1 rfl
    injection h1 with h1
    injection h1 with h1 _ _
    subst h1
    exact ⟨vb, h2, h3, h4⟩
  have hq := HQ.out
  rw [if_neg (by omega), if_neg (by omega), if_neg (by omega)] at hq
  simp only [if_neg (show ¬ kd = 9 by omega)] at hq
  obtain ⟨r1, hr1⟩ : ∃ r1 : ER Int, r1 = evl p fs fuel R t0 sc (k + 1) := ⟨_, rfl⟩
  rw [← hr1] at hq
  have HQ2 := hid hq
  clear hq
  obtain ⟨vb0, hcg0, hx, ht⟩ := HK0.out w1 HG1.out
  have fk1 : w1.cell? ⟨b, 4, none⟩ = some (.slice (some ⟨g, 0, none⟩) 2 cx) := by simp [World.cell?, HXB.out _ (HF1.out.trans HG1.out)]
  have HC := hid (HIH.out (Unit) (.val () (k + 1)) t0 sc _ _ w1 ⟨HE1.out, by have := HKF.out; omega⟩ (HC1.out.fr HG1.out) hx ht (HV1.out.fr HG1.out) HSB.out (by have := HLK2.out 0 t0 rfl; rwa [if_neg (by omega)] at this) (show evl p fs fuel R t0 sc (k + 1) ≠ .out from fun e => HRO.out (by rw [HQ2.out, hr1, e]; rfl)))
  rw [show ((ER.val () (k + 1) : ER Unit).bind fun _ k => evl p fs fuel R t0 sc k) = r1 from hr1.symm] at HC
  clear hr1
  clear hx ht
  go_wp2_with fail
  refine HC.out.mono ?_
  rintro en w2 ⟨z0, rfl, hz0, hf, hm, hv⟩
  have HG2 := hid (HG1.out.trans hf)
  have HM2 := hid hm
  have HZ2 := hid hv
  clear hf hm hv HC hcg0 fk1
  obtain ⟨r2, hr2⟩ : ∃ r2 : ER Int, r2 = r1.bind fun _ k => evl p fs fuel R t1 sc k := ⟨_, rfl⟩
  have HQ3 : Hid (q = r2.bind fun y k => rknS p kd z0 y k) := by
    unfold Hid
    rw [HQ2.out, ER.bind_is HZ2.out, hr2, ER.bind_bind]
  clear HQ2
  obtain ⟨vb1, hcg1, hx, ht⟩ := HK1.out w2 HG2.out
  have fk2 : w2.cell? ⟨b, 4, none⟩ = some (.slice (some ⟨g, 0, none⟩) 2 cx) := by simp [World.cell?, HXB.out _ (HF1.out.trans HG2.out)]
  have HC := hid (HIH.out (Int) (r1) t1 sc _ _ w2 HM2.out (HC1.out.fr HG2.out) hx ht (HV1.out.fr HG2.out) HSB.out (by have := HLK2.out 1 t1 rfl; rwa [if_neg (by omega)] at this) (by rw [← hr2]; exact ER.bind_ne (by rw [← HQ3.out]; exact HRO.out)))
  rw [← hr2] at HC
  clear hr2
  clear hx ht
  go_wp2_with fail
  refine HC.out.mono ?_
  rintro en w3 ⟨z1, rfl, hz1, hf, hm, hv⟩
  have HG3 := hid (HG2.out.trans hf)
  have HM3 := hid hm
  have HZ3 := hid hv
  clear hf hm hv HC hcg1 fk2
  have HC := hid (HRK.out r2 z0 z1 hz0 hz1 w3 HM3.out)
  rw [show (r2.bind fun _ k => rknS p kd z0 z1 k) = q from (HQ3.out.trans (ER.bind_is HZ3.out _)).symm] at HC
  have fk0 : w3.cell? ⟨b, 0, none⟩ = some (.string op) := by simp [World.cell?, HXB.out _ (HF1.out.trans HG3.out)]
  go_wp2_with fail
  refine HC.out.mono ?_
  rintro en w4 ⟨z, rfl, hb4, hf, hm, hv⟩
  have HE : Hid (LoE V p a nf c fuel q w (.returned (.int .i64 z)) w4) := ⟨_, rfl, hb4, HF1.out.trans (HG3.out.trans hf), hm, hv⟩
  clear hf hm hv hb4 HC
  go_wp2_with fail
  go_ret
  exact HWD.out _ _ HE.out

end Go.Proofs.YtlgcmeachjjmgajGreatDoor

namespace Go.Proofs.YtlgcmeachjjmgajGreatDoor
open Go.RowKit

set_option maxRecDepth 100000 in
set_option maxHeartbeats 4000000 in
theorem rlook_need (V p nf c fuel R k : Nat) (a : Option Addr) (fs : List FnT) (Xs : List Nat) (h3 : 3 ≤ p) (h4 : p ≤ 2147483647) (hfu : fuel ≤ 1000000) (hnf : nf = fs.length) (_hnf4 : nf ≤ 4000) (_hFs : FsOk fs) (_hFW : ∀ g, g ∈ fs → FW g) (ih : LOK V p a nf c fuel fs Xs R) (kd : Nat) (nm : List UInt8) (at' nn : Nat) (kids : List Tr) (sc : List (List UInt8 × Int)) (x v : Value) (w : World)
    (hE : ReAt w V p a nf c fuel k 0) (hk : k < fuel) (hC : ECx V a fs Xs w) (hX : XTB (fun b => b < V) w (.node kd nm at' nn kids) x) (hTW : TW (.node kd nm at' nn kids)) (hV : VeP V w v sc) (hS : ScB p sc) (hL : lk (sgF fs) (.node kd nm at' nn kids) (sc.map (·.1)) = none) (q : ER Int) (hq : q = evl p fs fuel (R + 1) (.node kd nm at' nn kids) sc k) (hro : q ≠ .out) (hkd : kd = 10) :
    Calls Tryz.prog 61 #[.pointer (some ⟨V, 0, none⟩), x, v] w (LoE V p a nf c fuel q w) := by
  have hmx : Tryz.prog.follows .mixedOrders = true := by kernel_rfl
  obtain ⟨b, ax, cx, A, rfl, hb, hh, hA, hK⟩ := hX
  obtain ⟨vq, rfl⟩ := hV.form
  obtain ⟨hsh, hTs⟩ := hTW
  have hk12 := shp_lt hsh
  unfold evl at hq
  rw [if_neg (by omega)] at hq
  have q0 : ((bs (opS kd)).toList == [110, 117, 109, 98, 101, 114]) = decide (kd = 0) := by rw [bs_list]; exact op_number kd hk12
  have q1 : ((bs (opS kd)).toList == [110, 97, 109, 101]) = decide (kd = 1) := by rw [bs_list]; exact op_name kd hk12
  have q3 : ((bs (opS kd)).toList == [110, 101, 103]) = decide (kd = 3) := by rw [bs_list]; exact op_neg kd hk12
  have q9 : ((bs (opS kd)).toList == [108, 101, 116]) = decide (kd = 9) := by rw [bs_list]; exact op_let kd hk12
  have q11 : ((bs (opS kd)).toList == [105, 102]) = decide (kd = 11) := by rw [bs_list]; exact op_if kd hk12
  have q2 : ((bs (opS kd)).toList == [99, 97, 108, 108]) = decide (kd = 2) := by rw [bs_list]; exact op_call kd hk12
  have q10 : ((bs (opS kd)).toList == [110, 101, 101, 100]) = decide (kd = 10) := by rw [bs_list]; exact op_need kd hk12
  rw [decide_eq_false (by omega)] at q0
  rw [decide_eq_false (by omega)] at q1
  rw [decide_eq_false (by omega)] at q3
  rw [decide_eq_false (by omega)] at q9
  rw [decide_eq_false (by omega)] at q11
  rw [decide_eq_false (by omega)] at q2
  rw [decide_eq_true hkd] at q10
  have e0 : w.cell? ⟨b, 0, none⟩ = some (.string (bs (opS kd))) := by simp [World.cell?, hh]
  have e1 : w.cell? ⟨b, 1, none⟩ = some (.string (bs nm)) := by simp [World.cell?, hh]
  have e2 : w.cell? ⟨b, 2, none⟩ = some (.int .i64 (nn : Int)) := by simp [World.cell?, hh]
  have e4 : w.cell? ⟨b, 4, none⟩ = some (.slice ax kids.length cx) := by simp [World.cell?, hh]
  have c3 := hE.c3
  have c4 := hE.c4
  have c2 := hE.c2
  have y3 := hE.fz 3
  have hVl := hE.lt
  have qk : ((k : Int) == (fuel : Int)) = false := by simp; omega
  have hw1 : IntKind.i64.wrap ((k : Int) + 1) = (k : Int) + 1 := by rw [IntKind.wrap_i64]; omega
  have HWD : Hid (∀ en w', LoE V p a nf c fuel q w en w' → LoE V p a nf c fuel q w en w') := fun _ _ h => h
  have HKK : Hid (∀ (W : World), Fr V w W → ∀ (i : Nat) (t : Tr), kids[i]? = some t → ∃ g vb, ax = some ⟨g, 0, none⟩ ∧ W.cell? ⟨g, i, none⟩ = some (.pointer (some ⟨vb, 0, none⟩)) ∧ XTB (fun b => b < V) W t (.pointer (some ⟨vb, 0, none⟩)) ∧ TW t) := fun W hW i t ht => by
    obtain ⟨g, v, h1, h2, h5, h6⟩ := XTBs_at hK ht
    obtain ⟨vb, rfl⟩ := h6.form
    rw [Nat.zero_add] at h5
    exact ⟨g, vb, h1, hW.cell (by omega) h5, h6.fr hW, hTs.at ht⟩
  have HXB : Hid (∀ (W : World), Fr V w W → W.heap[b]? = some (.cells #[.string (bs (opS kd)), .string (bs nm), .int .i64 (nn : Int), .int .i64 A, .slice ax kids.length cx] 166 (0, 0))) := fun W hW => (hW.2 b (Array.getElem?_eq_some_iff.1 hh).1 (by omega)).trans hh
  have HW1 : Hid (∀ nq, ReAt ((w.drewN nq).setCell ⟨V, 3, none⟩ (.int .i64 ((k : Int) + 1))) V p a nf c fuel (k + 1) 0 ∧ Fr V w ((w.drewN nq).setCell ⟨V, 3, none⟩ (.int .i64 ((k : Int) + 1)))) := fun nq => ⟨(show ReAt (w.drewN nq) V p a nf c fuel k 0 from hE).s3 (k + 1), (frN V nq w).set 3 _⟩
  have HIH := hid ih
  have HCX := hid hC
  have HVV := hid hV
  have HSB := hid hS
  have HQ := hid hq
  have HRO := hid hro
  have HLK := hid hL
  have HSH := hid hsh
  have hbV : ¬ b = V := by omega
  have HNF := hid hnf
  have HKF : Hid (k < fuel) := hk
  have HP3 := hid h3
  have HP4 := hid h4

  generalize bs (opS kd) = op at *
  clear hE hk hC hK hTs hV hS hL hq hro ih hh hA hsh hnf
  go_enter Tryz.func61, Tryz.ntmps61
  go_wp2_with fail
  go_quiet (fail)
  obtain ⟨hE1, hF1⟩ := HW1.out nq
  have y3' : (w.drewN nq).frozen? ⟨V, 3, none⟩ = false := y3
  have c3' : (w.drewN nq).cell? ⟨V, 3, none⟩ = some (.int .i64 (k : Int)) := c3
  obtain ⟨w1, hw1'⟩ : ∃ w1, (w.drewN nq).setCell ⟨V, 3, none⟩ (.int .i64 ((k : Int) + 1)) = w1 := ⟨_, rfl⟩
  rw [hw1'] at hE1 hF1
  have HE1 := hid hE1
  have HF1 := hid hF1
  have hh1 := HXB.out w1 hF1
  have f0 : w1.cell? ⟨b, 0, none⟩ = some (.string op) := by simp [World.cell?, hh1]
  have f1 : w1.cell? ⟨b, 1, none⟩ = some (.string (bs nm)) := by simp [World.cell?, hh1]
  have f2 : w1.cell? ⟨b, 2, none⟩ = some (.int .i64 (nn : Int)) := by simp [World.cell?, hh1]
  have f4 : w1.cell? ⟨b, 4, none⟩ = some (.slice ax kids.length cx) := by simp [World.cell?, hh1]
  have g0 := hE1.c0
  have g1 := hE1.c1
  have g4 := hE1.c4
  have HC1 := hid (HCX.out.fr hF1)
  have HV1 := hid (HVV.out.fr hF1)
  clear hE1 hF1 hh1 c2 c4 y3 c3 e0 e1 e2 e4 HCX HVV qk
  have HLK2 : Hid (∀ (j : Nat) (t : Tr), kids[j]? = some t → lk (sgF fs) t (if kd = 9 ∧ j = 1 then nm :: sc.map (·.1) else sc.map (·.1)) = none) := fun j t ht => by
    have hlk := HLK.out
    rw [lk] at hlk
    split at hlk
    · cases hlk
    · have := lks_at kids 0 hlk j t ht
      rwa [Nat.zero_add] at this
  obtain ⟨t0, t1, t2, hkids⟩ : ∃ t0 t1 t2, kids = [t0, t1, t2] := by
    have hm : kids.length = 3 := by rcases HSH.out with h | h | h | h | h | h | h <;> omega
    match kids, hm with
    | [t0, t1, t2], _ => exact ⟨t0, t1, t2, rfl⟩
  subst hkids
  obtain ⟨g, _, hax, -⟩ := HKK.out w1 HF1.out 0 t0 rfl
  subst hax
  clear f4
  have HG1 : Hid (Fr V w1 w1) := Fr.refl V w1
  have HK0 : Hid (∀ (W : World), Fr V w1 W → ∃ vb, W.cell? ⟨g, 0, none⟩ = some (.pointer (some ⟨vb, 0, none⟩)) ∧ XTB (fun b => b < V) W t0 (.pointer (some ⟨vb, 0, none⟩)) ∧ TW t0) := fun W hW => by
    obtain ⟨g', vb, h1, h2, h3, h4⟩ := HKK.out W (HF1.out.trans hW) 0 t0 rfl
    injection h1 with h1
    injection h1 with h1 _ _
    subst h1
    exact ⟨vb, h2, h3, h4⟩
  have HK1 : Hid (∀ (W : World), Fr V w1 W → ∃ vb, W.cell? ⟨g, 1, none⟩ = some (.pointer (some ⟨vb, 0, none⟩)) ∧ XTB (fun b => b < V) W t1 (.pointer (some ⟨vb, 0, none⟩)) ∧ TW t1) := fun W hW => by
    obtain ⟨g', vb, h1, h2, h3, h4⟩ := HKK.out W (HF1.out.trans hW) 1 t1 rfl
    injection h1 with h1
    injection h1 with h1 _ _
    subst h1
    exact ⟨vb, h2, h3, h4⟩
  have HK2 : Hid (∀ (W : World), Fr V w1 W → ∃ vb, W.cell? ⟨g, 2, none⟩ = some (.pointer (some ⟨vb, 0, none⟩)) ∧ XTB (fun b => b < V) W t2 (.pointer (some ⟨vb, 0, none⟩)) ∧ TW t2) := fun W hW => by
    obtain ⟨g', vb, h1, h2, h3, h4⟩ := HKK.out W (HF1.out.trans hW) 2 t2 rfl
    injection h1 with h1
    injection h1 with h1 _ _
    subst h1
    exact ⟨vb, h2, h3, h4⟩
  have hq := HQ.out
  rw [if_neg (by omega), if_neg (by omega), if_neg (by omega)] at hq
  simp only [if_pos hkd] at hq
  obtain ⟨r1, hr1⟩ : ∃ r1 : ER Int, r1 = evl p fs fuel R t0 sc (k + 1) := ⟨_, rfl⟩
  rw [← hr1] at hq
  have HQ2 := hid hq
  clear hq
  obtain ⟨vb0, hcg0, hx, ht⟩ := HK0.out w1 HG1.out
  have fk1 : w1.cell? ⟨b, 4, none⟩ = some (.slice (some ⟨g, 0, none⟩) 3 cx) := by simp [World.cell?, HXB.out _ (HF1.out.trans HG1.out)]
  have HC := hid (HIH.out (Unit) (.val () (k + 1)) t0 sc _ _ w1 ⟨HE1.out, by have := HKF.out; omega⟩ (HC1.out.fr HG1.out) hx ht (HV1.out.fr HG1.out) HSB.out (by have := HLK2.out 0 t0 rfl; rwa [if_neg (by omega)] at this) (show evl p fs fuel R t0 sc (k + 1) ≠ .out from fun e => HRO.out (by rw [HQ2.out, hr1, e]; rfl)))
  rw [show ((ER.val () (k + 1) : ER Unit).bind fun _ k => evl p fs fuel R t0 sc k) = r1 from hr1.symm] at HC
  clear hr1
  clear hx ht
  go_wp2_with fail
  refine HC.out.mono ?_
  rintro en w2 ⟨z0, rfl, hz0, hf, hm, hv⟩
  have HG2 := hid (HG1.out.trans hf)
  have HM2 := hid hm
  have HZ2 := hid hv
  clear hf hm hv HC hcg0 fk1
  obtain ⟨r2, hr2⟩ : ∃ r2 : ER Int, r2 = r1.bind fun _ k => evl p fs fuel R t1 sc k := ⟨_, rfl⟩
  have HQ3 : Hid (q = r2.bind fun y k => if z0 = y then evl p fs fuel R t2 sc k else .stop 7) := by
    unfold Hid
    rw [HQ2.out, ER.bind_is HZ2.out, hr2, ER.bind_bind]
  clear HQ2
  obtain ⟨vb1, hcg1, hx, ht⟩ := HK1.out w2 HG2.out
  have fk2 : w2.cell? ⟨b, 4, none⟩ = some (.slice (some ⟨g, 0, none⟩) 3 cx) := by simp [World.cell?, HXB.out _ (HF1.out.trans HG2.out)]
  have HC := hid (HIH.out (Int) (r1) t1 sc _ _ w2 HM2.out (HC1.out.fr HG2.out) hx ht (HV1.out.fr HG2.out) HSB.out (by have := HLK2.out 1 t1 rfl; rwa [if_neg (by omega)] at this) (by rw [← hr2]; exact ER.bind_ne (by rw [← HQ3.out]; exact HRO.out)))
  rw [← hr2] at HC
  clear hr2
  clear hx ht
  go_wp2_with fail
  refine HC.out.mono ?_
  rintro en w3 ⟨z1, rfl, hz1, hf, hm, hv⟩
  have HG3 := hid (HG2.out.trans hf)
  have HM3 := hid hm
  have HZ3 := hid hv
  clear hf hm hv HC hcg1 fk2
  have HQ4 : Hid (q = r2.bind fun _ k => if z0 = z1 then evl p fs fuel R t2 sc k else .stop 7) := by
    unfold Hid
    rw [HQ3.out, ER.bind_is HZ3.out]
  have fk0 : w3.cell? ⟨b, 0, none⟩ = some (.string op) := by simp [World.cell?, HXB.out _ (HF1.out.trans HG3.out)]
  clear HQ3
  by_cases hz : z0 = z1
  · have bz : (z0 != z1) = false := by simp [hz]
    have HQ5 : Hid (q = r2.bind fun _ k => evl p fs fuel R t2 sc k) := by
      unfold Hid
      rw [HQ4.out]
      exact congrArg r2.bind (funext fun _ => funext fun k => if_pos hz)
    clear hz HQ4
    obtain ⟨vb2, hcg2, hx, ht⟩ := HK2.out w3 HG3.out
    have fk3 : w3.cell? ⟨b, 4, none⟩ = some (.slice (some ⟨g, 0, none⟩) 3 cx) := by simp [World.cell?, HXB.out _ (HF1.out.trans HG3.out)]
    have HC := hid (HIH.out (Int) (r2) t2 sc _ _ w3 HM3.out (HC1.out.fr HG3.out) hx ht (HV1.out.fr HG3.out) HSB.out (by have := HLK2.out 2 t2 rfl; rwa [if_neg (by omega)] at this) (by rw [← HQ5.out]; exact HRO.out))
    rw [← HQ5.out] at HC
    clear hx ht
    go_wp2_with fail
    refine HC.out.mono ?_
    rintro en w4 ⟨z2, rfl, hz2, hf, hm, hv⟩
    have HG4 := hid (HG3.out.trans hf)
    have HM4 := hid hm
    have HZ4 := hid hv
    clear hf hm hv HC hcg2 fk3
    have HE : Hid (LoE V p a nf c fuel q w (.returned (.int .i64 z2)) w4) := ⟨_, rfl, hz2, HF1.out.trans HG4.out, HM4.out, HZ4.out⟩
    go_wp2_with fail
    go_ret
    exact HWD.out _ _ HE.out
  · have bz : (z0 != z1) = true := by simp [hz]
    have HQ5 : Hid (q = r2.bind fun _ _ => .stop 7) := by
      unfold Hid
      rw [HQ4.out]
      exact congrArg r2.bind (funext fun _ => funext fun k => if_neg hz)
    clear hz HQ4 HZ3
    cases r2 with
    | out => exact HM3.out.elim
    | stop er =>
      have c4 : w3.cell? ⟨V, 4, none⟩ = some (.int .i64 (er : Int)) := by obtain ⟨_, k, h⟩ := HM3.out; exact h.c4
      have b2 : ((er : Int) == 0) = false := by have := HM3.out.1; simp; omega
      obtain ⟨vb2, hcg2, hx, ht⟩ := HK2.out w3 HG3.out
      have fk3 : w3.cell? ⟨b, 4, none⟩ = some (.slice (some ⟨g, 0, none⟩) 3 cx) := by simp [World.cell?, HXB.out _ (HF1.out.trans HG3.out)]
      have HC := hid (HIH.out (Int) (ER.stop er) t2 sc _ _ w3 HM3.out (HC1.out.fr HG3.out) hx ht (HV1.out.fr HG3.out) HSB.out (by have := HLK2.out 2 t2 rfl; rwa [if_neg (by omega)] at this) (show (ER.stop er : ER Int) ≠ .out from fun h => nomatch h))
      rw [show ((ER.stop er : ER Int).bind fun _ k => evl p fs fuel R t2 sc k) = q from HQ5.out.symm] at HC
      clear hx ht
      go_wp2_with fail
      refine HC.out.mono ?_
      rintro en w4 ⟨z2, rfl, hz2, hf, hm, hv⟩
      have HG4 := hid (HG3.out.trans hf)
      have HM4 := hid hm
      have HZ4 := hid hv
      clear hf hm hv HC hcg2 fk3
      have HE : Hid (LoE V p a nf c fuel q w (.returned (.int .i64 z2)) w4) := ⟨_, rfl, hz2, HF1.out.trans HG4.out, HM4.out, HZ4.out⟩
      go_wp2_with fail
      go_ret
      exact HWD.out _ _ HE.out
    | val x k3 =>
      obtain ⟨hR, hkf⟩ := HM3.out
      have c4 := hR.c4
      have y4 := hR.fz 4
      have hR4 := hR.s4 7
      have hG4 := HG3.out.set 4 (.int .i64 7)
      obtain ⟨w4, hw4⟩ : ∃ w4, w3.setCell ⟨V, 4, none⟩ (.int .i64 7) = w4 := ⟨_, rfl⟩
      have hG4' : Fr V w1 w4 := hw4 ▸ hG4
      have hR4' : ReAt w4 V p a nf c fuel k3 7 := hw4 ▸ hR4
      have HG4 := hid hG4'
      have HR4 := hid hR4'
      clear hR hR4 hG4 hG4' hR4' hkf
      obtain ⟨vb2, hcg2, hx, ht⟩ := HK2.out w4 HG4.out
      have fk4 : w4.cell? ⟨b, 4, none⟩ = some (.slice (some ⟨g, 0, none⟩) 3 cx) := by simp [World.cell?, HXB.out _ (HF1.out.trans HG4.out)]
      have HC := hid (HIH.out (Int) (ER.stop 7) t2 sc _ _ w4 ⟨by decide, _, HR4.out⟩ (HC1.out.fr HG4.out) hx ht (HV1.out.fr HG4.out) HSB.out (by have := HLK2.out 2 t2 rfl; rwa [if_neg (by omega)] at this) (show (ER.stop 7 : ER Int) ≠ .out from fun h => nomatch h))
      rw [show ((ER.stop 7 : ER Int).bind fun _ k => evl p fs fuel R t2 sc k) = q from HQ5.out.symm] at HC
      clear hx ht
      go_wp2_with fail
      refine HC.out.mono ?_
      rintro en w5 ⟨z2, rfl, hz2, hf, hm, hv⟩
      have HG5 := hid (HG4.out.trans hf)
      have HM5 := hid hm
      have HZ5 := hid hv
      clear hf hm hv HC hcg2 fk4
      have HE : Hid (LoE V p a nf c fuel q w (.returned (.int .i64 z2)) w5) := ⟨_, rfl, hz2, HF1.out.trans HG5.out, HM5.out, HZ5.out⟩
      go_wp2_with fail
      go_ret
      exact HWD.out _ _ HE.out

end Go.Proofs.YtlgcmeachjjmgajGreatDoor

namespace Go.Proofs.YtlgcmeachjjmgajGreatDoor
open Go.RowKit

theorem VeP.same {V : Nat} {w : World} : ∀ {v : Value} {l l' : List (List UInt8 × Int)}, VeP V w v l → VeP V w v l' → l.length = l'.length
  | _, [], [], _, _ => rfl
  | _, [], _ :: _, h, k => by
    obtain ⟨b, u, k1, _⟩ := k
    rw [show _ = Value.pointer none from h] at k1
    cases k1
  | _, _ :: _, [], h, k => by
    obtain ⟨b, u, h1, _⟩ := h
    rw [show _ = Value.pointer none from k] at h1
    cases h1
  | _, _ :: _, _ :: _, h, k => by
    obtain ⟨b, u, h1, _, h2, h3⟩ := h
    obtain ⟨b', u', k1, _, k2, k3⟩ := k
    rw [h1] at k1
    injection k1 with k1
    injection k1 with k1
    injection k1 with k1 _ _
    subst k1
    rw [h2] at k2
    injection k2 with k2
    injection k2 with k2 _ _
    simp only [Array.mk.injEq, List.cons.injEq] at k2
    obtain ⟨_, _, e, _⟩ := k2
    injection e with e
    subst e
    simp [VeP.same h3 k3]
open Classical in
/-- how many names stand for something -/
noncomputable def vel (V : Nat) (w : World) (v : Value) : Nat := if h : ∃ l, VeP V w v l then (Classical.choose h).length else 0
theorem vel_eq {V : Nat} {w : World} {v : Value} {l : List (List UInt8 × Int)} (h : VeP V w v l) : vel V w v = l.length := by
  unfold vel
  have hx : ∃ l, VeP V w v l := ⟨l, h⟩
  rw [dif_pos hx]
  exact VeP.same (Classical.choose_spec hx) h

set_option maxRecDepth 100000 in
set_option maxHeartbeats 4000000 in
theorem rlook_name (V p nf c fuel R k : Nat) (a : Option Addr) (fs : List FnT) (Xs : List Nat) (h3 : 3 ≤ p) (h4 : p ≤ 2147483647) (hfu : fuel ≤ 1000000) (hnf : nf = fs.length) (_hnf4 : nf ≤ 4000) (_hFs : FsOk fs) (_hFW : ∀ g, g ∈ fs → FW g) (ih : LOK V p a nf c fuel fs Xs R) (kd : Nat) (nm : List UInt8) (at' nn : Nat) (kids : List Tr) (sc : List (List UInt8 × Int)) (x v : Value) (w : World)
    (hE : ReAt w V p a nf c fuel k 0) (hk : k < fuel) (hC : ECx V a fs Xs w) (hX : XTB (fun b => b < V) w (.node kd nm at' nn kids) x) (hTW : TW (.node kd nm at' nn kids)) (hV : VeP V w v sc) (hS : ScB p sc) (hL : lk (sgF fs) (.node kd nm at' nn kids) (sc.map (·.1)) = none) (q : ER Int) (hq : q = evl p fs fuel (R + 1) (.node kd nm at' nn kids) sc k) (hro : q ≠ .out) (hkd : kd = 1) :
    Calls Tryz.prog 61 #[.pointer (some ⟨V, 0, none⟩), x, v] w (LoE V p a nf c fuel q w) := by
  have hmx : Tryz.prog.follows .mixedOrders = true := by kernel_rfl
  obtain ⟨b, ax, cx, A, rfl, hb, hh, hA, hK⟩ := hX
  obtain ⟨vq, rfl⟩ := hV.form
  obtain ⟨hsh, hTs⟩ := hTW
  have hk12 := shp_lt hsh
  unfold evl at hq
  rw [if_neg (by omega)] at hq
  have q0 : ((bs (opS kd)).toList == [110, 117, 109, 98, 101, 114]) = decide (kd = 0) := by rw [bs_list]; exact op_number kd hk12
  have q1 : ((bs (opS kd)).toList == [110, 97, 109, 101]) = decide (kd = 1) := by rw [bs_list]; exact op_name kd hk12
  have q3 : ((bs (opS kd)).toList == [110, 101, 103]) = decide (kd = 3) := by rw [bs_list]; exact op_neg kd hk12
  have q9 : ((bs (opS kd)).toList == [108, 101, 116]) = decide (kd = 9) := by rw [bs_list]; exact op_let kd hk12
  have q11 : ((bs (opS kd)).toList == [105, 102]) = decide (kd = 11) := by rw [bs_list]; exact op_if kd hk12
  have q2 : ((bs (opS kd)).toList == [99, 97, 108, 108]) = decide (kd = 2) := by rw [bs_list]; exact op_call kd hk12
  have q10 : ((bs (opS kd)).toList == [110, 101, 101, 100]) = decide (kd = 10) := by rw [bs_list]; exact op_need kd hk12
  rw [decide_eq_false (by omega)] at q0
  rw [decide_eq_true hkd] at q1
  rw [decide_eq_false (by omega)] at q3
  rw [decide_eq_false (by omega)] at q9
  rw [decide_eq_false (by omega)] at q11
  rw [decide_eq_false (by omega)] at q2
  rw [decide_eq_false (by omega)] at q10
  have e0 : w.cell? ⟨b, 0, none⟩ = some (.string (bs (opS kd))) := by simp [World.cell?, hh]
  have e1 : w.cell? ⟨b, 1, none⟩ = some (.string (bs nm)) := by simp [World.cell?, hh]
  have e2 : w.cell? ⟨b, 2, none⟩ = some (.int .i64 (nn : Int)) := by simp [World.cell?, hh]
  have e4 : w.cell? ⟨b, 4, none⟩ = some (.slice ax kids.length cx) := by simp [World.cell?, hh]
  have c3 := hE.c3
  have c4 := hE.c4
  have c2 := hE.c2
  have y3 := hE.fz 3
  have hVl := hE.lt
  have qk : ((k : Int) == (fuel : Int)) = false := by simp; omega
  have hw1 : IntKind.i64.wrap ((k : Int) + 1) = (k : Int) + 1 := by rw [IntKind.wrap_i64]; omega
  have HWD : Hid (∀ en w', LoE V p a nf c fuel q w en w' → LoE V p a nf c fuel q w en w') := fun _ _ h => h
  have HKK : Hid (∀ (W : World), Fr V w W → ∀ (i : Nat) (t : Tr), kids[i]? = some t → ∃ g vb, ax = some ⟨g, 0, none⟩ ∧ W.cell? ⟨g, i, none⟩ = some (.pointer (some ⟨vb, 0, none⟩)) ∧ XTB (fun b => b < V) W t (.pointer (some ⟨vb, 0, none⟩)) ∧ TW t) := fun W hW i t ht => by
    obtain ⟨g, v, h1, h2, h5, h6⟩ := XTBs_at hK ht
    obtain ⟨vb, rfl⟩ := h6.form
    rw [Nat.zero_add] at h5
    exact ⟨g, vb, h1, hW.cell (by omega) h5, h6.fr hW, hTs.at ht⟩
  have HXB : Hid (∀ (W : World), Fr V w W → W.heap[b]? = some (.cells #[.string (bs (opS kd)), .string (bs nm), .int .i64 (nn : Int), .int .i64 A, .slice ax kids.length cx] 166 (0, 0))) := fun W hW => (hW.2 b (Array.getElem?_eq_some_iff.1 hh).1 (by omega)).trans hh
  have HW1 : Hid (∀ nq, ReAt ((w.drewN nq).setCell ⟨V, 3, none⟩ (.int .i64 ((k : Int) + 1))) V p a nf c fuel (k + 1) 0 ∧ Fr V w ((w.drewN nq).setCell ⟨V, 3, none⟩ (.int .i64 ((k : Int) + 1)))) := fun nq => ⟨(show ReAt (w.drewN nq) V p a nf c fuel k 0 from hE).s3 (k + 1), (frN V nq w).set 3 _⟩
  have HIH := hid ih
  have HCX := hid hC
  have HVV := hid hV
  have HSB := hid hS
  have HQ := hid hq
  have HRO := hid hro
  have HLK := hid hL
  have HSH := hid hsh
  have hbV : ¬ b = V := by omega
  have HNF := hid hnf
  have HKF : Hid (k < fuel) := hk
  have HP3 := hid h3
  have HP4 := hid h4

  generalize bs (opS kd) = op at *
  clear hE hk hC hK hTs hV hS hL hq hro ih hh hA hsh hnf
  go_enter Tryz.func61, Tryz.ntmps61
  go_wp2_with fail
  go_quiet (fail)
  obtain ⟨hE1, hF1⟩ := HW1.out nq
  have y3' : (w.drewN nq).frozen? ⟨V, 3, none⟩ = false := y3
  have c3' : (w.drewN nq).cell? ⟨V, 3, none⟩ = some (.int .i64 (k : Int)) := c3
  obtain ⟨w1, hw1'⟩ : ∃ w1, (w.drewN nq).setCell ⟨V, 3, none⟩ (.int .i64 ((k : Int) + 1)) = w1 := ⟨_, rfl⟩
  rw [hw1'] at hE1 hF1
  have HE1 := hid hE1
  have HF1 := hid hF1
  have hh1 := HXB.out w1 hF1
  have f0 : w1.cell? ⟨b, 0, none⟩ = some (.string op) := by simp [World.cell?, hh1]
  have f1 : w1.cell? ⟨b, 1, none⟩ = some (.string (bs nm)) := by simp [World.cell?, hh1]
  have f2 : w1.cell? ⟨b, 2, none⟩ = some (.int .i64 (nn : Int)) := by simp [World.cell?, hh1]
  have f4 : w1.cell? ⟨b, 4, none⟩ = some (.slice ax kids.length cx) := by simp [World.cell?, hh1]
  have g0 := hE1.c0
  have g1 := hE1.c1
  have g4 := hE1.c4
  have HC1 := hid (HCX.out.fr hF1)
  have HV1 := hid (HVV.out.fr hF1)
  clear hE1 hF1 hh1 c2 c4 y3 c3 e0 e1 e2 e4 HCX HVV qk
  have hq := HQ.out
  rw [if_neg (by omega), if_pos hkd] at hq
  obtain ⟨xr, hxr⟩ : ∃ xr, sc.find? (fun x => x.1 == nm) = some xr := by
    rcases find_mem sc nm with ⟨h, _⟩ | ⟨x, hx, _⟩
    · rw [h] at hq; exact absurd hq HRO.out
    · exact ⟨x, hx⟩
  rw [hxr] at hq
  have HQ2 : Hid (q = .val xr.2 (k + 1)) := hq
  have HXR := hid hxr
  have HXM : Hid (0 ≤ xr.2 ∧ xr.2 < (p : Int)) := HSB.out xr (List.mem_of_find?_eq_some hxr)
  have HNM : Hid ((bs nm).toList = nm) := bs_list nm
  generalize bs nm = ns at *
  clear hq hxr
  go_wp2_with fail
  go_loopw [2] (fun v wr => ∃ (s : List (List UInt8 × Int)), Hid (wr.heap = w1.heap ∧ Fr V w1 wr) ∧ Hid (VeP V w1 v s) ∧ Hid (s.find? (fun x => x.1 == nm) = some xr)) (fun v _ => vel V w1 v)
  case atStart => exact ⟨sc, ⟨rfl, Fr.refl V w1⟩, HV1, HXR⟩
  case round =>
    obtain ⟨s, HH, hr, hqr⟩ := hrel
    cases s with
    | nil => exact absurd hqr.out (by simp)
    | cons x r =>
      obtain ⟨vb, u, rfl, hvV, h2, h3⟩ := hr.out
      have c0 : wr.cell? ⟨vb, 0, none⟩ = some (.string (bs x.1)) := by simp [World.cell?, HH.out.1, h2]
      have c1 : wr.cell? ⟨vb, 1, none⟩ = some (.int .i64 x.2) := by simp [World.cell?, HH.out.1, h2]
      have c2 : wr.cell? ⟨vb, 2, none⟩ = some (.pointer u) := by simp [World.cell?, HH.out.1, h2]
      have f1' : wr.cell? ⟨b, 1, none⟩ = some (.string ns) := by have := f1; unfold World.cell? at this ⊢; rw [HH.out.1]; exact this
      have H3 := hid h3
      have hls := bs_list x.1
      have hsl := HNM.out
      have HSC := hid (vel_eq hr.out)
      clear h2 h3 hr
      by_cases hx : x.1 = nm
      · have t1 : (x.1 == nm) = true := by simpa using hx
        have t2 : (x.1 != nm) = false := by simp [hx]
        have HX : Hid (x = xr) := by
          have hq2 := hqr.out
          rw [List.find?_cons, t1] at hq2
          exact Option.some.inj hq2
        generalize bs x.1 = xs at *
        clear hx
        go_wp2_with fail
        go_quiet (fail)
        go_wp2_with fail
        go_ret
        refine HWD.out _ _ ⟨_, rfl, HX.out ▸ HXM.out, HF1.out.trans (HH.out.2.trans (frN V _ wr)), by rw [HQ2.out]; exact ⟨by show wr.heap[V]? = _; rw [HH.out.1]; exact HE1.out, by have := HKF.out; omega⟩, fun y k' h => by rw [HQ2.out] at h; injection h with h _; rw [HX.out]; exact h⟩
      · have t1 : (x.1 == nm) = false := by simpa using hx
        have t2 : (x.1 != nm) = true := by simp [hx]
        have HX : Hid (r.find? (fun x => x.1 == nm) = some xr) := by
          have hq2 := hqr.out
          rw [List.find?_cons, t1] at hq2
          exact hq2
        generalize bs x.1 = xs at *
        clear hx
        go_wp2_with fail
        go_quiet (fail)
        go_wp2_with fail
        go_round
        case rel => exact ⟨r, ⟨HH.out.1, HH.out.2.trans (frN V _ wr)⟩, H3, HX⟩
        case measure =>
          rw [HSC.out, vel_eq H3.out]
          simp

end Go.Proofs.YtlgcmeachjjmgajGreatDoor
