/- The reference of programs as text: numbers and signs looked at. The reference of programs as text: choices looked at. The reference of programs as text: what signs reckon, before a part is looked at. -/
import Derived.Test.YtlgcmeachjjmgajGreatDoorBfB
namespace Go.Proofs.YtlgcmeachjjmgajGreatDoor
open Go.RowKit

theorem EW.c0 {α : Type} {w : World} {V p : Nat} {a : Option Addr} {nf c fuel : Nat} {r : ER α} (h : EW w V p a nf c fuel r) : w.cell? ⟨V, 0, none⟩ = some (.int .i64 (p : Int)) := by
  cases r with
  | out => exact h.elim
  | stop er => obtain ⟨_, k, h⟩ := h; exact h.c0
  | val x k => exact h.1.c0

set_option maxRecDepth 100000 in
set_option maxHeartbeats 4000000 in
theorem rlook_num (V p nf c fuel R k : Nat) (a : Option Addr) (fs : List FnT) (Xs : List Nat) (h3 : 3 ≤ p) (h4 : p ≤ 2147483647) (hfu : fuel ≤ 1000000) (hnf : nf = fs.length) (_hnf4 : nf ≤ 4000) (_hFs : FsOk fs) (_hFW : ∀ g, g ∈ fs → FW g) (ih : LOK V p a nf c fuel fs Xs R) (kd : Nat) (nm : List UInt8) (at' nn : Nat) (kids : List Tr) (sc : List (List UInt8 × Int)) (x v : Value) (w : World)
    (hE : ReAt w V p a nf c fuel k 0) (hk : k < fuel) (hC : ECx V a fs Xs w) (hX : XTB (fun b => b < V) w (.node kd nm at' nn kids) x) (hTW : TW (.node kd nm at' nn kids)) (hV : VeP V w v sc) (hS : ScB p sc) (hL : lk (sgF fs) (.node kd nm at' nn kids) (sc.map (·.1)) = none) (q : ER Int) (hq : q = evl p fs fuel (R + 1) (.node kd nm at' nn kids) sc k) (hro : q ≠ .out) (hkd : kd = 0) :
    Calls Tryz.prog 61 #[.pointer (some ⟨V, 0, none⟩), x, v] w (LoE V p a nf c fuel q w) := by
  have hmx : Tryz.prog.follows .mixedOrders = true := by kernel_rfl
  obtain ⟨b, ax, cx, A, rfl, hb, hh, hA, hK⟩ := hX
  obtain ⟨vq, rfl⟩ := hV.form
  obtain ⟨hsh, hTs⟩ := hTW
  have hk12 := shp_lt hsh
  unfold evl at hq
  rw [if_neg (by omega)] at hq
  have q0 : ((bs (opS kd)).toList == [110, 117, 109, 98, 101, 114]) = decide (kd = 0) := by rw [bs_list]; exact op_number kd hk12
  have q1 : ((bs (opS kd)).toList == [110, 97, 109, 101]) = decide (kd = 1) := by rw [bs_list]; exact op_name kd hk12
  have q3 : ((bs (opS kd)).toList == [110, 101, 103]) = decide (kd = 3) := by rw [bs_list]; exact op_neg kd hk12
  have q9 : ((bs (opS kd)).toList == [108, 101, 116]) = decide (kd = 9) := by rw [bs_list]; exact op_let kd hk12
  have q11 : ((bs (opS kd)).toList == [105, 102]) = decide (kd = 11) := by rw [bs_list]; exact op_if kd hk12
  have q2 : ((bs (opS kd)).toList == [99, 97, 108, 108]) = decide (kd = 2) := by rw [bs_list]; exact op_call kd hk12
  have q10 : ((bs (opS kd)).toList == [110, 101, 101, 100]) = decide (kd = 10) := by rw [bs_list]; exact op_need kd hk12
  rw [decide_eq_true hkd] at q0
  rw [decide_eq_false (by omega)] at q1
  rw [decide_eq_false (by omega)] at q3
  rw [decide_eq_false (by omega)] at q9
  rw [decide_eq_false (by omega)] at q11
  rw [decide_eq_false (by omega)] at q2
  rw [decide_eq_false (by omega)] at q10
  have e0 : w.cell? ⟨b, 0, none⟩ = some (.string (bs (opS kd))) := by simp [World.cell?, hh]
  have e1 : w.cell? ⟨b, 1, none⟩ = some (.string (bs nm)) := by simp [World.cell?, hh]
  have e2 : w.cell? ⟨b, 2, none⟩ = some (.int .i64 (nn : Int)) := by simp [World.cell?, hh]
  have e4 : w.cell? ⟨b, 4, none⟩ = some (.slice ax kids.length cx) := by simp [World.cell?, hh]
  have c3 := hE.c3
  have c4 := hE.c4
  have c2 := hE.c2
  have y3 := hE.fz 3
  have hVl := hE.lt
  have qk : ((k : Int) == (fuel : Int)) = false := by simp; omega
  have hw1 : IntKind.i64.wrap ((k : Int) + 1) = (k : Int) + 1 := by rw [IntKind.wrap_i64]; omega
  have HWD : Hid (∀ en w', LoE V p a nf c fuel q w en w' → LoE V p a nf c fuel q w en w') := fun _ _ h => h
  have HKK : Hid (∀ (W : World), Fr V w W → ∀ (i : Nat) (t : Tr), kids[i]? = some t → ∃ g vb, ax = some ⟨g, 0, none⟩ ∧ W.cell? ⟨g, i, none⟩ = some (.pointer (some ⟨vb, 0, none⟩)) ∧ XTB (fun b => b < V) W t (.pointer (some ⟨vb, 0, none⟩)) ∧ TW t) := fun W hW i t ht => by
    obtain ⟨g, v, h1, h2, h5, h6⟩ := XTBs_at hK ht
    obtain ⟨vb, rfl⟩ := h6.form
    rw [Nat.zero_add] at h5
    exact ⟨g, vb, h1, hW.cell (by omega) h5, h6.fr hW, hTs.at ht⟩
  have HXB : Hid (∀ (W : World), Fr V w W → W.heap[b]? = some (.cells #[.string (bs (opS kd)), .string (bs nm), .int .i64 (nn : Int), .int .i64 A, .slice ax kids.length cx] 166 (0, 0))) := fun W hW => (hW.2 b (Array.getElem?_eq_some_iff.1 hh).1 (by omega)).trans hh
  have HW1 : Hid (∀ nq, ReAt ((w.drewN nq).setCell ⟨V, 3, none⟩ (.int .i64 ((k : Int) + 1))) V p a nf c fuel (k + 1) 0 ∧ Fr V w ((w.drewN nq).setCell ⟨V, 3, none⟩ (.int .i64 ((k : Int) + 1)))) := fun nq => ⟨(show ReAt (w.drewN nq) V p a nf c fuel k 0 from hE).s3 (k + 1), (frN V nq w).set 3 _⟩
  have HIH := hid ih
  have HCX := hid hC
  have HVV := hid hV
  have HSB := hid hS
  have HQ := hid hq
  have HRO := hid hro
  have HLK := hid hL
  have HSH := hid hsh
  have hbV : ¬ b = V := by omega
  have HNF := hid hnf
  have HKF : Hid (k < fuel) := hk
  have HP3 := hid h3
  have HP4 := hid h4
  have hn9 : nn ≤ 9223372036854775807 := by rcases hsh with h | h | h | h | h | h | h <;> omega
  have HOF : Hid (∀ W, Calls Tryz.prog 60 #[.int .i64 p, .int .i64 (nn : Int)] W fun e w' => e = .returned (.int .i64 ((nn : Int) % (p : Int))) ∧ w' = W) := fun W => rof_any p nn W h3 h4 (by omega) (by omega)
  have HMB : Hid (0 ≤ (nn : Int) % (p : Int) ∧ (nn : Int) % (p : Int) < (p : Int)) := ⟨Int.emod_nonneg _ (by omega), Int.emod_lt_of_pos _ (by omega)⟩
  have HQ2 : Hid (q = .val ((nn : Int) % (p : Int)) (k + 1)) := by unfold Hid; rw [hq, if_pos hkd]
  generalize bs (opS kd) = op at *
  clear hE hk hC hK hTs hV hS hL hq hro ih hh hA hsh hnf
  go_enter Tryz.func61, Tryz.ntmps61
  go_wp2_with fail
  go_quiet (fail)
  obtain ⟨hE1, hF1⟩ := HW1.out nq
  have y3' : (w.drewN nq).frozen? ⟨V, 3, none⟩ = false := y3
  have c3' : (w.drewN nq).cell? ⟨V, 3, none⟩ = some (.int .i64 (k : Int)) := c3
  obtain ⟨w1, hw1'⟩ : ∃ w1, (w.drewN nq).setCell ⟨V, 3, none⟩ (.int .i64 ((k : Int) + 1)) = w1 := ⟨_, rfl⟩
  rw [hw1'] at hE1 hF1
  have HE1 := hid hE1
  have HF1 := hid hF1
  have hh1 := HXB.out w1 hF1
  have f0 : w1.cell? ⟨b, 0, none⟩ = some (.string op) := by simp [World.cell?, hh1]
  have f1 : w1.cell? ⟨b, 1, none⟩ = some (.string (bs nm)) := by simp [World.cell?, hh1]
  have f2 : w1.cell? ⟨b, 2, none⟩ = some (.int .i64 (nn : Int)) := by simp [World.cell?, hh1]
  have f4 : w1.cell? ⟨b, 4, none⟩ = some (.slice ax kids.length cx) := by simp [World.cell?, hh1]
  have g0 := hE1.c0
  have g1 := hE1.c1
  have g4 := hE1.c4
  have HC1 := hid (HCX.out.fr hF1)
  have HV1 := hid (HVV.out.fr hF1)
  clear hE1 hF1 hh1 c2 c4 y3 c3 e0 e1 e2 e4 HCX HVV qk
  go_wp2_with fail
  refine wp_region_still_lit hmx (by kernel_rfl) ?_
  (repeat still_step)
  still_call (HOF.out _)
  (repeat still_step)
  refine wpStill_nil ?_
  go_wp2_with fail
  go_ret
  exact HWD.out _ _ ⟨_, rfl, HMB.out, HF1.out.trans ((Fr.refl V w1).drew), by rw [HQ2.out]; exact ⟨HE1.out, by have := HKF.out; omega⟩, fun y k' h => by rw [HQ2.out] at h; injection h⟩

set_option maxRecDepth 100000 in
set_option maxHeartbeats 4000000 in
theorem rlook_neg (V p nf c fuel R k : Nat) (a : Option Addr) (fs : List FnT) (Xs : List Nat) (h3 : 3 ≤ p) (h4 : p ≤ 2147483647) (hfu : fuel ≤ 1000000) (hnf : nf = fs.length) (_hnf4 : nf ≤ 4000) (_hFs : FsOk fs) (_hFW : ∀ g, g ∈ fs → FW g) (ih : LOK V p a nf c fuel fs Xs R) (kd : Nat) (nm : List UInt8) (at' nn : Nat) (kids : List Tr) (sc : List (List UInt8 × Int)) (x v : Value) (w : World)
    (hE : ReAt w V p a nf c fuel k 0) (hk : k < fuel) (hC : ECx V a fs Xs w) (hX : XTB (fun b => b < V) w (.node kd nm at' nn kids) x) (hTW : TW (.node kd nm at' nn kids)) (hV : VeP V w v sc) (hS : ScB p sc) (hL : lk (sgF fs) (.node kd nm at' nn kids) (sc.map (·.1)) = none) (q : ER Int) (hq : q = evl p fs fuel (R + 1) (.node kd nm at' nn kids) sc k) (hro : q ≠ .out) (hkd : kd = 3) :
    Calls Tryz.prog 61 #[.pointer (some ⟨V, 0, none⟩), x, v] w (LoE V p a nf c fuel q w) := by
  have hmx : Tryz.prog.follows .mixedOrders = true := by kernel_rfl
  obtain ⟨b, ax, cx, A, rfl, hb, hh, hA, hK⟩ := hX
  obtain ⟨vq, rfl⟩ := hV.form
  obtain ⟨hsh, hTs⟩ := hTW
  have hk12 := shp_lt hsh
  unfold evl at hq
  rw [if_neg (by omega)] at hq
  have q0 : ((bs (opS kd)).toList == [110, 117, 109, 98, 101, 114]) = decide (kd = 0) := by rw [bs_list]; exact op_number kd hk12
  have q1 : ((bs (opS kd)).toList == [110, 97, 109, 101]) = decide (kd = 1) := by rw [bs_list]; exact op_name kd hk12
  have q3 : ((bs (opS kd)).toList == [110, 101, 103]) = decide (kd = 3) := by rw [bs_list]; exact op_neg kd hk12
  have q9 : ((bs (opS kd)).toList == [108, 101, 116]) = decide (kd = 9) := by rw [bs_list]; exact op_let kd hk12
  have q11 : ((bs (opS kd)).toList == [105, 102]) = decide (kd = 11) := by rw [bs_list]; exact op_if kd hk12
  have q2 : ((bs (opS kd)).toList == [99, 97, 108, 108]) = decide (kd = 2) := by rw [bs_list]; exact op_call kd hk12
  have q10 : ((bs (opS kd)).toList == [110, 101, 101, 100]) = decide (kd = 10) := by rw [bs_list]; exact op_need kd hk12
  rw [decide_eq_false (by omega)] at q0
  rw [decide_eq_false (by omega)] at q1
  rw [decide_eq_true hkd] at q3
  rw [decide_eq_false (by omega)] at q9
  rw [decide_eq_false (by omega)] at q11
  rw [decide_eq_false (by omega)] at q2
  rw [decide_eq_false (by omega)] at q10
  have e0 : w.cell? ⟨b, 0, none⟩ = some (.string (bs (opS kd))) := by simp [World.cell?, hh]
  have e1 : w.cell? ⟨b, 1, none⟩ = some (.string (bs nm)) := by simp [World.cell?, hh]
  have e2 : w.cell? ⟨b, 2, none⟩ = some (.int .i64 (nn : Int)) := by simp [World.cell?, hh]
  have e4 : w.cell? ⟨b, 4, none⟩ = some (.slice ax kids.length cx) := by simp [World.cell?, hh]
  have c3 := hE.c3
  have c4 := hE.c4
  have c2 := hE.c2
  have y3 := hE.fz 3
  have hVl := hE.lt
  have qk : ((k : Int) == (fuel : Int)) = false := by simp; omega
  have hw1 : IntKind.i64.wrap ((k : Int) + 1) = (k : Int) + 1 := by rw [IntKind.wrap_i64]; omega
  have HWD : Hid (∀ en w', LoE V p a nf c fuel q w en w' → LoE V p a nf c fuel q w en w') := fun _ _ h => h
  have HKK : Hid (∀ (W : World), Fr V w W → ∀ (i : Nat) (t : Tr), kids[i]? = some t → ∃ g vb, ax = some ⟨g, 0, none⟩ ∧ W.cell? ⟨g, i, none⟩ = some (.pointer (some ⟨vb, 0, none⟩)) ∧ XTB (fun b => b < V) W t (.pointer (some ⟨vb, 0, none⟩)) ∧ TW t) := fun W hW i t ht => by
    obtain ⟨g, v, h1, h2, h5, h6⟩ := XTBs_at hK ht
    obtain ⟨vb, rfl⟩ := h6.form
    rw [Nat.zero_add] at h5
    exact ⟨g, vb, h1, hW.cell (by omega) h5, h6.fr hW, hTs.at ht⟩
  have HXB : Hid (∀ (W : World), Fr V w W → W.heap[b]? = some (.cells #[.string (bs (opS kd)), .string (bs nm), .int .i64 (nn : Int), .int .i64 A, .slice ax kids.length cx] 166 (0, 0))) := fun W hW => (hW.2 b (Array.getElem?_eq_some_iff.1 hh).1 (by omega)).trans hh
  have HW1 : Hid (∀ nq, ReAt ((w.drewN nq).setCell ⟨V, 3, none⟩ (.int .i64 ((k : Int) + 1))) V p a nf c fuel (k + 1) 0 ∧ Fr V w ((w.drewN nq).setCell ⟨V, 3, none⟩ (.int .i64 ((k : Int) + 1)))) := fun nq => ⟨(show ReAt (w.drewN nq) V p a nf c fuel k 0 from hE).s3 (k + 1), (frN V nq w).set 3 _⟩
  have HIH := hid ih
  have HCX := hid hC
  have HVV := hid hV
  have HSB := hid hS
  have HQ := hid hq
  have HRO := hid hro
  have HLK := hid hL
  have HSH := hid hsh
  have hbV : ¬ b = V := by omega
  have HNF := hid hnf
  have HKF : Hid (k < fuel) := hk
  have HP3 := hid h3
  have HP4 := hid h4

  generalize bs (opS kd) = op at *
  clear hE hk hC hK hTs hV hS hL hq hro ih hh hA hsh hnf
  go_enter Tryz.func61, Tryz.ntmps61
  go_wp2_with fail
  go_quiet (fail)
  obtain ⟨hE1, hF1⟩ := HW1.out nq
  have y3' : (w.drewN nq).frozen? ⟨V, 3, none⟩ = false := y3
  have c3' : (w.drewN nq).cell? ⟨V, 3, none⟩ = some (.int .i64 (k : Int)) := c3
  obtain ⟨w1, hw1'⟩ : ∃ w1, (w.drewN nq).setCell ⟨V, 3, none⟩ (.int .i64 ((k : Int) + 1)) = w1 := ⟨_, rfl⟩
  rw [hw1'] at hE1 hF1
  have HE1 := hid hE1
  have HF1 := hid hF1
  have hh1 := HXB.out w1 hF1
  have f0 : w1.cell? ⟨b, 0, none⟩ = some (.string op) := by simp [World.cell?, hh1]
  have f1 : w1.cell? ⟨b, 1, none⟩ = some (.string (bs nm)) := by simp [World.cell?, hh1]
  have f2 : w1.cell? ⟨b, 2, none⟩ = some (.int .i64 (nn : Int)) := by simp [World.cell?, hh1]
  have f4 : w1.cell? ⟨b, 4, none⟩ = some (.slice ax kids.length cx) := by simp [World.cell?, hh1]
  have g0 := hE1.c0
  have g1 := hE1.c1
  have g4 := hE1.c4
  have HC1 := hid (HCX.out.fr hF1)
  have HV1 := hid (HVV.out.fr hF1)
  clear hE1 hF1 hh1 c2 c4 y3 c3 e0 e1 e2 e4 HCX HVV qk
  obtain ⟨t0, hkids⟩ : ∃ t0, kids = [t0] := by
    have hm : kids.length = 1 := by rcases HSH.out with h | h | h | h | h | h | h <;> omega
    match kids, hm with
    | [t], _ => exact ⟨t, rfl⟩
  subst hkids
  obtain ⟨g, vb, hax, hcg, hx0, ht0⟩ := HKK.out w1 HF1.out 0 t0 rfl
  subst hax
  have hq := HQ.out
  rw [if_neg (by omega), if_neg (by omega), if_neg (by omega)] at hq
  simp only [if_pos hkd] at hq
  have hlk := HLK.out
  rw [lk] at hlk
  have hl0 : lk (sgF fs) t0 (sc.map (·.1)) = none := by
    split at hlk
    · cases hlk
    · have := lks_at [t0] 0 hlk 0 t0 rfl
      rwa [if_neg (by omega)] at this
  obtain ⟨r1, hr1⟩ : ∃ r1 : ER Int, r1 = evl p fs fuel R t0 sc (k + 1) := ⟨_, rfl⟩
  rw [← hr1] at hq
  have HC := hid (HIH.out Unit (.val () (k + 1)) t0 sc _ _ w1 ⟨HE1.out, by have := HKF.out; omega⟩ HC1.out hx0 ht0 HV1.out HSB.out hl0 (show evl p fs fuel R t0 sc (k + 1) ≠ .out from fun e => HRO.out (by rw [hq, hr1, e]; rfl)))
  rw [show ((ER.val () (k + 1) : ER Unit).bind fun _ k => evl p fs fuel R t0 sc k) = r1 from hr1.symm] at HC
  have HQ2 := hid hq
  clear hq hr1 hlk hl0 hx0 ht0
  go_wp2_with fail
  refine HC.out.mono ?_
  rintro en w2 ⟨z, rfl, hz, hf2, hm2, hv2⟩
  have HF2 := hid (HF1.out.trans hf2)
  have HM2 := hid hm2
  have HZ2 := hid hv2
  have HSU := hid (rsub_any p 0 z w2 h3 h4 (by omega) (by omega) (by omega) (by omega))
  have p0 : w2.cell? ⟨V, 0, none⟩ = some (.int .i64 (p : Int)) := hm2.c0
  clear hf2 hm2 hv2 HC
  go_wp2_with fail
  refine HSU.out.mono ?_
  rintro en w3 ⟨rfl, hw3⟩
  have hw4 := hw3.symm
  subst hw4
  have HE : Hid (LoE V p a nf c fuel q w (.returned (.int .i64 ((0 - z) % (p : Int)))) w2) := ⟨_, rfl, ⟨Int.emod_nonneg _ (by omega), Int.emod_lt_of_pos _ (by omega)⟩, HF2.out, by rw [HQ2.out]; exact HM2.out.map _, fun y k' h => by
    rw [HQ2.out] at h
    obtain ⟨y1, k1, h1, h2⟩ := ER.bind_val h
    injection h2 with h2 _
    rw [← h2, HZ2.out _ _ h1]⟩
  generalize (0 - z) % (p : Int) = zz at *
  go_wp2_with fail
  go_ret
  exact HWD.out _ _ HE.out

end Go.Proofs.YtlgcmeachjjmgajGreatDoor

namespace Go.Proofs.YtlgcmeachjjmgajGreatDoor
open Go.RowKit

theorem ER.bind_is {α β : Type} {r : ER α} {z : α} (h : ∀ y k, r = .val y k → z = y) (f : α → Nat → ER β) : r.bind f = r.bind fun _ k => f z k := by
  cases r with
  | val x k => rw [h x k rfl]; rfl
  | stop e => rfl
  | out => rfl
theorem ER.bind_bind {α β γ : Type} (r : ER α) (f : α → Nat → ER β) (g : β → Nat → ER γ) : (r.bind f).bind g = r.bind fun x k => (f x k).bind g := by
  cases r <;> rfl

set_option maxRecDepth 100000 in
set_option maxHeartbeats 4000000 in
theorem rlook_if (V p nf c fuel R k : Nat) (a : Option Addr) (fs : List FnT) (Xs : List Nat) (h3 : 3 ≤ p) (h4 : p ≤ 2147483647) (hfu : fuel ≤ 1000000) (hnf : nf = fs.length) (_hnf4 : nf ≤ 4000) (_hFs : FsOk fs) (_hFW : ∀ g, g ∈ fs → FW g) (ih : LOK V p a nf c fuel fs Xs R) (kd : Nat) (nm : List UInt8) (at' nn : Nat) (kids : List Tr) (sc : List (List UInt8 × Int)) (x v : Value) (w : World)
    (hE : ReAt w V p a nf c fuel k 0) (hk : k < fuel) (hC : ECx V a fs Xs w) (hX : XTB (fun b => b < V) w (.node kd nm at' nn kids) x) (hTW : TW (.node kd nm at' nn kids)) (hV : VeP V w v sc) (hS : ScB p sc) (hL : lk (sgF fs) (.node kd nm at' nn kids) (sc.map (·.1)) = none) (q : ER Int) (hq : q = evl p fs fuel (R + 1) (.node kd nm at' nn kids) sc k) (hro : q ≠ .out) (hkd : kd = 11) :
    Calls Tryz.prog 61 #[.pointer (some ⟨V, 0, none⟩), x, v] w (LoE V p a nf c fuel q w) := by
  have hmx : Tryz.prog.follows .mixedOrders = true := by kernel_rfl
  obtain ⟨b, ax, cx, A, rfl, hb, hh, hA, hK⟩ := hX
  obtain ⟨vq, rfl⟩ := hV.form
  obtain ⟨hsh, hTs⟩ := hTW
  have hk12 := shp_lt hsh
  unfold evl at hq
  rw [if_neg (by omega)] at hq
  have q0 : ((bs (opS kd)).toList == [110, 117, 109, 98, 101, 114]) = decide (kd = 0) := by rw [bs_list]; exact op_number kd hk12
  have q1 : ((bs (opS kd)).toList == [110, 97, 109, 101]) = decide (kd = 1) := by rw [bs_list]; exact op_name kd hk12
  have q3 : ((bs (opS kd)).toList == [110, 101, 103]) = decide (kd = 3) := by rw [bs_list]; exact op_neg kd hk12
  have q9 : ((bs (opS kd)).toList == [108, 101, 116]) = decide (kd = 9) := by rw [bs_list]; exact op_let kd hk12
  have q11 : ((bs (opS kd)).toList == [105, 102]) = decide (kd = 11) := by rw [bs_list]; exact op_if kd hk12
  have q2 : ((bs (opS kd)).toList == [99, 97, 108, 108]) = decide (kd = 2) := by rw [bs_list]; exact op_call kd hk12
  have q10 : ((bs (opS kd)).toList == [110, 101, 101, 100]) = decide (kd = 10) := by rw [bs_list]; exact op_need kd hk12
  rw [decide_eq_false (by omega)] at q0
  rw [decide_eq_false (by omega)] at q1
  rw [decide_eq_false (by omega)] at q3
  rw [decide_eq_false (by omega)] at q9
  rw [decide_eq_true hkd] at q11
  rw [decide_eq_false (by omega)] at q2
  rw [decide_eq_false (by omega)] at q10
  have e0 : w.cell? ⟨b, 0, none⟩ = some (.string (bs (opS kd))) := by simp [World.cell?, hh]
  have e1 : w.cell? ⟨b, 1, none⟩ = some (.string (bs nm)) := by simp [World.cell?, hh]
  have e2 : w.cell? ⟨b, 2, none⟩ = some (.int .i64 (nn : Int)) := by simp [World.cell?, hh]
  have e4 : w.cell? ⟨b, 4, none⟩ = some (.slice ax kids.length cx) := by simp [World.cell?, hh]
  have c3 := hE.c3
  have c4 := hE.c4
  have c2 := hE.c2
  have y3 := hE.fz 3
  have hVl := hE.lt
  have qk : ((k : Int) == (fuel : Int)) = false := by simp; omega
  have hw1 : IntKind.i64.wrap ((k : Int) + 1) = (k : Int) + 1 := by rw [IntKind.wrap_i64]; omega
  have HWD : Hid (∀ en w', LoE V p a nf c fuel q w en w' → LoE V p a nf c fuel q w en w') := fun _ _ h => h
  have HKK : Hid (∀ (W : World), Fr V w W → ∀ (i : Nat) (t : Tr), kids[i]? = some t → ∃ g vb, ax = some ⟨g, 0, none⟩ ∧ W.cell? ⟨g, i, none⟩ = some (.pointer (some ⟨vb, 0, none⟩)) ∧ XTB (fun b => b < V) W t (.pointer (some ⟨vb, 0, none⟩)) ∧ TW t) := fun W hW i t ht => by
    obtain ⟨g, v, h1, h2, h5, h6⟩ := XTBs_at hK ht
    obtain ⟨vb, rfl⟩ := h6.form
    rw [Nat.zero_add] at h5
    exact ⟨g, vb, h1, hW.cell (by omega) h5, h6.fr hW, hTs.at ht⟩
  have HXB : Hid (∀ (W : World), Fr V w W → W.heap[b]? = some (.cells #[.string (bs (opS kd)), .string (bs nm), .int .i64 (nn : Int), .int .i64 A, .slice ax kids.length cx] 166 (0, 0))) := fun W hW => (hW.2 b (Array.getElem?_eq_some_iff.1 hh).1 (by omega)).trans hh
  have HW1 : Hid (∀ nq, ReAt ((w.drewN nq).setCell ⟨V, 3, none⟩ (.int .i64 ((k : Int) + 1))) V p a nf c fuel (k + 1) 0 ∧ Fr V w ((w.drewN nq).setCell ⟨V, 3, none⟩ (.int .i64 ((k : Int) + 1)))) := fun nq => ⟨(show ReAt (w.drewN nq) V p a nf c fuel k 0 from hE).s3 (k + 1), (frN V nq w).set 3 _⟩
  have HIH := hid ih
  have HCX := hid hC
  have HVV := hid hV
  have HSB := hid hS
  have HQ := hid hq
  have HRO := hid hro
  have HLK := hid hL
  have HSH := hid hsh
  have hbV : ¬ b = V := by omega
  have HNF := hid hnf
  have HKF : Hid (k < fuel) := hk
  have HP3 := hid h3
  have HP4 := hid h4

  generalize bs (opS kd) = op at *
  clear hE hk hC hK hTs hV hS hL hq hro ih hh hA hsh hnf
  go_enter Tryz.func61, Tryz.ntmps61
  go_wp2_with fail
  go_quiet (fail)
  obtain ⟨hE1, hF1⟩ := HW1.out nq
  have y3' : (w.drewN nq).frozen? ⟨V, 3, none⟩ = false := y3
  have c3' : (w.drewN nq).cell? ⟨V, 3, none⟩ = some (.int .i64 (k : Int)) := c3
  obtain ⟨w1, hw1'⟩ : ∃ w1, (w.drewN nq).setCell ⟨V, 3, none⟩ (.int .i64 ((k : Int) + 1)) = w1 := ⟨_, rfl⟩
  rw [hw1'] at hE1 hF1
  have HE1 := hid hE1
  have HF1 := hid hF1
  have hh1 := HXB.out w1 hF1
  have f0 : w1.cell? ⟨b, 0, none⟩ = some (.string op) := by simp [World.cell?, hh1]
  have f1 : w1.cell? ⟨b, 1, none⟩ = some (.string (bs nm)) := by simp [World.cell?, hh1]
  have f2 : w1.cell? ⟨b, 2, none⟩ = some (.int .i64 (nn : Int)) := by simp [World.cell?, hh1]
  have f4 : w1.cell? ⟨b, 4, none⟩ = some (.slice ax kids.length cx) := by simp [World.cell?, hh1]
  have g0 := hE1.c0
  have g1 := hE1.c1
  have g4 := hE1.c4
  have HC1 := hid (HCX.out.fr hF1)
  have HV1 := hid (HVV.out.fr hF1)
  clear hE1 hF1 hh1 c2 c4 y3 c3 e0 e1 e2 e4 HCX HVV qk
  have HLK2 : Hid (∀ (j : Nat) (t : Tr), kids[j]? = some t → lk (sgF fs) t (if kd = 9 ∧ j = 1 then nm :: sc.map (·.1) else sc.map (·.1)) = none) := fun j t ht => by
    have hlk := HLK.out
    rw [lk] at hlk
    split at hlk
    · cases hlk
    · have := lks_at kids 0 hlk j t ht
      rwa [Nat.zero_add] at this
  obtain ⟨t0, t1, t2, hkids⟩ : ∃ t0 t1 t2, kids = [t0, t1, t2] := by
    have hm : kids.length = 3 := by rcases HSH.out with h | h | h | h | h | h | h <;> omega
    match kids, hm with
    | [t0, t1, t2], _ => exact ⟨t0, t1, t2, rfl⟩
  subst hkids
  obtain ⟨g, _, hax, -⟩ := HKK.out w1 HF1.out 0 t0 rfl
  subst hax
  clear f4
  have HG1 : Hid (Fr V w1 w1) := Fr.refl V w1
  have HK0 : Hid (∀ (W : World), Fr V w1 W → ∃ vb, W.cell? ⟨g, 0, none⟩ = some (.pointer (some ⟨vb, 0, none⟩)) ∧ XTB (fun b => b < V) W t0 (.pointer (some ⟨vb, 0, none⟩)) ∧ TW t0) := fun W hW => by
    obtain ⟨g', vb, h1, h2, h3, h4⟩ := HKK.out W (HF1.out.trans hW) 0 t0 rfl
    injection h1 with h1
    injection h1 with h1 _ _
    subst h1
    exact ⟨vb, h2, h3, h4⟩
  have HK1 : Hid (∀ (W : World), Fr V w1 W → ∃ vb, W.cell? ⟨g, 1, none⟩ = some (.pointer (some ⟨vb, 0, none⟩)) ∧ XTB (fun b => b < V) W t1 (.pointer (some ⟨vb, 0, none⟩)) ∧ TW t1) := fun W hW => by
    obtain ⟨g', vb, h1, h2, h3, h4⟩ := HKK.out W (HF1.out.trans hW) 1 t1 rfl
    injection h1 with h1
    injection h1 with h1 _ _
    subst h1
    exact ⟨vb, h2, h3, h4⟩
  have HK2 : Hid (∀ (W : World), Fr V w1 W → ∃ vb, W.cell? ⟨g, 2, none⟩ = some (.pointer (some ⟨vb, 0, none⟩)) ∧ XTB (fun b => b < V) W t2 (.pointer (some ⟨vb, 0, none⟩)) ∧ TW t2) := fun W hW => by
    obtain ⟨g', vb, h1, h2, h3, h4⟩ := HKK.out W (HF1.out.trans hW) 2 t2 rfl
    injection h1 with h1
    injection h1 with h1 _ _
    subst h1
    exact ⟨vb, h2, h3, h4⟩
  have hq := HQ.out
  rw [if_neg (by omega), if_neg (by omega), if_neg (by omega)] at hq
  simp only [if_neg (show ¬ kd = 10 by omega), if_pos hkd] at hq
  obtain ⟨r1, hr1⟩ : ∃ r1 : ER Int, r1 = evl p fs fuel R t0 sc (k + 1) := ⟨_, rfl⟩
  rw [← hr1] at hq
  have HQ2 := hid hq
  clear hq
  obtain ⟨vb0, hcg0, hx, ht⟩ := HK0.out w1 HG1.out
  have fk1 : w1.cell? ⟨b, 4, none⟩ = some (.slice (some ⟨g, 0, none⟩) 3 cx) := by simp [World.cell?, HXB.out _ (HF1.out.trans HG1.out)]
  have HC := hid (HIH.out (Unit) (.val () (k + 1)) t0 sc _ _ w1 ⟨HE1.out, by have := HKF.out; omega⟩ (HC1.out.fr HG1.out) hx ht (HV1.out.fr HG1.out) HSB.out (by have := HLK2.out 0 t0 rfl; rwa [if_neg (by omega)] at this) (show evl p fs fuel R t0 sc (k + 1) ≠ .out from fun e => HRO.out (by rw [HQ2.out, hr1, e]; rfl)))
  rw [show ((ER.val () (k + 1) : ER Unit).bind fun _ k => evl p fs fuel R t0 sc k) = r1 from hr1.symm] at HC
  clear hr1
  clear hx ht
  go_wp2_with fail
  refine HC.out.mono ?_
  rintro en w2 ⟨z0, rfl, hz0, hf, hm, hv⟩
  have HG2 := hid (HG1.out.trans hf)
  have HM2 := hid hm
  have HZ2 := hid hv
  clear hf hm hv HC hcg0 fk1
  by_cases hz : z0 = 0
  · have bz : (z0 != 0) = false := by simp [hz]
    have HQ3 : Hid (q = r1.bind fun _ k => evl p fs fuel R t2 sc k) := by
      unfold Hid
      rw [HQ2.out, ER.bind_is HZ2.out]
      exact congrArg r1.bind (funext fun _ => funext fun k => if_pos hz)
    clear hz HQ2
    obtain ⟨vb2, hcg2, hx, ht⟩ := HK2.out w2 HG2.out
    have fk2 : w2.cell? ⟨b, 4, none⟩ = some (.slice (some ⟨g, 0, none⟩) 3 cx) := by simp [World.cell?, HXB.out _ (HF1.out.trans HG2.out)]
    have HC := hid (HIH.out (Int) (r1) t2 sc _ _ w2 HM2.out (HC1.out.fr HG2.out) hx ht (HV1.out.fr HG2.out) HSB.out (by have := HLK2.out 2 t2 rfl; rwa [if_neg (by omega)] at this) (by rw [← HQ3.out]; exact HRO.out))
    rw [← HQ3.out] at HC
    clear hx ht
    go_wp2_with fail
    refine HC.out.mono ?_
    rintro en w3 ⟨z2, rfl, hz2, hf, hm, hv⟩
    have HG3 := hid (HG2.out.trans hf)
    have HM3 := hid hm
    have HZ3 := hid hv
    clear hf hm hv HC hcg2 fk2
    have HE : Hid (LoE V p a nf c fuel q w (.returned (.int .i64 z2)) w3) := ⟨_, rfl, hz2, HF1.out.trans HG3.out, HM3.out, HZ3.out⟩
    go_wp2_with fail
    go_ret
    exact HWD.out _ _ HE.out
  · have bz : (z0 != 0) = true := by simp [hz]
    have HQ3 : Hid (q = r1.bind fun _ k => evl p fs fuel R t1 sc k) := by
      unfold Hid
      rw [HQ2.out, ER.bind_is HZ2.out]
      exact congrArg r1.bind (funext fun _ => funext fun k => if_neg hz)
    clear hz HQ2
    obtain ⟨vb1, hcg1, hx, ht⟩ := HK1.out w2 HG2.out
    have fk2 : w2.cell? ⟨b, 4, none⟩ = some (.slice (some ⟨g, 0, none⟩) 3 cx) := by simp [World.cell?, HXB.out _ (HF1.out.trans HG2.out)]
    have HC := hid (HIH.out (Int) (r1) t1 sc _ _ w2 HM2.out (HC1.out.fr HG2.out) hx ht (HV1.out.fr HG2.out) HSB.out (by have := HLK2.out 1 t1 rfl; rwa [if_neg (by omega)] at this) (by rw [← HQ3.out]; exact HRO.out))
    rw [← HQ3.out] at HC
    clear hx ht
    go_wp2_with fail
    refine HC.out.mono ?_
    rintro en w3 ⟨z1, rfl, hz1, hf, hm, hv⟩
    have HG3 := hid (HG2.out.trans hf)
    have HM3 := hid hm
    have HZ3 := hid hv
    clear hf hm hv HC hcg1 fk2
    have HE : Hid (LoE V p a nf c fuel q w (.returned (.int .i64 z1)) w3) := ⟨_, rfl, hz1, HF1.out.trans HG3.out, HM3.out, HZ3.out⟩
    go_wp2_with fail
    go_ret
    exact HWD.out _ _ HE.out

end Go.Proofs.YtlgcmeachjjmgajGreatDoor

namespace Go.Proofs.YtlgcmeachjjmgajGreatDoor
open Go.RowKit

set_option maxRecDepth 100000 in
set_option maxHeartbeats 4000000 in
theorem rrk_any (V p nf c fuel : Nat) (a : Option Addr) (r : ER Int) (h3 : 3 ≤ p) (h4 : p ≤ 2147483647) (kd : Nat) (hk4 : 4 ≤ kd) (hk8 : kd ≤ 8) (z0 z1 : Int) (hz0 : 0 ≤ z0 ∧ z0 < (p : Int)) (hz1 : 0 ≤ z1 ∧ z1 < (p : Int)) (w : World) (hE : EW w V p a nf c fuel r) :
    Calls Tryz.prog 99 #[.pointer (some ⟨V, 0, none⟩), .string (bs (opS kd)), .int .i64 z0, .int .i64 z1] w (LoE V p a nf c fuel (r.bind fun _ k => rknS p kd z0 z1 k) w) := by
  have hmx : Tryz.prog.follows .mixedOrders = true := by kernel_rfl
  have q4 : ((bs (opS kd)).toList == [43]) = decide (kd = 4) := by rw [bs_list]; exact op_add kd (by omega)
  have q5 : ((bs (opS kd)).toList == [45]) = decide (kd = 5) := by rw [bs_list]; exact op_sub kd (by omega)
  have q6 : ((bs (opS kd)).toList == [42]) = decide (kd = 6) := by rw [bs_list]; exact op_mul kd (by omega)
  have q7 : ((bs (opS kd)).toList == [47]) = decide (kd = 7) := by rw [bs_list]; exact op_div kd (by omega)
  generalize bs (opS kd) = op at *
  have c0 := hE.c0
  have HAD := hid (radd_any p z0 z1 w h3 h4 (by omega) (by omega) (by omega) (by omega))
  have HSU := hid (rsub_any p z0 z1 w h3 h4 (by omega) (by omega) (by omega) (by omega))
  have HMU := hid (rmul_any p z0 z1 w h3 h4 (by omega) (by omega) (by omega) (by omega))
  have HMB : Hid (∀ x : Int, 0 ≤ x % (p : Int) ∧ x % (p : Int) < (p : Int)) := fun x => ⟨Int.emod_nonneg _ (by omega), Int.emod_lt_of_pos _ (by omega)⟩
  have HWD : Hid (∀ z : Int, rknS p kd z0 z1 = (fun k => ER.val z k) → 0 ≤ z ∧ z < (p : Int) → LoE V p a nf c fuel (r.bind fun _ k => rknS p kd z0 z1 k) w (.returned (.int .i64 z)) w) := fun z he hb => ⟨z, rfl, hb, Fr.refl V w, by rw [he]; exact hE.map _, fun y k h => by
    rw [he] at h
    obtain ⟨y1, k1, h1, h2⟩ := ER.bind_val h
    injection h2⟩
  by_cases k4 : kd = 4
  · rw [decide_eq_true k4] at q4
    have HX := hid (HWD.out _ (by unfold rknS; simp only [if_pos k4]) (HMB.out (z0 + z1)))
    clear hE
    go_enter Tryz.func99, Tryz.ntmps99
    go_wp2_with fail
    refine HAD.out.mono ?_
    rintro en w3 ⟨rfl, rfl⟩
    generalize (z0 + z1) % (p : Int) = zz at *
    go_wp2_with fail
    go_ret
    exact HX.out
  rw [decide_eq_false k4] at q4
  by_cases k5 : kd = 5
  · rw [decide_eq_true k5] at q5
    have HX := hid (HWD.out _ (by unfold rknS; simp only [if_neg k4, if_pos k5]) (HMB.out (z0 - z1)))
    clear hE
    go_enter Tryz.func99, Tryz.ntmps99
    go_wp2_with fail
    refine HSU.out.mono ?_
    rintro en w3 ⟨rfl, rfl⟩
    generalize (z0 - z1) % (p : Int) = zz at *
    go_wp2_with fail
    go_ret
    exact HX.out
  rw [decide_eq_false k5] at q5
  by_cases k6 : kd = 6
  · rw [decide_eq_true k6] at q6
    have HX := hid (HWD.out _ (by unfold rknS; simp only [if_neg k4, if_neg k5, if_pos k6]) (HMB.out (z0 * z1)))
    clear hE
    go_enter Tryz.func99, Tryz.ntmps99
    go_wp2_with fail
    refine HMU.out.mono ?_
    rintro en w3 ⟨rfl, rfl⟩
    generalize z0 * z1 % (p : Int) = zz at *
    go_wp2_with fail
    go_ret
    exact HX.out
  rw [decide_eq_false k6] at q6
  by_cases k7 : kd = 7
  · rw [decide_eq_true k7] at q7
    have HDV := hid (fun W => rdiv_any p z0 z1 W h3 h4 (by omega) (by omega) (by omega) (by omega))
    have HMZ := hid (HMB.out (z0 * (invn p z1 : Int)))
    have HE := hid hE
    by_cases hz : z1 = 0
    · have b1 : (z1 == 0) = true := by simp [hz]
      have HRK : Hid (rknS p kd z0 z1 = fun _ => ER.stop 7) := by unfold Hid rknS; simp only [if_neg k4, if_neg k5, if_neg k6, if_pos k7, if_pos hz]
      clear hz
      cases r with
      | out => exact hE.elim
      | stop er =>
        obtain ⟨he0, k, hR⟩ := hE
        have c4 := hR.c4
        have b2 : ((er : Int) == 0) = false := by simp; omega
        have HX : Hid (LoE V p a nf c fuel ((ER.stop er : ER Int).bind fun _ k => rknS p kd z0 z1 k) w (.returned (.int .i64 (z0 * (invn p z1 : Int) % (p : Int)))) w) := ⟨_, rfl, HMZ.out, Fr.refl V w, ⟨he0, k, hR⟩, fun y k h => by cases h⟩
        clear hR he0
        go_enter Tryz.func99, Tryz.ntmps99
        go_wp2_with fail
        refine (HDV.out w).mono ?_
        rintro en w3 ⟨rfl, rfl⟩
        generalize z0 * (invn p z1 : Int) % (p : Int) = zz at *
        go_wp2_with fail
        go_ret
        exact HX.out
      | val x k =>
        obtain ⟨hR, hkf⟩ := hE
        have c4 := hR.c4
        have y4 := hR.fz 4
        have HX : Hid (∀ W, W = w.setCell ⟨V, 4, none⟩ (.int .i64 7) → LoE V p a nf c fuel ((ER.val x k : ER Int).bind fun _ k => rknS p kd z0 z1 k) w (.returned (.int .i64 (z0 * (invn p z1 : Int) % (p : Int)))) W) := fun W hW => ⟨_, rfl, HMZ.out, by rw [hW]; exact (Fr.refl V w).set 4 _, by
          rw [HRK.out, hW]
          exact ⟨by decide, k, hR.s4 7⟩, fun y k h => by rw [HRK.out] at h; cases h⟩
        have HC0 : Hid ((w.setCell ⟨V, 4, none⟩ (.int .i64 7)).cell? ⟨V, 0, none⟩ = some (.int .i64 (p : Int))) := (hR.s4 7).c0
        clear hR hkf
        go_enter Tryz.func99, Tryz.ntmps99
        go_wp2_with fail
        refine (HDV.out _).mono ?_
        rintro en w3 ⟨rfl, hw3⟩
        have HY := hid (HX.out w3 hw3)
        generalize z0 * (invn p z1 : Int) % (p : Int) = zz at *
        clear hw3
        go_wp2_with fail
        go_ret
        exact HY.out
    · have b1 : (z1 == 0) = false := by simp [hz]
      have HX := hid (HWD.out _ (by unfold rknS; simp only [if_neg k4, if_neg k5, if_neg k6, if_pos k7, if_neg hz]) HMZ.out)
      clear hE hz
      go_enter Tryz.func99, Tryz.ntmps99
      go_wp2_with fail
      refine (HDV.out w).mono ?_
      rintro en w3 ⟨rfl, rfl⟩
      generalize z0 * (invn p z1 : Int) % (p : Int) = zz at *
      go_wp2_with fail
      go_ret
      exact HX.out
  rw [decide_eq_false k7] at q7
  have HX := hid (HWD.out (if z0 = z1 then 1 else 0) (by unfold rknS; simp only [if_neg k4, if_neg k5, if_neg k6, if_neg k7]) (by split <;> omega))
  clear hE
  by_cases hz : z0 = z1
  · rw [if_pos hz] at HX
    have b1 : (z0 == z1) = true := by simp [hz]
    clear hz
    go_enter Tryz.func99, Tryz.ntmps99
    go_wp2_with fail
    go_ret
    exact HX.out
  · rw [if_neg hz] at HX
    have b1 : (z0 == z1) = false := by simp [hz]
    clear hz
    go_enter Tryz.func99, Tryz.ntmps99
    go_wp2_with fail
    go_ret
    exact HX.out

end Go.Proofs.YtlgcmeachjjmgajGreatDoor
