/- Package gates: variables, own, joined, product, weight. Plain facts on circuits: a table with its first variables fixed, bits, weights. Plain facts on Part: what the reference reckons, gate by gate, is ptz. Plain facts on Part: with no variables fixed it is what the layer's values extend to; what a variable more makes of it. Plain facts on what is told of a layer: Part in one variable has degree 2, a table on a line as many as it has variables. -/
import Derived.Test.YtpgnabmkfkcogaaGreatDoorGmAH
import Derived.StillTailTactics
import Derived.Test.YtpgnabmkfkcogaaGreatDoorGmAG
namespace Go.Proofs.YtpgnabmkfkcogaaGreatDoor
open Go.RowKit

theorem prz_back (f : Nat → Int) (n : Nat) : Sum.prz (fun k => f (n - 1 - k)) n = Sum.prz f n := by
  induction n generalizing f with
  | zero => rfl
  | succ n ih =>
    rw [prz_front f n, ← ih (fun k => f (k + 1))]
    rw [Sum.prz, show n + 1 - 1 - n = 0 from by omega, Int.mul_comm]
    congr 1
    exact Sum.prz_same (fun k hk => by rw [show n + 1 - 1 - k = n - 1 - k + 1 from by omega])
/-- a place's factor at a variable -/
def wgf (at' : Nat → Int) (v i t : Nat) : Int := if (i / 2 ^ (v - 1 - t)) % 2 = 0 then 1 - at' t else at' t
theorem prz_wgf (at' : Nat → Int) (v i : Nat) : Sum.prz (wgf at' v i) v = Sum.wgt at' v i := by
  rw [← prz_back]
  unfold Sum.wgt
  refine Sum.prz_same (fun k hk => ?_)
  unfold wgf
  rw [show v - 1 - (v - 1 - k) = k from by omega]

set_option maxRecDepth 100000 in
theorem gvars_any (n v : Nat) (w : World) (hv : v ≤ 6) (hn : n = 2 ^ v) (hT : TabAt 2 Lib.deBruijn64tab w) :
    Calls Tryz.prog 150 #[.int .i64 (n : Int)] w fun e w' => e = .returned (.int .i64 (v : Int)) ∧ w' = w := by
  have h1 := pow_6 hv
  have h0 : 0 < 2 ^ v := Nat.pow_pos (by decide)
  have HZ : Hid (Calls Tryz.prog 107 #[.int .u64 (n : Int)] w fun e w' => e = .returned (.int .i64 (v : Int)) ∧ w' = w) := by
    refine (tz_any n (by omega) (by omega) w hT).mono ?_
    rintro e w' ⟨S, m, rfl, _, h, hw⟩
    rw [hn] at h
    rw [pow_odd h]
    exact ⟨rfl, hw⟩
  have hn2 : n ≤ 64 := by omega
  clear hn hT h1 h0
  go_enter Tryz.func150, Tryz.ntmps150
  go_wp2_with fail
  refine HZ.out.mono ?_
  rintro e w1 ⟨rfl, rfl⟩
  go_wp2_with fail
  go_ret
  exact ⟨rfl, rfl⟩

set_option maxRecDepth 100000 in
set_option maxHeartbeats 1000000 in
theorem gjoined_any (p b : Nat) (y z : Value) (kind x1 x2 : Int) (w : World) (h3 : 3 ≤ p) (hm : p ≤ 2147483647) (hp : w.cell? ⟨b, 0, none⟩ = some (.int .i64 p)) (h11 : -9223372036854775808 ≤ x1) (h12 : x1 ≤ 9223372036854775807) (h21 : -9223372036854775808 ≤ x2) (h22 : x2 ≤ 9223372036854775807) :
    Calls Tryz.prog 212 #[.agg #[.pointer (some ⟨b, 0, none⟩), y, z], .int .i64 kind, .int .i64 x1, .int .i64 x2] w fun e w' => e = .returned (.int .i64 (jnz p kind x1 x2)) ∧ Below w.heap.size w w' := by
  obtain ⟨W0, hW0⟩ : ∃ W0, W0 = w.alloc (.cells #[.pointer (some ⟨b, 0, none⟩), y, z] 149) := ⟨_, rfl⟩
  obtain ⟨hb0, hs0, hz0⟩ := own_blk hW0
  have hp0 := (hb0.cell (p := ⟨b, 0, none⟩) (heap_lt hp)).trans hp
  have HA := hid (add_any p b x1 x2 W0 h3 hm hp0 h11 h12 h21 h22)
  have HM := hid (mul_any p b x1 x2 W0 h3 hm hp0 h11 h12 h21 h22)
  have HB0 := hid hb0
  clear hb0 hs0 hz0 hp hp0
  by_cases hk : kind = 0
  · have hk2 : (kind == 0) = true := by rw [hk]; rfl
    have HJ : Hid (jnz p kind x1 x2 = (x1 + x2) % (p : Int)) := by unfold Hid jnz; rw [if_pos hk]
    generalize jnz p kind x1 x2 = J at *
    generalize (x1 + x2) % (p : Int) = E at *
    clear hk HM
    go_enter Tryz.func212, Tryz.ntmps212
    go_wp2_with fail
    rw [← hW0]
    clear hW0
    refine HA.out.mono ?_
    rintro e w1 ⟨rfl, hw⟩
    have hw1 := hw.symm
    subst hw1
    clear hw
    go_wp2_with fail
    go_ret
    exact ⟨by rw [HJ.out]; rfl, HB0.out⟩
  · have hk2 : (kind == 0) = false := by rw [beq_eq_false_iff_ne]; exact hk
    have HJ : Hid (jnz p kind x1 x2 = x1 * x2 % (p : Int)) := by unfold Hid jnz; rw [if_neg hk]
    generalize jnz p kind x1 x2 = J at *
    generalize x1 * x2 % (p : Int) = E at *
    clear hk HA
    go_enter Tryz.func212, Tryz.ntmps212
    go_wp2_with fail
    rw [← hW0]
    clear hW0
    refine HM.out.mono ?_
    rintro e w1 ⟨rfl, hw⟩
    have hw1 := hw.symm
    subst hw1
    clear hw
    go_wp2_with fail
    go_ret
    exact ⟨by rw [HJ.out]; rfl, HB0.out⟩

theorem bit_and (i m : Nat) : (bits BinOp.and IntKind.i64 ((i : Int) / 2 ^ m) 1 == 0) = decide ((i / 2 ^ m) % 2 = 0) := by
  rw [andn_i64 1 _ (by omega) 1 rfl]
  have e : (i : Int) / 2 ^ m = ((i / 2 ^ m : Nat) : Int) := by rw [Int.natCast_ediv]; simp
  rw [e]
  generalize i / 2 ^ m = X
  rw [Bool.eq_iff_iff, beq_iff_eq, decide_eq_true_eq]
  omega
theorem prz_mod {p : Nat} (f : Nat → Int) (k : Nat) (r : Int) (h : (p : Int) ∣ r - f k) : (Sum.prz f k % (p : Int)) * r % (p : Int) = Sum.prz f (k + 1) % (p : Int) := by
  refine emod_of_dvd ?_
  have h1 : (p : Int) ∣ Sum.prz f k % (p : Int) - Sum.prz f k := Pol.emod_dvd p _
  exact Sum.dvd_mul_sub h1 h

set_option maxRecDepth 100000 in
set_option maxHeartbeats 1000000 in
theorem gproduct_any (p b cap : Nat) (y z : Value) (a : Option Addr) (zs : List Int) (w : World) (h3 : 3 ≤ p) (hm : p ≤ 2147483647) (hp : w.cell? ⟨b, 0, none⟩ = some (.int .i64 p)) (hn : zs.length ≤ 281474976710656) (hf : Fits zs) (hr : RowB w.heap.size w a zs) :
    Calls Tryz.prog 249 #[.agg #[.pointer (some ⟨b, 0, none⟩), y, z], .slice a zs.length cap] w fun e w' => e = .returned (.int .i64 (Sum.prz (zat zs) zs.length % (p : Int))) ∧ Below w.heap.size w w' := by
  obtain ⟨W0, hW0⟩ : ∃ W0, W0 = w.alloc (.cells #[.pointer (some ⟨b, 0, none⟩), y, z] 149) := ⟨_, rfl⟩
  obtain ⟨hb0, hs0, hz0⟩ := own_blk hW0
  have hp0 := (hb0.cell (p := ⟨b, 0, none⟩) (heap_lt hp)).trans hp
  obtain ⟨G, hG⟩ : ∃ G, G = w.heap.size := ⟨_, rfl⟩
  have HGE := hid hG
  rw [← hG] at hs0
  have c0 : W0.cell? ⟨G, 0, none⟩ = some (.pointer (some ⟨b, 0, none⟩)) := by simp [World.cell?, hs0]
  have HM : Hid (∀ x y : Int, -9223372036854775808 ≤ x → x ≤ 9223372036854775807 → -9223372036854775808 ≤ y → y ≤ 9223372036854775807 → Calls Tryz.prog 121 #[.pointer (some ⟨b, 0, none⟩), .int .i64 x, .int .i64 y] W0 fun e w' => e = .returned (.int .i64 (x * y % (p : Int))) ∧ w' = W0) := fun x y h1 h2 h4 h5 => mul_any p b x y W0 h3 hm hp0 h1 h2 h4 h5
  have HB0 := hid hb0
  have HRO := hid ((hr.below hb0).mono hb0.size)
  have HF := hid hf
  have HST : Hid (∀ k r, (p : Int) ∣ r - zat zs k → (Sum.prz (zat zs) k % (p : Int)) * r % (p : Int) = Sum.prz (zat zs) (k + 1) % (p : Int)) := fun k r h => prz_mod _ _ _ h
  have HZ : Hid (∀ k, 0 ≤ Sum.prz (zat zs) k % (p : Int) ∧ Sum.prz (zat zs) k % (p : Int) < p) := fun k => emod_bounds _ p h3
  have HO : Hid (Sum.prz (zat zs) 0 % (p : Int) = 1) := by unfold Hid; rw [Sum.prz]; exact Int.emod_eq_of_lt (by omega) (by omega)
  obtain ⟨P, hP⟩ : ∃ P : Nat → Int, P = fun k => Sum.prz (zat zs) k % (p : Int) := ⟨_, rfl⟩
  have HST2 : Hid (∀ k r, (p : Int) ∣ r - zat zs k → P k * r % (p : Int) = P (k + 1)) := fun k r h => by rw [hP]; exact HST.out k r h
  have HZ2 : Hid (∀ k, 0 ≤ P k ∧ P k < p) := fun k => by rw [hP]; exact HZ.out k
  have HO2 : Hid (P 0 = 1) := by unfold Hid; rw [hP]; exact HO.out
  obtain ⟨n, hnn⟩ : ∃ n, n = zs.length := ⟨_, rfl⟩
  have HN := hid hnn
  rw [show Sum.prz (zat zs) zs.length % (p : Int) = P n from by rw [hP, hnn]]
  rw [← hnn] at hn ⊢
  clear hb0 hs0 hz0 hp hp0 hr hf HST HZ HO hP hnn hG
  go_enter Tryz.func249, Tryz.ntmps249
  go_wp2_with fail
  rw [← HGE.out, ← hW0]
  clear hW0
  go_loop [5, 7, 10] (fun ov _ iv => ∃ k : Nat, k ≤ n ∧ iv = .int .i64 (k : Int) ∧ ∃ x : Int, ov = .int .i64 x ∧ Hid (x = P k)) (fun _ _ iv => n - (intOf iv).toNat)
  case atStart => exact ⟨0, by omega, rfl, 1, rfl, HO2.out.symm⟩
  case round =>
    obtain ⟨k, hk, rfl, x, rfl, hx⟩ := hrel
    by_cases hlt : k < n
    · have hlt2 : (k : Int) < (n : Int) := by omega
      have hks : IntKind.i64.wrap ((k : Int) + 1) = (k : Int) + 1 := by rw [IntKind.wrap_i64]; omega
      obtain ⟨b0, o0, rfl, hb0, hx0⟩ := HRO.out k (by rw [← HN.out]; exact hlt)
      obtain ⟨f1, f2⟩ := HF.out.all k
      have hz := HZ2.out k
      rw [← hx.out] at hz
      have HMU := hid (HM.out x (zat zs k) (by omega) (by omega) f1 f2)
      have HNX : Hid (x * zat zs k % (p : Int) = P (k + 1)) := by unfold Hid; rw [hx.out]; exact HST2.out k _ (by simp)
      generalize zat zs k = r at *
      generalize x * r % (p : Int) = E at *
      clear hx f1 f2 hz
      go_wp2_with fail
      refine HMU.out.mono ?_
      rintro e w1 ⟨rfl, hw⟩
      have hw1 := hw.symm
      subst hw1
      clear hw
      go_wp2_with fail
      go_round
      case rel => exact ⟨k + 1, by omega, by go_num, E, rfl, HNX.out⟩
      case measure => simp [intOf]; omega
    · obtain rfl : k = n := by omega
      have hlt2 : ¬ (k : Int) < (k : Int) := by omega
      go_wp2_with fail
      go_ret
      exact ⟨by rw [← hx.out]; rfl, HB0.out⟩

set_option maxRecDepth 100000 in
set_option maxHeartbeats 1000000 in
theorem weight_any (p b cap i : Nat) (y z : Value) (a : Option Addr) (at' : List Int) (w : World) (h3 : 3 ≤ p) (hm : p ≤ 2147483647) (hp : w.cell? ⟨b, 0, none⟩ = some (.int .i64 p)) (hv : at'.length ≤ 60) (hf : Fits at') (hr : RowB w.heap.size w a at') :
    Calls Tryz.prog 250 #[.agg #[.pointer (some ⟨b, 0, none⟩), y, z], .int .i64 (i : Int), .slice a at'.length cap] w fun e w' => e = .returned (.int .i64 (Sum.wgt (zat at') at'.length i % (p : Int))) ∧ Below w.heap.size w w' := by
  obtain ⟨W0, hW0⟩ : ∃ W0, W0 = w.alloc (.cells #[.pointer (some ⟨b, 0, none⟩), y, z] 149) := ⟨_, rfl⟩
  obtain ⟨hb0, hs0, hz0⟩ := own_blk hW0
  have hp0 := (hb0.cell (p := ⟨b, 0, none⟩) (heap_lt hp)).trans hp
  obtain ⟨G, hG⟩ : ∃ G, G = w.heap.size := ⟨_, rfl⟩
  have HGE := hid hG
  rw [← hG] at hs0
  have c0 : W0.cell? ⟨G, 0, none⟩ = some (.pointer (some ⟨b, 0, none⟩)) := by simp [World.cell?, hs0]
  have HM : Hid (∀ x y : Int, -9223372036854775808 ≤ x → x ≤ 9223372036854775807 → -9223372036854775808 ≤ y → y ≤ 9223372036854775807 → Calls Tryz.prog 121 #[.pointer (some ⟨b, 0, none⟩), .int .i64 x, .int .i64 y] W0 fun e w' => e = .returned (.int .i64 (x * y % (p : Int))) ∧ w' = W0) := fun x y h1 h2 h4 h5 => mul_any p b x y W0 h3 hm hp0 h1 h2 h4 h5
  have HSU : Hid (∀ x y : Int, -9223372036854775808 ≤ x → x ≤ 9223372036854775807 → -9223372036854775808 ≤ y → y ≤ 9223372036854775807 → Calls Tryz.prog 139 #[.pointer (some ⟨b, 0, none⟩), .int .i64 x, .int .i64 y] W0 fun e w' => e = .returned (.int .i64 ((x - y) % (p : Int))) ∧ w' = W0) := fun x y h1 h2 h4 h5 => sub_any p b x y W0 h3 hm hp0 h1 h2 h4 h5
  have HB0 := hid hb0
  have HRO := hid ((hr.below hb0).mono hb0.size)
  have HF := hid hf
  obtain ⟨n, hnn⟩ : ∃ n, n = at'.length := ⟨_, rfl⟩
  obtain ⟨P, hP⟩ : ∃ P : Nat → Int, P = fun k => Sum.prz (wgf (zat at') n i) k % (p : Int) := ⟨_, rfl⟩
  have HST2 : Hid (∀ k r, (p : Int) ∣ r - wgf (zat at') n i k → P k * r % (p : Int) = P (k + 1)) := fun k r h => by rw [hP]; exact prz_mod _ _ _ h
  have HZ2 : Hid (∀ k, 0 ≤ P k ∧ P k < p) := fun k => by rw [hP]; exact emod_bounds _ p h3
  have HO2 : Hid (P 0 = 1) := by unfold Hid; rw [hP]; show Sum.prz _ 0 % _ = 1; rw [Sum.prz]; exact Int.emod_eq_of_lt (by omega) (by omega)
  have HN := hid hnn
  rw [show Sum.wgt (zat at') at'.length i % (p : Int) = P n from by rw [hP, ← hnn]; show _ = Sum.prz _ n % _; rw [prz_wgf]]
  rw [← hnn] at hv ⊢
  clear hb0 hs0 hz0 hp hp0 hr hf hP hnn hG
  go_enter Tryz.func250, Tryz.ntmps250
  go_wp2_with fail
  rw [← HGE.out, ← hW0]
  clear hW0
  go_loop [7, 8, 9, 12] (fun ov _ _ iv => ∃ k : Nat, k ≤ n ∧ iv = .int .i64 (k : Int) ∧ ∃ x : Int, ov = .int .i64 x ∧ Hid (x = P k)) (fun _ _ _ iv => n - (intOf iv).toNat)
  case atStart => exact ⟨0, by omega, rfl, 1, rfl, HO2.out.symm⟩
  case round =>
    obtain ⟨k, hk, rfl, x, rfl, hx⟩ := hrel
    by_cases hlt : k < n
    · have hlt2 : (k : Int) < (n : Int) := by omega
      have hks : IntKind.i64.wrap ((k : Int) + 1) = (k : Int) + 1 := by rw [IntKind.wrap_i64]; omega
      obtain ⟨b0, o0, rfl, hb0, hx0⟩ := HRO.out k (by rw [← HN.out]; exact hlt)
      obtain ⟨f1, f2⟩ := HF.out.all k
      have hz := HZ2.out k
      rw [← hx.out] at hz
      have hbt := bit_and i (n - 1 - k)
      by_cases hb : (i / 2 ^ (n - 1 - k)) % 2 = 0
      · rw [decide_eq_true hb] at hbt
        have HSX := hid (HSU.out 1 (zat at' k) (by omega) (by omega) f1 f2)
        obtain ⟨t1, t2⟩ := emod_bounds (1 - zat at' k) p h3
        have HMU := hid (HM.out x ((1 - zat at' k) % (p : Int)) (by omega) (by omega) (by omega) (by omega))
        have HNX : Hid (x * ((1 - zat at' k) % (p : Int)) % (p : Int) = P (k + 1)) := by
          unfold Hid
          rw [hx.out]
          refine HST2.out k _ ?_
          unfold wgf
          rw [if_pos hb]
          exact Pol.emod_dvd p _
        generalize (1 - zat at' k) % (p : Int) = s at *
        generalize zat at' k = r at *
        generalize x * s % (p : Int) = E at *
        clear hx f1 f2 hz hb t1 t2
        go_wp2_with fail
        refine HSX.out.mono ?_
        rintro e w1 ⟨rfl, hw⟩
        have hw1 := hw.symm
        subst hw1
        clear hw
        go_wp2_with fail
        refine HMU.out.mono ?_
        rintro e w1 ⟨rfl, hw⟩
        have hw1 := hw.symm
        subst hw1
        clear hw
        go_wp2_with fail
        go_round
        case rel => exact ⟨k + 1, by omega, by go_num, E, rfl, HNX.out⟩
        case measure => simp [intOf]; omega
      · rw [decide_eq_false hb] at hbt
        have HMU := hid (HM.out x (zat at' k) (by omega) (by omega) f1 f2)
        have HNX : Hid (x * zat at' k % (p : Int) = P (k + 1)) := by
          unfold Hid
          rw [hx.out]
          refine HST2.out k _ ?_
          unfold wgf
          rw [if_neg hb]
          simp
        generalize zat at' k = r at *
        generalize x * r % (p : Int) = E at *
        clear hx f1 f2 hz hb
        go_wp2_with fail
        refine HMU.out.mono ?_
        rintro e w1 ⟨rfl, hw⟩
        have hw1 := hw.symm
        subst hw1
        clear hw
        go_wp2_with fail
        go_round
        case rel => exact ⟨k + 1, by omega, by go_num, E, rfl, HNX.out⟩
        case measure => simp [intOf]; omega
    · obtain rfl : k = n := by omega
      have hlt2 : ¬ (k : Int) < (k : Int) := by omega
      go_wp2_with fail
      go_ret
      exact ⟨by rw [← hx.out]; rfl, HB0.out⟩

end Go.Proofs.YtpgnabmkfkcogaaGreatDoor

namespace Go.Proofs.YtpgnabmkfkcogaaGreatDoor
open Go.RowKit

/-- a table the first variables of which are some elements -/
def fxs (p : Nat) (t : List Int) (fs : Nat → Int) : Nat → List Int
  | 0 => t
  | k + 1 => fixl p (fxs p t fs k) (fs k)
theorem fxs_len {p n : Nat} {t : List Int} (fs : Nat → Int) (h : t.length = 2 ^ n) : ∀ k, k ≤ n → (fxs p t fs k).length = 2 ^ (n - k)
  | 0, _ => h
  | k + 1, hk => by
    rw [fxs, fixl_len, fxs_len fs h k (by omega), show n - k = n - (k + 1) + 1 from by omega, Nat.pow_succ]
    omega
theorem fxs_fits {p : Nat} (h3 : 3 ≤ p) (hm : p ≤ 2147483647) {t : List Int} (fs : Nat → Int) (h : Fits t) : ∀ k, Fits (fxs p t fs k)
  | 0 => h
  | _ + 1 => fixl_fits h3 hm _ _
theorem fxs_same {p : Nat} {t : List Int} {fs gs : Nat → Int} : ∀ k, (∀ j, j < k → fs j = gs j) → fxs p t fs k = fxs p t gs k
  | 0, _ => rfl
  | k + 1, h => by rw [fxs, fxs, fxs_same k (fun j hj => h j (by omega)), h k (by omega)]
/-- what a table extends to is what is left of it -/
theorem ext_fxs {p n : Nat} {t : List Int} (at' : Nat → Int) (h : t.length = 2 ^ n) : ∀ k, k ≤ n → (p : Int) ∣ Sum.ext (zat t) at' n - Sum.ext (zat (fxs p t at' k)) (fun j => at' (k + j)) (n - k)
  | 0, _ => by
    have : Sum.ext (zat (fxs p t at' 0)) (fun j => at' (0 + j)) (n - 0) = Sum.ext (zat t) at' n := Sum.ext_same (fun i _ => rfl) (fun j _ => by rw [Nat.zero_add])
    rw [this, Int.sub_self]
    exact Int.dvd_zero _
  | i + 1, hi => by
    have ih := ext_fxs (p := p) at' h i (by omega)
    obtain ⟨m, hm⟩ : ∃ m, n - (i + 1) = m := ⟨_, rfl⟩
    rw [show n - i = m + 1 from by omega, Sum.ext_succ] at ih
    rw [hm]
    have hl : (fxs p t at' i).length = 2 ^ (m + 1) := by rw [fxs_len at' h i (by omega)]; congr 1; omega
    have hh : 2 ^ (m + 1) / 2 = 2 ^ m := by rw [Nat.pow_succ]; omega
    have e : (p : Int) ∣ Sum.ext (fun x => zat (fxs p t at' i) x * (1 - at' (i + 0)) + zat (fxs p t at' i) (x + 2 ^ m) * at' (i + 0)) (fun j => at' (i + (j + 1))) m - Sum.ext (zat (fxs p t at' (i + 1))) (fun j => at' (i + 1 + j)) m := by
      refine Sum.ext_congr (fun x hx => ?_) (fun j _ => ?_)
      · rw [fxs, fixl_at (by rw [hl, hh]; exact hx), hl, hh, Nat.add_zero]
        have := Int.dvd_neg.2 (Pol.emod_dvd p (zat (fxs p t at' i) x * (1 - at' i) + zat (fxs p t at' i) (x + 2 ^ m) * at' i))
        rwa [Int.neg_sub] at this
      · rw [show i + (j + 1) = i + 1 + j from by omega, Int.sub_self]
        exact Int.dvd_zero _
    have := Int.dvd_add ih e
    rwa [show ∀ a b c : Int, a - b + (b - c) = a - c from fun a b c => by omega] at this

/-- a number's bits, the greatest first -/
def bitz (n i k : Nat) : Int := ((i / 2 ^ (n - 1 - k) % 2 : Nat) : Int)
theorem bitz_cut {n k A j : Nat} (_hk : k ≤ n) (hj : j < n - k) : bitz n A (k + j) = bitz (n - k) (A % 2 ^ (n - k)) j := by
  unfold bitz
  have e : n - 1 - (k + j) = n - k - 1 - j := by omega
  rw [e]
  obtain ⟨m, hm⟩ : ∃ m, m = n - k := ⟨_, rfl⟩
  rw [← hm] at hj ⊢
  obtain ⟨d, hd⟩ : ∃ d, d = m - 1 - j := ⟨_, rfl⟩
  rw [← hd]
  have h2 : 2 ^ m = 2 ^ d * 2 ^ (m - d) := by rw [← Nat.pow_add]; congr 1; omega
  have h3 : A % 2 ^ m / 2 ^ d = A / 2 ^ d % 2 ^ (m - d) := by
    rw [h2, Nat.mod_mul_right_div_self]
  rw [h3]
  have h4 : 2 ^ (m - d) = 2 * 2 ^ (m - d - 1) := by rw [show m - d = m - d - 1 + 1 from by omega, Nat.pow_succ, Nat.mul_comm]; rfl
  rw [h4, Nat.mod_mul_right_mod]
theorem ext_bits (t : Nat → Int) (v j : Nat) (hj : j < 2 ^ v) : Sum.ext t (bitz v j) v = t j := by
  induction v generalizing t j with
  | zero =>
    rw [Sum.ext_zero]
    congr 1
    simp at hj
    omega
  | succ v ih =>
    rw [Sum.ext_succ]
    have hb : ∀ k, k < v → bitz (v + 1) j (k + 1) = bitz v (j % 2 ^ v) k := fun k hk => by
      have := bitz_cut (n := v + 1) (k := 1) (A := j) (j := k) (by omega) (by omega)
      rw [Nat.add_comm 1 k] at this
      exact this
    by_cases h : j < 2 ^ v
    · have h0 : bitz (v + 1) j 0 = 0 := by
        unfold bitz
        rw [show v + 1 - 1 - 0 = v from by omega, Nat.div_eq_of_lt h]
        rfl
      rw [Sum.ext_same (u := t) (bt := bitz v j) (fun i _ => by rw [h0]; simp) (fun k hk => by rw [hb k hk, Nat.mod_eq_of_lt h])]
      exact ih t j h
    · have h2 : j < 2 ^ v + 2 ^ v := by rw [Nat.pow_succ] at hj; omega
      have hd : j / 2 ^ v = 1 := by
        rw [Nat.div_eq_iff (Nat.two_pow_pos v)]
        omega
      have h0 : bitz (v + 1) j 0 = 1 := by
        unfold bitz
        rw [show v + 1 - 1 - 0 = v from by omega, hd]
        rfl
      have hm : j % 2 ^ v = j - 2 ^ v := by rw [Nat.mod_eq_sub_mod (by omega), Nat.mod_eq_of_lt (by omega)]
      rw [Sum.ext_same (u := fun i => t (i + 2 ^ v)) (bt := bitz v (j - 2 ^ v)) (fun i _ => by rw [h0]; simp) (fun k hk => by rw [hb k hk, hm])]
      rw [ih (fun i => t (i + 2 ^ v)) (j - 2 ^ v) (by omega)]
      congr 1
      omega
/-- a table at first elements, then a number's last bits -/
theorem cut_fxs {p n k A : Nat} {t : List Int} {fs at' : Nat → Int} (h : t.length = 2 ^ n) (hk : k ≤ n) (h1 : ∀ j, j < k → at' j = fs j) (h2 : ∀ j, k ≤ j → j < n → at' j = bitz n A j) : (p : Int) ∣ Sum.ext (zat t) at' n - zat (fxs p t fs k) (A % 2 ^ (n - k)) := by
  have := ext_fxs (p := p) at' h k hk
  rw [fxs_same k h1, Sum.ext_same (u := zat (fxs p t fs k)) (bt := bitz (n - k) (A % 2 ^ (n - k))) (fun i _ => rfl) (fun j hj => by rw [h2 (k + j) (by omega) (by omega), bitz_cut hk hj])] at this
  rw [ext_bits _ _ _ (Nat.mod_lt _ (Nat.two_pow_pos _))] at this
  exact this
/-- a place's first bits, each by its factor -/
theorem wgt_cut {n k A : Nat} (fs : Nat → Int) (hk : k ≤ n) : Sum.wgt fs k (A / 2 ^ (n - k)) = Sum.prz (fun j => if bitz n A j = 0 then 1 - fs j else fs j) k := by
  rw [← prz_wgf]
  refine Sum.prz_same (fun j hj => ?_)
  unfold wgf bitz
  rw [Nat.div_div_eq_div_mul, ← Nat.pow_add, show n - k + (k - 1 - j) = n - 1 - j from by omega]
  generalize A / 2 ^ (n - 1 - j) % 2 = X
  by_cases e : X = 0
  · rw [if_pos e, if_pos (by omega)]
  · rw [if_neg e, if_neg (by omega)]

/-- a gate's part in a layer's sum with the first variables fixed -/
def ptt (p : Nat) (gs : List GatZ) (below : List Int) (n : Nat) (z xs : List Int) (i : Nat) : Int :=
  Sum.wgt (zat z) z.length i * Sum.wgt (zat xs) (min xs.length n) ((gat gs i).a.toNat / 2 ^ (n - min xs.length n)) * Sum.wgt (fun j => zat xs (min xs.length n + j)) (xs.length - min xs.length n) ((gat gs i).b.toNat / 2 ^ (n - (xs.length - min xs.length n))) *
    jnz p (gat gs i).kind (zat (fxs p below (zat xs) (min xs.length n)) ((gat gs i).a.toNat % 2 ^ (n - min xs.length n))) (zat (fxs p below (fun j => zat xs (min xs.length n + j)) (xs.length - min xs.length n)) ((gat gs i).b.toNat % 2 ^ (n - (xs.length - min xs.length n))))
/-- a layer's sum -/
def ptz (p : Nat) (gs : List GatZ) (below : List Int) (n : Nat) (z xs : List Int) : Int := Dom.sm (ptt p gs below n z xs) gs.length % (p : Int)

end Go.Proofs.YtpgnabmkfkcogaaGreatDoor

namespace Go.Proofs.YtpgnabmkfkcogaaGreatDoor
open Go.RowKit

theorem prz_split (f : Nat → Int) (a b : Nat) : Sum.prz f (a + b) = Sum.prz f a * Sum.prz (fun j => f (a + j)) b := by
  induction b with
  | zero => simp [Sum.prz]
  | succ b ih => rw [← Nat.add_assoc, Sum.prz, Sum.prz, ih, Int.mul_assoc]
theorem jnz_congr {p : Nat} {kind x y x' y' : Int} (hx : (p : Int) ∣ x - x') (hy : (p : Int) ∣ y - y') : jnz p kind x y = jnz p kind x' y' := by
  unfold jnz
  split
  · exact emod_of_dvd (Sum.dvd_add_sub hx hy)
  · exact emod_of_dvd (Sum.dvd_mul_sub hx hy)
/-- two numbers' bits, one behind the other -/
def abz (n A B k : Nat) : Int := if k < n then bitz n A k else bitz n B (k - n)
/-- a variable's factor -/
def gfac (n A B : Nat) (xs : List Int) (k : Nat) : Int := if abz n A B k = 0 then 1 - zat xs k else zat xs k
theorem prz_gfac {n A B : Nat} {xs : List Int} (h : xs.length ≤ 2 * n) : Sum.prz (gfac n A B xs) xs.length = Sum.wgt (zat xs) (min xs.length n) (A / 2 ^ (n - min xs.length n)) * Sum.wgt (fun j => zat xs (min xs.length n + j)) (xs.length - min xs.length n) (B / 2 ^ (n - (xs.length - min xs.length n))) := by
  obtain ⟨m, hm⟩ : ∃ m, m = min xs.length n := ⟨_, rfl⟩
  rw [← hm]
  have e : xs.length = m + (xs.length - m) := by omega
  rw [wgt_cut _ (show m ≤ n by omega), wgt_cut _ (show xs.length - m ≤ n by omega)]
  conv => lhs; rw [e]
  rw [prz_split]
  congr 1
  · refine Sum.prz_same (fun k hk => ?_)
    unfold gfac abz
    rw [if_pos (show k < n by omega)]
  · refine Sum.prz_same (fun k hk => ?_)
    have hmn : m = n := by omega
    unfold gfac abz
    rw [if_neg (show ¬ m + k < n by omega), show m + k - n = k from by omega]
/-- the points that a gate's sum is looked at: elements, then bits -/
def xpt (n A B : Nat) (xs : List Int) (k : Nat) : Int := if k < xs.length then zat xs k else abz n A B k
theorem x_dvd {p n A B : Nat} {t xs : List Int} (ht : t.length = 2 ^ n) : (p : Int) ∣ Sum.ext (zat t) (xpt n A B xs) n % (p : Int) - zat (fxs p t (zat xs) (min xs.length n)) (A % 2 ^ (n - min xs.length n)) := by
  have h := cut_fxs (p := p) (n := n) (k := min xs.length n) (A := A) (t := t) (fs := zat xs) (at' := xpt n A B xs) ht (by omega) (fun j hj => by unfold xpt; rw [if_pos (by omega)]) (fun j h1 h2 => by unfold xpt abz; rw [if_neg (by omega), if_pos h2])
  have h2 := Int.dvd_add (Pol.emod_dvd p (Sum.ext (zat t) (xpt n A B xs) n)) h
  generalize Sum.ext (zat t) (xpt n A B xs) n % (p : Int) = a at *
  generalize Sum.ext (zat t) (xpt n A B xs) n = b at *
  generalize zat (fxs p t (zat xs) (min xs.length n)) (A % 2 ^ (n - min xs.length n)) = c at *
  rwa [show a - b + (b - c) = a - c from by omega] at h2
theorem y_dvd {p n A B : Nat} {t xs : List Int} (ht : t.length = 2 ^ n) (hl : xs.length ≤ 2 * n) : (p : Int) ∣ Sum.ext (zat t) (fun j => xpt n A B xs (n + j)) n % (p : Int) - zat (fxs p t (fun j => zat xs (min xs.length n + j)) (xs.length - min xs.length n)) (B % 2 ^ (n - (xs.length - min xs.length n))) := by
  have h := cut_fxs (p := p) (n := n) (k := xs.length - min xs.length n) (A := B) (t := t) (fs := fun j => zat xs (min xs.length n + j)) (at' := fun j => xpt n A B xs (n + j)) ht (by omega) (fun j hj => by
    have e : min xs.length n = n := by omega
    show xpt n A B xs (n + j) = _
    unfold xpt
    rw [if_pos (by omega), e]) (fun j h1 h2 => by
    show xpt n A B xs (n + j) = _
    unfold xpt abz
    rw [if_neg (by omega), if_neg (by omega), Nat.add_sub_cancel_left])
  have h2 := Int.dvd_add (Pol.emod_dvd p (Sum.ext (zat t) (fun j => xpt n A B xs (n + j)) n)) h
  generalize Sum.ext (zat t) (fun j => xpt n A B xs (n + j)) n % (p : Int) = a at *
  generalize Sum.ext (zat t) (fun j => xpt n A B xs (n + j)) n = b at *
  generalize zat (fxs p t (fun j => zat xs (min xs.length n + j)) (xs.length - min xs.length n)) (B % 2 ^ (n - (xs.length - min xs.length n))) = c at *
  rwa [show a - b + (b - c) = a - c from by omega] at h2
/-- a gate's part, as the reference reckons it -/
theorem ptt_ref {p n i : Nat} {gs : List GatZ} {below z xs : List Int} {M : Int} (ht : below.length = 2 ^ n) (hl : xs.length ≤ 2 * n) (hM : (p : Int) ∣ M - Sum.wgt (zat z) z.length i * Sum.prz (gfac n (gat gs i).a.toNat (gat gs i).b.toNat xs) xs.length) :
    (Dom.sm (ptt p gs below n z xs) i % (p : Int) + M * jnz p (gat gs i).kind (Sum.ext (zat below) (xpt n (gat gs i).a.toNat (gat gs i).b.toNat xs) n % (p : Int)) (Sum.ext (zat below) (fun j => xpt n (gat gs i).a.toNat (gat gs i).b.toNat xs (n + j)) n % (p : Int)) % (p : Int)) % (p : Int) = Dom.sm (ptt p gs below n z xs) (i + 1) % (p : Int) := by
  rw [jnz_congr (x_dvd (A := (gat gs i).a.toNat) (B := (gat gs i).b.toNat) (xs := xs) ht) (y_dvd (A := (gat gs i).a.toNat) (B := (gat gs i).b.toNat) (xs := xs) ht hl)]
  refine emod_of_dvd ?_
  rw [Dom.sm]
  refine Sum.dvd_add_sub (Pol.emod_dvd p _) ?_
  unfold ptt
  rw [prz_gfac hl, ← Int.mul_assoc] at hM
  have h1 := Sum.dvd_mul_sub hM (show (p : Int) ∣ jnz p (gat gs i).kind (zat (fxs p below (zat xs) (min xs.length n)) ((gat gs i).a.toNat % 2 ^ (n - min xs.length n))) (zat (fxs p below (fun j => zat xs (min xs.length n + j)) (xs.length - min xs.length n)) ((gat gs i).b.toNat % 2 ^ (n - (xs.length - min xs.length n)))) - jnz p (gat gs i).kind (zat (fxs p below (zat xs) (min xs.length n)) ((gat gs i).a.toNat % 2 ^ (n - min xs.length n))) (zat (fxs p below (fun j => zat xs (min xs.length n + j)) (xs.length - min xs.length n)) ((gat gs i).b.toNat % 2 ^ (n - (xs.length - min xs.length n)))) from by rw [Int.sub_self]; exact Int.dvd_zero _)
  generalize jnz p (gat gs i).kind (zat (fxs p below (zat xs) (min xs.length n)) ((gat gs i).a.toNat % 2 ^ (n - min xs.length n))) (zat (fxs p below (fun j => zat xs (min xs.length n + j)) (xs.length - min xs.length n)) ((gat gs i).b.toNat % 2 ^ (n - (xs.length - min xs.length n)))) = J at *
  have h2 := Int.dvd_add (Pol.emod_dvd p (M * J)) h1
  generalize M * J % (p : Int) = a at *
  generalize M * J = b at *
  rwa [show ∀ c : Int, a - b + (b - c) = a - c from fun c => by omega] at h2

end Go.Proofs.YtpgnabmkfkcogaaGreatDoor

namespace Go.Proofs.YtpgnabmkfkcogaaGreatDoor
open Go.RowKit

end Go.Proofs.YtpgnabmkfkcogaaGreatDoor

namespace Go.Proofs.YtpgnabmkfkcogaaGreatDoor
open Go.RowKit

end Go.Proofs.YtpgnabmkfkcogaaGreatDoor
