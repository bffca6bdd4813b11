/- Package gates: variables, own, joined, product, weight. Package gates: levelOf. A region that draws its order, walked by hand: what is read is taken first. A region that draws its order, walked by hand: an operation that is not wanted is passed by. -/
import Derived.Test.YtaapbopcfpihbaaDoorGpAI
import Derived.Test.YtaapbopcfpihbaaDoorGpAJ
import Derived.StillTailTactics
import Derived.Test.YtaapbopcfpihbaaDoorTres
import Derived.Test.YtaapbopcfpihbaaDoorFld
import Derived.OrdersHeld
import Derived.Deep.RegionHeld3
namespace Go.Proofs.YtaapbopcfpihbaaDoor
open Go.RowKit

theorem prz_back (f : Nat → Int) (n : Nat) : Sum.prz (fun k => f (n - 1 - k)) n = Sum.prz f n := by
  induction n generalizing f with
  | zero => rfl
  | succ n ih =>
    rw [prz_front f n, ← ih (fun k => f (k + 1))]
    rw [Sum.prz, show n + 1 - 1 - n = 0 from by omega, Int.mul_comm]
    congr 1
    exact Sum.prz_same (fun k hk => by rw [show n + 1 - 1 - k = n - 1 - k + 1 from by omega])
/-- a place's factor at a variable -/
def wgf (at' : Nat → Int) (v i t : Nat) : Int := if (i / 2 ^ (v - 1 - t)) % 2 = 0 then 1 - at' t else at' t
theorem prz_wgf (at' : Nat → Int) (v i : Nat) : Sum.prz (wgf at' v i) v = Sum.wgt at' v i := by
  rw [← prz_back]
  unfold Sum.wgt
  refine Sum.prz_same (fun k hk => ?_)
  unfold wgf
  rw [show v - 1 - (v - 1 - k) = k from by omega]

set_option maxRecDepth 100000 in
theorem gvars_any (n v : Nat) (w : World) (hv : v ≤ 6) (hn : n = 2 ^ v) (hT : TabAt 2 Lib.deBruijn64tab w) :
    Calls Tryd.prog 47 #[.int .i64 (n : Int)] w fun e w' => e = .returned (.int .i64 (v : Int)) ∧ w' = w := by
  have h1 := pow_6 hv
  have h0 : 0 < 2 ^ v := Nat.pow_pos (by decide)
  have HZ : Hid (Calls Tryd.prog 58 #[.int .u64 (n : Int)] w fun e w' => e = .returned (.int .i64 (v : Int)) ∧ w' = w) := by
    refine (tz_any n (by omega) (by omega) w hT).mono ?_
    rintro e w' ⟨S, m, rfl, _, h, hw⟩
    rw [hn] at h
    rw [pow_odd h]
    exact ⟨rfl, hw⟩
  have hn2 : n ≤ 64 := by omega
  clear hn hT h1 h0
  go_enter Tryd.func47, Tryd.ntmps47
  go_wp2_with fail
  refine HZ.out.mono ?_
  rintro e w1 ⟨rfl, rfl⟩
  go_wp2_with fail
  go_ret
  exact ⟨rfl, rfl⟩

set_option maxRecDepth 100000 in
theorem gown_any (x y : Value) (n v c : Nat) (a : Option Addr) (w : World) (hv : v ≤ 6) (hn : n = 2 ^ v) (hT : TabAt 2 Lib.deBruijn64tab w) :
    Calls Tryd.prog 30 #[.agg #[x, .slice a n c, y]] w fun e w' => e = .returned (.int .i64 (v : Int)) ∧ Below w.heap.size w w' := by
  obtain ⟨W0, hW0⟩ : ∃ W0, W0 = w.alloc (.cells #[x, .slice a n c, y] 64) := ⟨_, rfl⟩
  obtain ⟨hb0, hs0, hz0⟩ := own_blk hW0
  have HV := hid (gvars_any n v W0 hv hn (tabu_below hT hb0))
  have HB0 := hid hb0
  clear hb0 hs0 hz0 hT hn
  go_enter Tryd.func30, Tryd.ntmps30
  go_wp2_with fail
  rw [← hW0]
  clear hW0
  refine HV.out.mono ?_
  rintro e w1 ⟨rfl, hw⟩
  have hw1 := hw.symm
  subst hw1
  clear hw
  go_wp2_with fail
  go_ret
  exact ⟨rfl, HB0.out⟩

set_option maxRecDepth 100000 in
set_option maxHeartbeats 1000000 in
theorem gjoined_any (p b : Nat) (y z : Value) (kind x1 x2 : Int) (w : World) (h3 : 3 ≤ p) (hm : p ≤ 2147483647) (hp : w.cell? ⟨b, 0, none⟩ = some (.int .i64 p)) (h11 : -9223372036854775808 ≤ x1) (h12 : x1 ≤ 9223372036854775807) (h21 : -9223372036854775808 ≤ x2) (h22 : x2 ≤ 9223372036854775807) :
    Calls Tryd.prog 53 #[.agg #[.pointer (some ⟨b, 0, none⟩), y, z], .int .i64 kind, .int .i64 x1, .int .i64 x2] w fun e w' => e = .returned (.int .i64 (jnz p kind x1 x2)) ∧ Below w.heap.size w w' := by
  obtain ⟨W0, hW0⟩ : ∃ W0, W0 = w.alloc (.cells #[.pointer (some ⟨b, 0, none⟩), y, z] 64) := ⟨_, rfl⟩
  obtain ⟨hb0, hs0, hz0⟩ := own_blk hW0
  have hp0 := (hb0.cell (p := ⟨b, 0, none⟩) (heap_lt hp)).trans hp
  have HA := hid (add_any p b x1 x2 W0 h3 hm hp0 h11 h12 h21 h22)
  have HM := hid (mul_any p b x1 x2 W0 h3 hm hp0 h11 h12 h21 h22)
  have HB0 := hid hb0
  clear hb0 hs0 hz0 hp hp0
  by_cases hk : kind = 0
  · have hk2 : (kind == 0) = true := by rw [hk]; rfl
    have HJ : Hid (jnz p kind x1 x2 = (x1 + x2) % (p : Int)) := by unfold Hid jnz; rw [if_pos hk]
    generalize jnz p kind x1 x2 = J at *
    generalize (x1 + x2) % (p : Int) = E at *
    clear hk HM
    go_enter Tryd.func53, Tryd.ntmps53
    go_wp2_with fail
    rw [← hW0]
    clear hW0
    refine HA.out.mono ?_
    rintro e w1 ⟨rfl, hw⟩
    have hw1 := hw.symm
    subst hw1
    clear hw
    go_wp2_with fail
    go_ret
    exact ⟨by rw [HJ.out]; rfl, HB0.out⟩
  · have hk2 : (kind == 0) = false := by rw [beq_eq_false_iff_ne]; exact hk
    have HJ : Hid (jnz p kind x1 x2 = x1 * x2 % (p : Int)) := by unfold Hid jnz; rw [if_neg hk]
    generalize jnz p kind x1 x2 = J at *
    generalize x1 * x2 % (p : Int) = E at *
    clear hk HA
    go_enter Tryd.func53, Tryd.ntmps53
    go_wp2_with fail
    rw [← hW0]
    clear hW0
    refine HM.out.mono ?_
    rintro e w1 ⟨rfl, hw⟩
    have hw1 := hw.symm
    subst hw1
    clear hw
    go_wp2_with fail
    go_ret
    exact ⟨by rw [HJ.out]; rfl, HB0.out⟩

theorem bit_and (i m : Nat) : (bits BinOp.and IntKind.i64 ((i : Int) / 2 ^ m) 1 == 0) = decide ((i / 2 ^ m) % 2 = 0) := by
  rw [andn_i64 1 _ (by omega) 1 rfl]
  have e : (i : Int) / 2 ^ m = ((i / 2 ^ m : Nat) : Int) := by rw [Int.natCast_ediv]; simp
  rw [e]
  generalize i / 2 ^ m = X
  rw [Bool.eq_iff_iff, beq_iff_eq, decide_eq_true_eq]
  omega
theorem prz_mod {p : Nat} (f : Nat → Int) (k : Nat) (r : Int) (h : (p : Int) ∣ r - f k) : (Sum.prz f k % (p : Int)) * r % (p : Int) = Sum.prz f (k + 1) % (p : Int) := by
  refine emod_of_dvd ?_
  have h1 : (p : Int) ∣ Sum.prz f k % (p : Int) - Sum.prz f k := Pol.emod_dvd p _
  exact Sum.dvd_mul_sub h1 h

set_option maxRecDepth 100000 in
set_option maxHeartbeats 1000000 in
theorem gproduct_any (p b cap : Nat) (y z : Value) (a : Option Addr) (zs : List Int) (w : World) (h3 : 3 ≤ p) (hm : p ≤ 2147483647) (hp : w.cell? ⟨b, 0, none⟩ = some (.int .i64 p)) (hn : zs.length ≤ 281474976710656) (hf : Fits zs) (hr : RowB w.heap.size w a zs) :
    Calls Tryd.prog 49 #[.agg #[.pointer (some ⟨b, 0, none⟩), y, z], .slice a zs.length cap] w fun e w' => e = .returned (.int .i64 (Sum.prz (zat zs) zs.length % (p : Int))) ∧ Below w.heap.size w w' := by
  obtain ⟨W0, hW0⟩ : ∃ W0, W0 = w.alloc (.cells #[.pointer (some ⟨b, 0, none⟩), y, z] 64) := ⟨_, rfl⟩
  obtain ⟨hb0, hs0, hz0⟩ := own_blk hW0
  have hp0 := (hb0.cell (p := ⟨b, 0, none⟩) (heap_lt hp)).trans hp
  obtain ⟨G, hG⟩ : ∃ G, G = w.heap.size := ⟨_, rfl⟩
  have HGE := hid hG
  rw [← hG] at hs0
  have c0 : W0.cell? ⟨G, 0, none⟩ = some (.pointer (some ⟨b, 0, none⟩)) := by simp [World.cell?, hs0]
  have HM : Hid (∀ x y : Int, -9223372036854775808 ≤ x → x ≤ 9223372036854775807 → -9223372036854775808 ≤ y → y ≤ 9223372036854775807 → Calls Tryd.prog 59 #[.pointer (some ⟨b, 0, none⟩), .int .i64 x, .int .i64 y] W0 fun e w' => e = .returned (.int .i64 (x * y % (p : Int))) ∧ w' = W0) := fun x y h1 h2 h4 h5 => mul_any p b x y W0 h3 hm hp0 h1 h2 h4 h5
  have HB0 := hid hb0
  have HRO := hid ((hr.below hb0).mono hb0.size)
  have HF := hid hf
  have HST : Hid (∀ k r, (p : Int) ∣ r - zat zs k → (Sum.prz (zat zs) k % (p : Int)) * r % (p : Int) = Sum.prz (zat zs) (k + 1) % (p : Int)) := fun k r h => prz_mod _ _ _ h
  have HZ : Hid (∀ k, 0 ≤ Sum.prz (zat zs) k % (p : Int) ∧ Sum.prz (zat zs) k % (p : Int) < p) := fun k => emod_bounds _ p h3
  have HO : Hid (Sum.prz (zat zs) 0 % (p : Int) = 1) := by unfold Hid; rw [Sum.prz]; exact Int.emod_eq_of_lt (by omega) (by omega)
  obtain ⟨P, hP⟩ : ∃ P : Nat → Int, P = fun k => Sum.prz (zat zs) k % (p : Int) := ⟨_, rfl⟩
  have HST2 : Hid (∀ k r, (p : Int) ∣ r - zat zs k → P k * r % (p : Int) = P (k + 1)) := fun k r h => by rw [hP]; exact HST.out k r h
  have HZ2 : Hid (∀ k, 0 ≤ P k ∧ P k < p) := fun k => by rw [hP]; exact HZ.out k
  have HO2 : Hid (P 0 = 1) := by unfold Hid; rw [hP]; exact HO.out
  obtain ⟨n, hnn⟩ : ∃ n, n = zs.length := ⟨_, rfl⟩
  have HN := hid hnn
  rw [show Sum.prz (zat zs) zs.length % (p : Int) = P n from by rw [hP, hnn]]
  rw [← hnn] at hn ⊢
  clear hb0 hs0 hz0 hp hp0 hr hf HST HZ HO hP hnn hG
  go_enter Tryd.func49, Tryd.ntmps49
  go_wp2_with fail
  rw [← HGE.out, ← hW0]
  clear hW0
  go_loop [5, 7, 10] (fun ov _ iv => ∃ k : Nat, k ≤ n ∧ iv = .int .i64 (k : Int) ∧ ∃ x : Int, ov = .int .i64 x ∧ Hid (x = P k)) (fun _ _ iv => n - (intOf iv).toNat)
  case atStart => exact ⟨0, by omega, rfl, 1, rfl, HO2.out.symm⟩
  case round =>
    obtain ⟨k, hk, rfl, x, rfl, hx⟩ := hrel
    by_cases hlt : k < n
    · have hlt2 : (k : Int) < (n : Int) := by omega
      have hks : IntKind.i64.wrap ((k : Int) + 1) = (k : Int) + 1 := by rw [IntKind.wrap_i64]; omega
      obtain ⟨b0, o0, rfl, hb0, hx0⟩ := HRO.out k (by rw [← HN.out]; exact hlt)
      obtain ⟨f1, f2⟩ := HF.out.all k
      have hz := HZ2.out k
      rw [← hx.out] at hz
      have HMU := hid (HM.out x (zat zs k) (by omega) (by omega) f1 f2)
      have HNX : Hid (x * zat zs k % (p : Int) = P (k + 1)) := by unfold Hid; rw [hx.out]; exact HST2.out k _ (by simp)
      generalize zat zs k = r at *
      generalize x * r % (p : Int) = E at *
      clear hx f1 f2 hz
      go_wp2_with fail
      refine HMU.out.mono ?_
      rintro e w1 ⟨rfl, hw⟩
      have hw1 := hw.symm
      subst hw1
      clear hw
      go_wp2_with fail
      go_round
      case rel => exact ⟨k + 1, by omega, by go_num, E, rfl, HNX.out⟩
      case measure => simp [intOf]; omega
    · obtain rfl : k = n := by omega
      have hlt2 : ¬ (k : Int) < (k : Int) := by omega
      go_wp2_with fail
      go_ret
      exact ⟨by rw [← hx.out]; rfl, HB0.out⟩

set_option maxRecDepth 100000 in
set_option maxHeartbeats 1000000 in
theorem weight_any (p b cap i : Nat) (y z : Value) (a : Option Addr) (at' : List Int) (w : World) (h3 : 3 ≤ p) (hm : p ≤ 2147483647) (hp : w.cell? ⟨b, 0, none⟩ = some (.int .i64 p)) (hv : at'.length ≤ 60) (hf : Fits at') (hr : RowB w.heap.size w a at') :
    Calls Tryd.prog 50 #[.agg #[.pointer (some ⟨b, 0, none⟩), y, z], .int .i64 (i : Int), .slice a at'.length cap] w fun e w' => e = .returned (.int .i64 (Sum.wgt (zat at') at'.length i % (p : Int))) ∧ Below w.heap.size w w' := by
  obtain ⟨W0, hW0⟩ : ∃ W0, W0 = w.alloc (.cells #[.pointer (some ⟨b, 0, none⟩), y, z] 64) := ⟨_, rfl⟩
  obtain ⟨hb0, hs0, hz0⟩ := own_blk hW0
  have hp0 := (hb0.cell (p := ⟨b, 0, none⟩) (heap_lt hp)).trans hp
  obtain ⟨G, hG⟩ : ∃ G, G = w.heap.size := ⟨_, rfl⟩
  have HGE := hid hG
  rw [← hG] at hs0
  have c0 : W0.cell? ⟨G, 0, none⟩ = some (.pointer (some ⟨b, 0, none⟩)) := by simp [World.cell?, hs0]
  have HM : Hid (∀ x y : Int, -9223372036854775808 ≤ x → x ≤ 9223372036854775807 → -9223372036854775808 ≤ y → y ≤ 9223372036854775807 → Calls Tryd.prog 59 #[.pointer (some ⟨b, 0, none⟩), .int .i64 x, .int .i64 y] W0 fun e w' => e = .returned (.int .i64 (x * y % (p : Int))) ∧ w' = W0) := fun x y h1 h2 h4 h5 => mul_any p b x y W0 h3 hm hp0 h1 h2 h4 h5
  have HSU : Hid (∀ x y : Int, -9223372036854775808 ≤ x → x ≤ 9223372036854775807 → -9223372036854775808 ≤ y → y ≤ 9223372036854775807 → Calls Tryd.prog 60 #[.pointer (some ⟨b, 0, none⟩), .int .i64 x, .int .i64 y] W0 fun e w' => e = .returned (.int .i64 ((x - y) % (p : Int))) ∧ w' = W0) := fun x y h1 h2 h4 h5 => sub_any p b x y W0 h3 hm hp0 h1 h2 h4 h5
  have HB0 := hid hb0
  have HRO := hid ((hr.below hb0).mono hb0.size)
  have HF := hid hf
  obtain ⟨n, hnn⟩ : ∃ n, n = at'.length := ⟨_, rfl⟩
  obtain ⟨P, hP⟩ : ∃ P : Nat → Int, P = fun k => Sum.prz (wgf (zat at') n i) k % (p : Int) := ⟨_, rfl⟩
  have HST2 : Hid (∀ k r, (p : Int) ∣ r - wgf (zat at') n i k → P k * r % (p : Int) = P (k + 1)) := fun k r h => by rw [hP]; exact prz_mod _ _ _ h
  have HZ2 : Hid (∀ k, 0 ≤ P k ∧ P k < p) := fun k => by rw [hP]; exact emod_bounds _ p h3
  have HO2 : Hid (P 0 = 1) := by unfold Hid; rw [hP]; show Sum.prz _ 0 % _ = 1; rw [Sum.prz]; exact Int.emod_eq_of_lt (by omega) (by omega)
  have HN := hid hnn
  rw [show Sum.wgt (zat at') at'.length i % (p : Int) = P n from by rw [hP, ← hnn]; show _ = Sum.prz _ n % _; rw [prz_wgf]]
  rw [← hnn] at hv ⊢
  clear hb0 hs0 hz0 hp hp0 hr hf hP hnn hG
  go_enter Tryd.func50, Tryd.ntmps50
  go_wp2_with fail
  rw [← HGE.out, ← hW0]
  clear hW0
  go_loop [7, 8, 9, 12] (fun ov _ _ iv => ∃ k : Nat, k ≤ n ∧ iv = .int .i64 (k : Int) ∧ ∃ x : Int, ov = .int .i64 x ∧ Hid (x = P k)) (fun _ _ _ iv => n - (intOf iv).toNat)
  case atStart => exact ⟨0, by omega, rfl, 1, rfl, HO2.out.symm⟩
  case round =>
    obtain ⟨k, hk, rfl, x, rfl, hx⟩ := hrel
    by_cases hlt : k < n
    · have hlt2 : (k : Int) < (n : Int) := by omega
      have hks : IntKind.i64.wrap ((k : Int) + 1) = (k : Int) + 1 := by rw [IntKind.wrap_i64]; omega
      obtain ⟨b0, o0, rfl, hb0, hx0⟩ := HRO.out k (by rw [← HN.out]; exact hlt)
      obtain ⟨f1, f2⟩ := HF.out.all k
      have hz := HZ2.out k
      rw [← hx.out] at hz
      have hbt := bit_and i (n - 1 - k)
      by_cases hb : (i / 2 ^ (n - 1 - k)) % 2 = 0
      · rw [decide_eq_true hb] at hbt
        have HSX := hid (HSU.out 1 (zat at' k) (by omega) (by omega) f1 f2)
        obtain ⟨t1, t2⟩ := emod_bounds (1 - zat at' k) p h3
        have HMU := hid (HM.out x ((1 - zat at' k) % (p : Int)) (by omega) (by omega) (by omega) (by omega))
        have HNX : Hid (x * ((1 - zat at' k) % (p : Int)) % (p : Int) = P (k + 1)) := by
          unfold Hid
          rw [hx.out]
          refine HST2.out k _ ?_
          unfold wgf
          rw [if_pos hb]
          exact Pol.emod_dvd p _
        generalize (1 - zat at' k) % (p : Int) = s at *
        generalize zat at' k = r at *
        generalize x * s % (p : Int) = E at *
        clear hx f1 f2 hz hb t1 t2
        go_wp2_with fail
        refine HSX.out.mono ?_
        rintro e w1 ⟨rfl, hw⟩
        have hw1 := hw.symm
        subst hw1
        clear hw
        go_wp2_with fail
        refine HMU.out.mono ?_
        rintro e w1 ⟨rfl, hw⟩
        have hw1 := hw.symm
        subst hw1
        clear hw
        go_wp2_with fail
        go_round
        case rel => exact ⟨k + 1, by omega, by go_num, E, rfl, HNX.out⟩
        case measure => simp [intOf]; omega
      · rw [decide_eq_false hb] at hbt
        have HMU := hid (HM.out x (zat at' k) (by omega) (by omega) f1 f2)
        have HNX : Hid (x * zat at' k % (p : Int) = P (k + 1)) := by
          unfold Hid
          rw [hx.out]
          refine HST2.out k _ ?_
          unfold wgf
          rw [if_neg hb]
          simp
        generalize zat at' k = r at *
        generalize x * r % (p : Int) = E at *
        clear hx f1 f2 hz hb
        go_wp2_with fail
        refine HMU.out.mono ?_
        rintro e w1 ⟨rfl, hw⟩
        have hw1 := hw.symm
        subst hw1
        clear hw
        go_wp2_with fail
        go_round
        case rel => exact ⟨k + 1, by omega, by go_num, E, rfl, HNX.out⟩
        case measure => simp [intOf]; omega
    · obtain rfl : k = n := by omega
      have hlt2 : ¬ (k : Int) < (k : Int) := by omega
      go_wp2_with fail
      go_ret
      exact ⟨by rw [← hx.out]; rfl, HB0.out⟩

end Go.Proofs.YtaapbopcfpihbaaDoor

namespace Go.Proofs.YtaapbopcfpihbaaDoor
open Go.RowKit

set_option maxRecDepth 100000 in
set_option maxHeartbeats 1000000 in
theorem levelOf_any (b i cL : Nat) (wide : Int) (aL : Option Addr) (lys : List (List GatZ)) (w : World) (hS : SzC wide lys) (hi : i < lys.length) (hl : LstGG w.heap.size w aL cL lys) (hT : TabAt 2 Lib.deBruijn64tab w) :
    Calls Tryd.prog 29 #[.pointer (some ⟨b, 0, none⟩), .agg #[.int .i64 wide, .slice aL lys.length cL], .int .i64 (i : Int)] w fun e w' => ∃ ag cg, e = .returned (.agg #[.pointer (some ⟨b, 0, none⟩), .slice ag (lyt lys i).length cg, .int .i64 (bnn wide lys i : Int)]) ∧ LstG w.heap.size w ag cg (lyt lys i) ∧ Below w.heap.size w w' := by
  have HRL : Hid (((w.alloc (.cells #[.int .i64 wide, .slice aL lys.length cL] 24)).alloc (.cells #[.pointer none, .slice none 0 0, .int .i64 0] 64)).heap[w.heap.size + 1]? = some (.cells #[.pointer none, .slice none 0 0, .int .i64 0] 64 (0, 0))) := by
    have := heap_alloc_new (w.alloc (.cells #[.int .i64 wide, .slice aL lys.length cL] 24)) (.cells #[.pointer none, .slice none 0 0, .int .i64 0] 64)
    rw [show (w.alloc (.cells #[.int .i64 wide, .slice aL lys.length cL] 24)).heap.size = w.heap.size + 1 from by simp] at this
    exact this
  have HB1 : Hid (Below w.heap.size w ((w.alloc (.cells #[.int .i64 wide, .slice aL lys.length cL] 24)).alloc (.cells #[.pointer none, .slice none 0 0, .int .i64 0] 64))) := ((Below.refl _ _).alloc (Nat.le_refl _) _).alloc (by simp) _
  obtain ⟨bi, oi, ag, cg, ha, hbi, hci, hgi⟩ := hl.row i hi
  have HGI := hid hgi
  subst ha
  obtain ⟨q0, q1⟩ := hS.bn (i := i) (by omega)
  have hlen := hS.2.1.2
  have hin : (i : Int) < (lys.length : Int) := by omega
  have hbi2 : bi < w.heap.size + 1 := by omega
  by_cases e0 : i = 0
  · have q2 : wide = (bnn wide lys i : Int) := by rw [← q0]; unfold bnz; rw [if_pos e0]
    rw [← q2]
    have hi0 : ¬ (0 : Int) < (i : Int) := by omega
    generalize (lyt lys i).length = N at *
    generalize lys.length = n at *
    clear hS hl hgi q0 q1 q2 e0 hT
    go_enter Tryd.func29, Tryd.ntmps29
    go_wp2_with (refine wpList_store_row rfl 64 _ _ rfl (w.heap.size + 1) #[.pointer (some ⟨b, 0, none⟩), .slice ag N cg, .int .i64 wide] rfl rfl _ _ HRL.out (by kernel_rfl) rfl (by simp [Value.oneCell']) ?_)
    refine bodyPost_ret (results_cell_row rfl _ _ (w.heap.size + 1) 64 #[.pointer (some ⟨b, 0, none⟩), .slice ag N cg, .int .i64 wide] (0, 0) _ rfl (setRow_heap _ _ _ _ _ _ HRL.out) Tryd.underlying64 rfl (by kernel_rfl)) rfl ?_
    exact ⟨ag, cg, rfl, HGI.out, below_setRow HB1.out (by omega) _⟩
  · obtain ⟨j, hj⟩ : ∃ j, j = i - 1 := ⟨_, rfl⟩
    obtain ⟨bj, oj, aj, cj, ha, hbj, hcj, _⟩ := hl.row j (by omega)
    injection ha with ha
    injection ha with ha1 ha2 _
    subst ha1
    subst ha2
    have hbl : bnn wide lys i ≤ 6 := q1
    obtain ⟨o1, o2⟩ := hS.own (i := j) (by omega)
    rw [show j + 1 = i from by omega] at o1 o2
    have HV := hid (gvars_any (lyt lys j).length (bnn wide lys i) _ hbl o1 (tabu_below hT HB1.out))
    have hi0 : (0 : Int) < (i : Int) := by omega
    have hij : (i : Int) - 1 = (j : Int) := by omega
    have hjn : (j : Int) < (lys.length : Int) := by omega
    generalize bnn wide lys i = B at *
    generalize (lyt lys i).length = N at *
    generalize (lyt lys j).length = M at *
    generalize lys.length = n at *
    clear hS hl hgi q0 q1 e0 hT hbl o1 o2 hj
    go_enter Tryd.func29, Tryd.ntmps29
    go_wp2_with fail
    refine HV.out.mono ?_
    rintro e w1 ⟨rfl, hw⟩
    have hw1 := hw.symm
    subst hw1
    clear hw HV
    go_wp2_with (refine wpList_store_row rfl 64 _ _ rfl (w.heap.size + 1) #[.pointer (some ⟨b, 0, none⟩), .slice ag N cg, .int .i64 (B : Int)] rfl rfl _ _ HRL.out (by kernel_rfl) rfl (by simp [Value.oneCell']) ?_)
    refine bodyPost_ret (results_cell_row rfl _ _ (w.heap.size + 1) 64 #[.pointer (some ⟨b, 0, none⟩), .slice ag N cg, .int .i64 (B : Int)] (0, 0) _ rfl (setRow_heap _ _ _ _ _ _ HRL.out) Tryd.underlying64 rfl (by kernel_rfl)) rfl ?_
    exact ⟨ag, cg, rfl, HGI.out, below_setRow HB1.out (by omega) _⟩

end Go.Proofs.YtaapbopcfpihbaaDoor

namespace Go.Proofs.YtaapbopcfpihbaaDoor
open Go.RowKit

section
variable {P : Program} {ops : Array Oper} {Q : Exit → Act → World → Prop} {md : Region.Mode} {S : World → Prop}
theorem drop_atU {i : Nat} {oi : Oper} {rest : List Oper} (hl : ops.toList.drop i = oi :: rest) : ops[i]? = some oi := by
  have := congrArg (fun l => l[0]?) hl
  simpa [List.getElem?_drop] using this
theorem wpAnyH_takeU {i : Nat} {oi : Oper} {rest : List Oper} {v : Value} {fuel : Nat} {listed : Array Bool} {a : Act} {w : World} (hl : ops.toList.drop i = oi :: rest)
    (hs : Region.noSelect ops = true) (hf : Region.free md ops listed i = true) (hr : (Region.ready md ops listed).contains i = true)
    (hQ : ∀ c a w, Q (.panic c) (a.put oi.dst v) w → Q (.panic c) a w) (hw : Region.wanted oi (yielded ops a.tmps) = true) (hy : ∀ w, S w → (execOp a.eval oi).run P w = .ok (.value v) w) (hS : S w)
    (h : wpAnyH P md ops Q S fuel (listed.setIfInBounds i true) (a.put oi.dst v) w) : wpAnyH P md ops Q S (fuel + 1) listed a w :=
  wpAnyH_take (drop_atU hl) hs hf hr hQ (Or.inl ⟨hw, hy⟩) hS h
theorem AllReadyH.consU {fuel : Nat} {listed : Array Bool} {a : Act} {w : World} {i : Nat} {o : Oper} {rest : List Oper} {rs : List Nat} (hl : ops.toList.drop i = o :: rest)
    (h : ∀ K' : Act → World → Prop, Shut (∀ a w, S w → (S w → wpAnyH P md ops Q S fuel (listed.setIfInBounds i true) a w) → K' a w) → if Region.wanted o (yielded ops a.tmps) = true then Oper.wp P o a w K' Q else K' (a.put o.dst undef) w)
    (hs : AllReadyH P md ops Q S fuel listed a w rs) : AllReadyH P md ops Q S fuel listed a w (i :: rs) := AllReadyH.cons (drop_atU hl) h hs
end
theorem rg_appendU {o : Oper} {a : Act} {w w2 : World} {K : Act → World → Prop} {Q : Exit → Act → World → Prop} (s x : Operand) (tS tX : TypeId)
    (ho : o.op = .call { callee := .builtin .append, args := #[s, x], argTypes := #[tS, tX] }) (v u r : Value) (hs : a.eval s = v) (hx : a.eval x = u) (hrun : (Builtin.append_ #[tS, tX] o.type #[v, u]).run Tryd.prog w = .ok r w2)
    (h : K (a.put o.dst r) w2) : Oper.wp Tryd.prog o a w K Q := by
  unfold Oper.wp
  simp [execOp, ho, resolve, invoke, builtin, hs, hx, hrun, Result.andThen]
  exact h

end Go.Proofs.YtaapbopcfpihbaaDoor

namespace Go.Proofs.YtaapbopcfpihbaaDoor
open Go.RowKit

section
variable {P : Program} {ops : Array Oper} {Q : Exit → Act → World → Prop} {md : Region.Mode} {S : World → Prop}
end

end Go.Proofs.YtaapbopcfpihbaaDoor
