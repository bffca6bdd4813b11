
import Derived.Test.YtlhjifpomchnfaaGreatDoorRows
import Derived.Test.YtlhjifpomchnfaaGreatDoorPlain
import Derived.KernelRfl
import Derived.WalkKit
import Derived.WalkSpells
import Derived.WalkLawsBesides
import Derived.Shelf.Small.Bits
import Derived.Lib.BitFns
import Derived.Test.YtlhjifpomchnfaaGreatDoorProg
import Derived.Deep.RegionWith
import Derived.WalkSmall
import Derived.Deep.QuietTactic
import Derived.BigQuiet
import Derived.Deep.OwnRows
import Derived.LaidEql
import Derived.Stop.Asserts
import Derived.RowKitTokens
set_option maxRecDepth 1000000
set_option maxHeartbeats 8000000
namespace Go.Proofs.YtlhjifpomchnfaaGreatDoor
open Go.RowKit
theorem Tryz.infoInt : (Tryz.prog.info? 3).map (fun i => (i.zero, i.size, i.bytes)) = some (some (.int .i64 0), 1, 8) := by kernel_rfl
theorem hid {p : Prop} (h : p) : Hid p := h
theorem ret_int {k : IntKind} {a b : Int} (h : a = b) : Ending.returned (.int k a) = .returned (.int k b) := by rw [h]
theorem ret_bool {a b : Bool} (h : a = b) : Ending.returned (.bool a) = .returned (.bool b) := by rw [h]
theorem tmod_neg_fix (n m : Int) (hm : 0 < m) (h : n.tmod m < 0) : n.tmod m + m = n % m := by
 have e := Int.tmod_eq_emod (a := n) (b := m)
 have h1 := Int.emod_nonneg n (b := m) (by omega)
 split at e
 ·omega
 ·have : (m.natAbs : Int) = m := by omega
  omega
theorem tmod_pos_fix (n m : Int) (hm : 0 < m) (h : ¬ n.tmod m < 0) : n.tmod m = n % m := by
 have e := Int.tmod_eq_emod (a := n) (b := m)
 have h2 := Int.emod_lt_of_pos n hm
 split at e
 ·omega
 ·have : (m.natAbs : Int) = m := by omega
  omega
theorem tmod_bounds (n m : Int) (hm : 0 < m) : -m <= n.tmod m /\ n.tmod m < m := by
 have h1 := Int.emod_nonneg n (b := m) (by omega)
 have h2 := Int.emod_lt_of_pos n hm
 by_cases h : n.tmod m < 0
 ·have := tmod_neg_fix n m hm h; omega
 ·have := tmod_pos_fix n m hm h; omega
theorem rem_any (n m : Int) (w : World) (hm : 0 < m) (hm2 : m <= 2147483647) (_hn : -9223372036854775808 <= n) (_hn2 : n <= 9223372036854775807) :
  Calls Tryz.prog 120 #[.int .i64 n, .int .i64 m] w fun e w' => e = .returned (.int .i64 (n % m)) /\ w' = w := by
 by_cases h1 : 0 <= n
 ·by_cases h2 : n < m
  ·have he : Hid (n % m = n) := hid (Int.emod_eq_of_lt h1 h2)
   go_enter Tryz.func120, Tryz.ntmps120
   go_wp2
   go_ret
   exact ⟨ret_int he.out.symm, rfl⟩
  ·have hb1 := Int.emod_nonneg n (b := m) (by omega)
   go_enter Tryz.func120, Tryz.ntmps120
   go_wp2
   go_ret
   exact ⟨rfl, rfl⟩
 ·obtain ⟨hb1, hb2⟩ := tmod_bounds n m hm
  by_cases h2 : n.tmod m < 0
  ·have he : Hid (n.tmod m + m = n % m) := hid (tmod_neg_fix n m hm h2)
   have hs1 : 0 <= n.tmod m + m := by omega
   go_enter Tryz.func120, Tryz.ntmps120
   go_wp2
   go_ret
   exact ⟨ret_int he.out, rfl⟩
  ·have he : Hid (n.tmod m = n % m) := hid (tmod_pos_fix n m hm h2)
   go_enter Tryz.func120, Tryz.ntmps120
   go_wp2
   go_ret
   exact ⟨ret_int he.out, rfl⟩
theorem sq_le (k n : Nat) (h : k * k <= n) (hn : n <= 2147483647) : k <= 46340 := by
 rcases Nat.lt_or_ge 46340 k with g | g
 ·have : 46341 * 46341 <= k * k := Nat.mul_le_mul g g
  omega
 ·exact g
theorem least_any (n : Nat) (w : World) (h2 : 2 <= n) (hm : n <= 2147483647) :
  Calls Tryz.prog 182 #[.int .i64 n] w fun e w' => ∃ d : Nat, e = .returned (.int .i64 d) /\ Num.Least n d /\ w' = w := by
 go_enter Tryz.func182, Tryz.ntmps182
 go_wp2
 go_loop [3] (fun i => ∃ k : Nat, 2 <= k /\ k <= 46341 /\ i = .int .i64 k /\ ∀ e, 2 <= e -> e < k -> ¬ e ∣ n) (fun i => 46341 - (intOf i).toNat)
 case atStart => exact ⟨2, by omega, by omega, rfl, fun e h g => by omega⟩
 case round =>
  obtain ⟨k, hk2, hk, rfl, hno⟩ := hrel
  have HN := hid hno
  clear hno
  have hsq : ((k : Int) * k) = ((k * k : Nat) : Int) := by simp
  have hkk : k * k <= 46341 * 46341 := Nat.mul_le_mul hk hk
  have hq1 : 0 <= (k : Int) * k := by omega
  have hq2 : (k : Int) * k <= 2147488281 := by omega
  by_cases hle : k * k <= n
  ·have hk3 := sq_le k n hle hm
   have hle2 : (k : Int) * k <= n := by omega
   clear hsq hle hkk
   by_cases hd : k ∣ n
   ·have hmod : ((n : Int) % (k : Int) == 0) = true := by
     rw [beq_iff_eq]; exact Int.emod_eq_zero_of_dvd (Int.ofNat_dvd.2 hd)
    have HD := hid hd
    clear hd
    go_wp2
    go_ret
    exact ⟨k, rfl, ⟨hk2, HD.out, HN.out⟩, rfl⟩
   ·have hmod : ((n : Int) % (k : Int) == 0) = false := by
     rw [beq_eq_false_iff_ne]; intro g; exact hd (Int.ofNat_dvd.1 (Int.dvd_of_emod_eq_zero g))
    have HD := hid hd
    clear hd
    go_wp2
    go_round
    case rel => exact ⟨k + 1, by omega, by omega, by go_num, fun e he hlt hde => by
     by_cases hek : e = k
     ·subst hek; exact HD.out hde
     ·exact HN.out e he (by omega) hde⟩
    case measure => simp [intOf]; omega
  ·have hle2 : ¬ (k : Int) * k <= n := by omega
   have HL := hid hle
   clear hsq hle hkk
   go_wp2
   go_ret
   exact ⟨n, rfl, Num.least_self h2 (Nat.lt_of_not_le HL.out) HN.out, rfl⟩
theorem of_any (p b : Nat) (n : Int) (w : World) (h3 : 3 <= p) (hm : p <= 2147483647) (hp : w.cell? ⟨b, 0, none⟩ = some (.int .i64 p))
  (hn : -9223372036854775808 <= n) (hn2 : n <= 9223372036854775807) :
  Calls Tryz.prog 62 #[.pointer (some ⟨b, 0, none⟩), .int .i64 n] w fun e w' => e = .returned (.int .i64 (n % p)) /\ w' = w := by
 go_enter Tryz.func62, Tryz.ntmps62
 go_wp2_with (go_at_call 120; refine (rem_any n p w (by omega) (by omega) hn hn2).mono ?_; rintro e w' ⟨rfl, rfl⟩)
 go_ret
 exact ⟨rfl, rfl⟩
theorem emod_bounds (n : Int) (p : Nat) (h3 : 3 <= p) : 0 <= n % (p : Int) /\ n % (p : Int) < p :=
 ⟨Int.emod_nonneg _ (by omega), Int.emod_lt_of_pos _ (by omega)⟩
theorem mul_small (x y : Int) (hx : 0 <= x) (hx2 : x <= 2147483647) (hy : 0 <= y) (hy2 : y <= 2147483647) : 0 <= x * y /\ x * y <= 4611686014132420609 := by
 refine ⟨Int.mul_nonneg hx hy, ?_⟩
 have : x * y <= 2147483647 * 2147483647 := Int.mul_le_mul hx2 hy2 hy (by omega)
 omega
theorem mul_any (p b : Nat) (x y : Int) (w : World) (h3 : 3 <= p) (hm : p <= 2147483647) (hp : w.cell? ⟨b, 0, none⟩ = some (.int .i64 p))
  (hx : -9223372036854775808 <= x) (hx2 : x <= 9223372036854775807) (hy : -9223372036854775808 <= y) (hy2 : y <= 9223372036854775807) :
  Calls Tryz.prog 87 #[.pointer (some ⟨b, 0, none⟩), .int .i64 x, .int .i64 y] w fun e w' => e = .returned (.int .i64 (x * y % p)) /\ w' = w := by
 obtain ⟨a1, a2⟩ := emod_bounds x p h3
 obtain ⟨b1, b2⟩ := emod_bounds y p h3
 obtain ⟨c1, c2⟩ := mul_small (x % p) (y % p) a1 (by omega) b1 (by omega)
 go_enter Tryz.func87, Tryz.ntmps87
 go_wp2_with fail
 refine (of_any p b x w h3 hm hp hx hx2).mono ?_
 rintro e w' ⟨rfl, rfl⟩
 go_wp2_with fail
 refine (of_any p b y _ h3 hm hp hy hy2).mono ?_
 rintro e w' ⟨rfl, rfl⟩
 go_wp2_with fail
 refine (of_any p b _ _ h3 hm hp (by omega) (by omega)).mono ?_
 rintro e w' ⟨rfl, rfl⟩
 go_wp2
 go_ret
 exact ⟨ret_int (Int.mul_emod x y p).symm, rfl⟩
end Go.Proofs.YtlhjifpomchnfaaGreatDoor
namespace Go.Proofs
open Go.Shelf
def Tryz.laysLen_ren : Go.Shelf.Ren := ⟨fun | 125 => 181 | 128 => 228 | 129 => 229 | n => n, fun | 46 => 158 | 3 => 3 | 51 => 196 | 53 => 198 | 4 => 4 | 5 => 5 | 9 => 9 | n => n, fun | n => n⟩
theorem Tryz.laysLen : Go.Proofs.Lays.n125 Tryz.prog Tryz.laysLen_ren := {
 mixed := by kernel_rfl
 f125 := Tryz.func181.trans (congrArg some (by kernel_rfl))
 f128 := Tryz.func228.trans (congrArg some (by kernel_rfl))
 f129 := Tryz.func229.trans (congrArg some (by kernel_rfl))
 t3 := Tryz.underlying3
 a3 := Tryz.isAgg3
 z3 := Tryz.sizeOf3
 v3 := Tryz.zeroValue3
 t4 := Tryz.underlying4
 a4 := Tryz.isAgg4
 z4 := Tryz.sizeOf4
 v4 := Tryz.zeroValue4
 t5 := Tryz.underlying5
 a5 := Tryz.isAgg5
 z5 := Tryz.sizeOf5
 v5 := Tryz.zeroValue5
 t9 := Tryz.underlying9
 a9 := Tryz.isAgg9
 z9 := Tryz.sizeOf9
 v9 := Tryz.zeroValue9
 t46 := Tryz.underlying158
 a46 := Tryz.isAgg158
 z46 := Tryz.sizeOf158
 v46 := Tryz.zeroValue158
 t51 := Tryz.underlying196
 a51 := Tryz.isAgg196
 z51 := Tryz.sizeOf196
 v51 := Tryz.zeroValue196
 t53 := Tryz.underlying198
 a53 := Tryz.isAgg198
 z53 := Tryz.sizeOf198
 v53 := Tryz.zeroValue198 }
theorem YtlhjifpomchnfaaGreatDoor.bitLenAux_lt : ∀ (f x : Nat), x < 2 ^ f -> x < 2 ^ (Lib.bitLenAux f x)
 | 0, x, h => by simpa [Lib.bitLenAux] using h
 | f + 1, x, h => by
  unfold Lib.bitLenAux
  by_cases hx : x = 0
  ·simp [hx]
  ·rw [if_neg hx]
   have h2 : x / 2 < 2 ^ f := by rw [Nat.pow_succ] at h; omega
   have := YtlhjifpomchnfaaGreatDoor.bitLenAux_lt f (x / 2) h2
   rw [Nat.add_comm, Nat.pow_succ]
   omega
def YtlhjifpomchnfaaGreatDoor.blen (x : Nat) : Nat := Lib.bitLen x
theorem YtlhjifpomchnfaaGreatDoor.blen_lt (x : Nat) (h : x <= 2147483647) : x < 2 ^ (YtlhjifpomchnfaaGreatDoor.blen x) :=
 YtlhjifpomchnfaaGreatDoor.bitLenAux_lt 64 x (Nat.lt_of_le_of_lt h (by decide))
theorem YtlhjifpomchnfaaGreatDoor.blen_le (x : Nat) (h : x <= 2147483647) : YtlhjifpomchnfaaGreatDoor.blen x <= 31 :=
 Lib.bitLen_le x 31 (by decide) (Nat.lt_of_le_of_lt h (by decide))
theorem YtlhjifpomchnfaaGreatDoor.len_any (x : Int) (w : World) (h0 : 0 <= x) (h1 : x <= 2147483647) :
  Calls Tryz.prog 181 #[.int .u64 x] w fun e w' => e = .returned (.int .i64 (YtlhjifpomchnfaaGreatDoor.blen x.toNat)) /\ w' = w := Any.bits_Len Tryz.laysLen x w h0 (by omega)
end Go.Proofs
namespace Go.Proofs.YtlhjifpomchnfaaGreatDoor
open Go.RowKit
theorem i64_and1 (n : Int) : bits .and .i64 n 1 = n % 2 := by
 have h1 : (BitVec.ofInt 64 1).toNat = 2 ^ 1 - 1 := by decide
 have key : (BitVec.ofInt 64 n &&& BitVec.ofInt 64 1).toNat = (n % ((2 ^ 64 : Nat) : Int)).toNat % 2 ^ 1 := by
  rw [BitVec.toNat_and, BitVec.toNat_ofInt, h1, Nat.and_two_pow_sub_one_eq_mod]
 show IntKind.i64.wrap ((BitVec.ofInt 64 n &&& BitVec.ofInt 64 1).toNat : Nat) = n % 2
 rw [key, IntKind.wrap_i64]
 omega
theorem bit_eq (E k : Nat) : (bits BinOp.and IntKind.i64 ((E : Int) / 2 ^ k) 1 == 1) = (E / 2 ^ k % 2 == 1) := by
 rw [i64_and1]
 have : (E : Int) / 2 ^ k % 2 = ((E / 2 ^ k % 2 : Nat) : Int) := by simp
 rw [this, Bool.eq_iff_iff, beq_iff_eq, beq_iff_eq]
 omega
theorem pwm_addz (p s x y : Nat) : (Num.pwm p s x : Int) * (Num.pwm p s y : Int) % (p : Int) = (Num.pwm p s (x + y) : Int) := by
 rw [<- Num.pwm_add]; simp
theorem mod_two_pow_succ (E k : Nat) : E % 2 ^ (k + 1) = E % 2 ^ k + 2 ^ k * (E / 2 ^ k % 2) := Nat.mod_pow_succ
def el (p : Nat) (a : Int) : Nat := (a % (p : Int)).toNat
def powz (p : Nat) (a n : Int) : Nat := if a % (p : Int) = 0 /\ n ≠ 0 then 0 else Num.pwm p (a % (p : Int)).toNat (n % ((p : Int) - 1)).toNat
theorem mul_pw (p b s x y : Nat) (w : World) (h3 : 3 <= p) (hm : p <= 2147483647) (hp : w.cell? ⟨b, 0, none⟩ = some (.int .i64 p)) :
  Calls Tryz.prog 87 #[.pointer (some ⟨b, 0, none⟩), .int .i64 (Num.pwm p s x), .int .i64 (Num.pwm p s y)] w fun e w' => e = .returned (.int .i64 (Num.pwm p s (x + y))) /\ w' = w := by
 have h1 := Num.pwm_lt p s x (by omega)
 have h2 := Num.pwm_lt p s y (by omega)
 have := mul_any p b (Num.pwm p s x) (Num.pwm p s y) w h3 hm hp (by omega) (by omega) (by omega) (by omega)
 rw [pwm_addz] at this
 exact this
theorem pow_any (p b : Nat) (a n : Int) (w : World) (h3 : 3 <= p) (hm : p <= 2147483647) (hp : w.cell? ⟨b, 0, none⟩ = some (.int .i64 p))
  (ha : -9223372036854775808 <= a) (ha2 : a <= 9223372036854775807) (hn : -9223372036854775808 <= n) (hn2 : n <= 9223372036854775807) :
  Calls Tryz.prog 128 #[.pointer (some ⟨b, 0, none⟩), .int .i64 a, .int .i64 n] w fun e w' => e = .returned (.int .i64 (powz p a n)) /\ w' = w := by
 obtain ⟨a1, a2⟩ := emod_bounds a p h3
 by_cases hz : a % (p : Int) = 0 /\ n ≠ 0
 ·have HF : Hid (powz p a n = 0) := by unfold Hid powz; rw [if_pos hz]
  have z1 : (a % (p : Int) == 0) = true := by rw [beq_iff_eq]; exact hz.1
  have z2 : (n != 0) = true := by rw [bne_iff_ne]; exact hz.2
  clear hz
  go_enter Tryz.func128, Tryz.ntmps128
  go_wp2_with fail
  refine (of_any p b a w h3 hm hp ha ha2).mono ?_
  rintro e w' ⟨rfl, rfl⟩
  go_wp2_with fail
  go_ret
  exact ⟨ret_int (by rw [HF.out]; rfl), rfl⟩
 ·have HF : Hid (powz p a n = Num.pwm p (a % (p : Int)).toNat (n % ((p : Int) - 1)).toNat) := by unfold Hid powz; rw [if_neg hz]
  have hdec : (a % (p : Int) == 0) = false ∨ ((a % (p : Int) == 0) = true /\ (n != 0) = false) := by
   by_cases g : a % (p : Int) = 0
   ·right; refine ⟨by rw [beq_iff_eq]; exact g, ?_⟩
    by_cases g2 : n = 0
    ·simp [g2]
    ·exact absurd ⟨g, g2⟩ hz
   ·left; rw [beq_eq_false_iff_ne]; exact g
  have e1 := Int.emod_nonneg n (b := (p : Int) - 1) (by omega)
  have e2 := Int.emod_lt_of_pos n (b := (p : Int) - 1) (by omega)
  obtain ⟨s, hs⟩ := Int.eq_ofNat_of_zero_le a1
  obtain ⟨E, hE⟩ := Int.eq_ofNat_of_zero_le e1
  have hof := hid (of_any p b a w h3 hm hp ha ha2)
  have hrem := hid (rem_any n ((p : Int) - 1) w (by omega) (by omega) hn hn2)
  rw [hs] at hof a2 hdec HF
  rw [hE] at hrem e2 HF
  rw [Int.toNat_natCast, Int.toNat_natCast] at HF
  have hEb : E <= 2147483647 := by omega
  have hl := blen_le E hEb
  have HL := hid (blen_lt E hEb)
  have hlen := hid (len_any (E : Int) w (by omega) (by omega))
  rw [Int.toNat_natCast] at hlen
  clear hz hs hE e1 a1
  rcases hdec with z1 | ⟨z1, z2⟩
  all_goals
   go_enter Tryz.func128, Tryz.ntmps128
   go_wp2_with fail
   refine hof.out.mono ?_
   rintro e w' ⟨rfl, rfl⟩
   go_wp2_with fail
   refine hrem.out.mono ?_
   rintro e w' ⟨rfl, rfl⟩
   go_wp2_with fail
   refine hlen.out.mono ?_
   rintro e w' ⟨rfl, rfl⟩
   go_wp2_with fail
   clear hof hrem hlen
   go_loop [7, 9, 30] (fun sq pw i => ∃ k : Nat, k <= blen E /\ i = .int .i64 k /\ sq = .int .i64 (Num.pwm p s (2 ^ k)) /\ pw = .int .i64 (Num.pwm p s (E % 2 ^ k))) (fun _ _ i => blen E - (intOf i).toNat)
   case atStart => exact ⟨0, Nat.zero_le _, rfl, by rw [Nat.pow_zero, Num.pwm_one p s (by omega)], by rw [Nat.pow_zero, Nat.mod_one, Num.pwm_zero p s (by omega)]; rfl⟩
   case round =>
    obtain ⟨k, hk, rfl, rfl, rfl⟩ := hrel
    by_cases hlt : k < blen E
    ·have hb := bit_eq E k
     have hmp := hid (mod_two_pow_succ E k)
     have hsq := hid (mul_pw p b s (2 ^ k) (2 ^ k) w' h3 hm hp)
     have hpw := hid (mul_pw p b s (E % 2 ^ k) (2 ^ k) w' h3 hm hp)
     by_cases hodd : E / 2 ^ k % 2 = 1
     ·rw [hodd] at hb hmp
      have hb2 : (bits BinOp.and IntKind.i64 ((E : Int) / 2 ^ k) 1 == 1) = true := by rw [hb]; rfl
      clear hb hodd
      go_wp2_with fail
      refine hpw.out.mono ?_
      rintro e w'' ⟨rfl, rfl⟩
      go_wp2_with fail
      refine hsq.out.mono ?_
      rintro e w'' ⟨rfl, rfl⟩
      go_wp2
      go_round
      case rel => exact ⟨k + 1, by omega, by go_num, by rw [Nat.pow_succ, Nat.mul_two], by rw [hmp.out, Nat.mul_one]⟩
      case measure => simp [intOf]; omega
     ·have hev : E / 2 ^ k % 2 = 0 := by omega
      rw [hev] at hb hmp
      have hb2 : (bits BinOp.and IntKind.i64 ((E : Int) / 2 ^ k) 1 == 1) = false := by rw [hb]; rfl
      clear hb hodd hev
      go_wp2_with fail
      refine hsq.out.mono ?_
      rintro e w'' ⟨rfl, rfl⟩
      go_wp2
      go_round
      case rel => exact ⟨k + 1, by omega, by go_num, by rw [Nat.pow_succ, Nat.mul_two], by rw [hmp.out, Nat.mul_zero, Nat.add_zero]⟩
      case measure => simp [intOf]; omega
    ·go_wp2
     go_ret
     refine ⟨ret_int ?_, rfl⟩
     have hkb : k = blen E := by omega
     rw [HF.out, hkb, Nat.mod_eq_of_lt HL.out]
theorem inv_any (p b : Nat) (a : Int) (w : World) (h3 : 3 <= p) (hm : p <= 2147483647) (hp : w.cell? ⟨b, 0, none⟩ = some (.int .i64 p))
  (ha : -9223372036854775808 <= a) (ha2 : a <= 9223372036854775807) :
  Calls Tryz.prog 184 #[.pointer (some ⟨b, 0, none⟩), .int .i64 a] w fun e w' => e = .returned (.int .i64 (powz p a ((p : Int) - 2))) /\ w' = w := by
 have hpw := hid (pow_any p b a ((p : Int) - 2) w h3 hm hp ha ha2 (by omega) (by omega))
 go_enter Tryz.func184, Tryz.ntmps184
 go_wp2_with fail
 refine hpw.out.mono ?_
 rintro e w' ⟨rfl, rfl⟩
 go_wp2
 go_ret
 exact ⟨rfl, rfl⟩
def cellsOf (ds : List Nat) : List Value := ds.map (fun d : Nat => Value.int .i64 d)
theorem cellsOf_snoc (ds : List Nat) (d : Nat) : cellsOf (ds ++ [d]) = cellsOf ds ++ [.int .i64 d] := by simp [cellsOf]
theorem primes_any (n : Nat) (w : World) (h1 : 1 <= n) (hm : n <= 2147483647) :
  Calls Tryz.prog 186 #[.int .i64 n] w fun e w' => ∃ v ds, e = .returned v /\ Num.Primes n ds /\
   w'.ownsRow w.heap.size 3 1 v ds.length (cellsOf ds) /\ Below w.heap.size w w' := by
 obtain ⟨i0, hi, hz0, hz1, hz2⟩ := info_parts Tryz.infoInt
 go_enter Tryz.func186, Tryz.ntmps186
 go_wp2
 go_loopw [0, 3] (fun nv v wr => ∃ (m : Nat) (ds : List Nat), m <= 2147483647 /\ nv = .int .i64 m /\ Hid (Num.PD n m ds) /\ wr.ownsRow w.heap.size 3 1 v ds.length (cellsOf ds) /\ Below w.heap.size w wr)
  (fun nv _ _ => (intOf nv).toNat)
 case atStart => exact ⟨n, [], hm, rfl, Num.PD.start h1, World.ownsRow_nil _ _ _ _, Below.refl _ _⟩
 case round =>
  obtain ⟨m, ds, hm2, rfl, hpd, hown, hbel⟩ := hrel
  have hlen := hpd.out.len hm
  have hsz := hbel.size
  by_cases hlt : 1 < m
  ·have hlt2 : (1 : Int) < (m : Int) := by omega
   go_wp2_with fail
   refine (least_any m _ (by omega) (by omega)).mono ?_
   rintro e w1 ⟨d, rfl, hleast, rfl⟩
   have HL := hid hleast
   clear hleast
   have hd2 : 2 <= d := HL.out.1
   have hdm : d <= m := Nat.le_of_dvd (by omega) HL.out.2.1
   go_wp2_with (at_builtin; refine wpList_append_own _ rfl _ _ 22 rfl w.heap.size 3 i0 (.int .i64 0) 1 8 Tryz.underlying22 hi hz0 hz1 hz2 rfl (by decide) _ _ _ rfl (hown.alloc _) ⟨w1.heap.size, 0, none⟩ 1 1 [.int .i64 d] rfl rfl ?c1 ?c2 ?c3 ?c4 ?c5 ?_)
   case c1 =>
    intro j u hj
    match j, hj with
    | 0, hj => simp at hj; subst hj; simp [Addr.add]
   case c2 => intro u hu; simp at hu; subst hu; rfl
   case c3 => unfold maxLen; omega
   case c4 => omega
   case c5 => simp; omega
   intro v' w2 hown2 hgrow _
   have hown3 : w2.ownsRow w.heap.size 3 1 v' (ds ++ [d]).length (cellsOf (ds ++ [d])) := by
    rw [List.length_append, List.length_singleton, cellsOf_snoc]; exact hown2
   have hbel2 : Below w.heap.size w w2 :=
    (hbel.alloc hsz _).grown hgrow (by simp; omega) (fun k hk => (hown.lt k hk).1)
   have HO := hid hown3
   have HB := hid hbel2
   clear hown2 hown3 hgrow hbel2 hown hbel
   go_wp2_with fail
   go_loop [0] (fun nv => ∃ k : Nat, k <= m /\ nv = .int .i64 k /\ Hid (Num.PO d m k)) (fun nv => (intOf nv).toNat)
   case atStart => exact ⟨m, Nat.le_refl _, rfl, Num.PO.start (by omega)⟩
   case round =>
    obtain ⟨k, hk, rfl, hpo⟩ := hrel
    have hk1 := hpo.out.pos
    by_cases hdk : d ∣ k
    ·have hmod : ((k : Int) % (d : Int) == 0) = true := by
      rw [beq_iff_eq]; exact Int.emod_eq_zero_of_dvd (Int.ofNat_dvd.2 hdk)
     have HD := hid hdk
     clear hdk
     have hlt3 : k / d < k := Nat.div_lt_self (by omega) (by omega)
     have q1 : 0 <= (k : Int) / (d : Int) := Int.ediv_nonneg (by omega) (by omega)
     have q2 : (k : Int) / (d : Int) <= 2147483647 := by omega
     go_wp2
     go_round
     case rel => exact ⟨k / d, by omega, by go_num, hid (hpo.out.step (Num.least_prime HL.out) HD.out)⟩
     case measure => simp [intOf]; omega
    ·have hmod : ((k : Int) % (d : Int) == 0) = false := by
      rw [beq_eq_false_iff_ne]; intro g; exact hdk (Int.ofNat_dvd.1 (Int.dvd_of_emod_eq_zero g))
     have HD := hid hdk
     clear hdk
     have R := hpd.out.step HL.out hpo.out HD.out
     go_wp2
     exact ⟨⟨k, ds ++ [d], by omega, rfl, R.1, HO.out, HB.out⟩, by have := R.2; simp [intOf]; omega⟩
  ·go_wp2
   go_ret
   exact ⟨_, ds, rfl, hpd.out.done (by omega) hm, hown, hbel⟩
def okPrime (p : Int) : Prop := 3 <= p /\ p <= 2147483647 /\ Num.Prime p.toNat
theorem new_no (p : Int) (w : World) (hno : ¬ okPrime p) (h1 : -9223372036854775808 <= p) (h2 : p <= 9223372036854775807) :
  Calls Tryz.prog 121 #[.int .i64 p] w fun e w' => e = .returned (.tuple #[.pointer none, .iface 90 (.int .i64 1)]) /\ w' = w := by
 by_cases h3 : p < 3
 ·go_enter Tryz.func121, Tryz.ntmps121
  go_wp2_with fail
  go_ret2
  exact ⟨rfl, rfl⟩
 ·by_cases h4 : 2147483647 < p
  ·go_enter Tryz.func121, Tryz.ntmps121
   go_wp2_with fail
   go_ret2
   exact ⟨rfl, rfl⟩
  ·obtain ⟨q, rfl⟩ := Int.eq_ofNat_of_zero_le (show 0 <= p by omega)
   have HN := hid hno
   clear hno
   go_enter Tryz.func121, Tryz.ntmps121
   go_wp2_with fail
   refine (least_any q _ (by omega) (by omega)).mono ?_
   rintro e w1 ⟨d, rfl, hl, rfl⟩
   have hne : ((d : Int) != (q : Int)) = true := by
    rw [bne_iff_ne]; intro g
    have g2 : d = q := by omega
    subst g2
    exact HN.out ⟨by omega, by omega, by rw [Int.toNat_natCast]; exact Num.least_prime hl⟩
   clear hl
   go_wp2_with fail
   go_ret2
   exact ⟨rfl, rfl⟩
theorem new_yes (q : Nat) (w : World) (h3 : 3 <= q) (h4 : q <= 2147483647) (hq : Num.Prime q) :
  Calls Tryz.prog 121 #[.int .i64 q] w fun e w' => e = .returned (.tuple #[.pointer (some ⟨w.heap.size, 0, none⟩), .nilIface]) /\ w'.cell? ⟨w.heap.size, 0, none⟩ = some (.int .i64 q) /\ Below w.heap.size w w' /\ w.heap.size < w'.heap.size := by
 have HQ := hid hq
 clear hq
 go_enter Tryz.func121, Tryz.ntmps121
 go_wp2_with fail
 refine (least_any q _ (by omega) (by omega)).mono ?_
 rintro e w1 ⟨d, rfl, hl, rfl⟩
 have hdq := Num.least_unique hl (Num.prime_least HQ.out)
 subst hdq
 clear hl
 go_wp2_with fail
 go_ret2
 exact ⟨rfl, by simp, (Below.refl _ _).alloc (Nat.le_refl _) _, by simp⟩
def Row (w : World) (v : Value) (ds : List Nat) : Prop :=
 (v = .slice none 0 0 /\ ds = []) ∨ ∃ g cap, v = .slice (some ⟨g, 0, none⟩) ds.length cap /\ ∀ k, k < ds.length -> w.cell? ⟨g, k, none⟩ = some (.int .i64 ((ds.getD k 0 : Nat) : Int))
theorem row_of_owns {w : World} {base : Nat} {v : Value} {ds : List Nat} (h : w.ownsRow base 3 1 v ds.length (cellsOf ds)) : Row w v ds := by
 rcases h.2 with ⟨h1, h2⟩ | ⟨g, cap, cur, hv, _⟩
 ·exact Or.inl ⟨h1, List.length_eq_zero_iff.1 h2⟩
 ·refine Or.inr ⟨g, cap, hv, fun k hk => ?_⟩
  have := h.cells (g := g) (by rw [hv]; rfl) k (.int .i64 ((ds.getD k 0 : Nat) : Int)) (by simp [cellsOf, hk])
  have hadd : (⟨g, 0, none⟩ : Addr).add k = ⟨g, k, none⟩ := by unfold Addr.add; split <;> simp_all
  rw [hadd] at this
  exact this
def genB (p : Nat) (a : Int) (ds : List Nat) : Bool := ds.all fun q => powz p a (((p : Int) - 1) / (q : Int)) != 1
theorem genB_take_succ (p : Nat) (a : Int) (ds : List Nat) (k : Nat) (h : k < ds.length) :
  genB p a (ds.take (k + 1)) = (genB p a (ds.take k) && (powz p a (((p : Int) - 1) / ((ds.getD k 0 : Nat) : Int)) != 1)) := by
 unfold genB
 rw [List.take_succ_eq_append_getElem h, List.all_append]
 simp [h]
theorem isgen_any (p b : Nat) (a : Int) (v : Value) (ds : List Nat) (w : World) (h3 : 3 <= p) (hm : p <= 2147483647) (hp : w.cell? ⟨b, 0, none⟩ = some (.int .i64 p))
  (ha : -9223372036854775808 <= a) (ha2 : a <= 9223372036854775807) (hr : Row w v ds) (hlen : ds.length <= 31) (hds : ∀ k, k < ds.length -> 2 <= ds.getD k 0 /\ ds.getD k 0 <= 2147483647) :
  Calls Tryz.prog 187 #[.pointer (some ⟨b, 0, none⟩), .int .i64 a, v] w fun e w' => e = .returned (.bool (genB p a ds)) /\ w' = w := by
 rcases hr with ⟨rfl, rfl⟩ | ⟨g, cap, rfl, hc⟩
 ·go_enter Tryz.func187, Tryz.ntmps187
  go_wp2_with fail
  go_loop [11] (fun i => i = .int .i64 0) (fun _ => 0)
  case atStart => exact rfl
  case round =>
   obtain rfl := hrel
   go_wp2_with fail
   go_ret
   exact ⟨rfl, rfl⟩
 ·have HDS := hid hds
  have HC := hid hc
  clear hc hds
  go_enter Tryz.func187, Tryz.ntmps187
  go_wp2_with fail
  go_loop [11] (fun i => ∃ k : Nat, k <= ds.length /\ i = .int .i64 k /\ Hid (genB p a (ds.take k) = true)) (fun i => ds.length - (intOf i).toNat)
  case atStart => exact ⟨0, Nat.zero_le _, rfl, hid rfl⟩
  case round =>
   obtain ⟨k, hk, rfl, hB⟩ := hrel
   by_cases hlt : k < ds.length
   ·have hcell := HC.out k hlt
    obtain ⟨hq2, hq3⟩ := HDS.out k hlt
    have hsucc := hid (genB_take_succ p a ds k hlt)
    generalize hq : ds.getD k 0 = q at *
    clear hq
    have q1 : 0 <= ((p : Int) - 1) / (q : Int) := Int.ediv_nonneg (by omega) (by omega)
    have q2 : ((p : Int) - 1) / (q : Int) <= 2147483647 := by
     have := Int.ediv_le_self (a := (p : Int) - 1) (q : Int) (by omega); omega
    have hpw := hid (pow_any p b a (((p : Int) - 1) / (q : Int)) w h3 hm hp ha ha2 (by omega) (by omega))
    by_cases hone : powz p a (((p : Int) - 1) / (q : Int)) = 1
    ·have hb1 : (((powz p a (((p : Int) - 1) / (q : Int)) : Nat) : Int) == 1) = true := by rw [hone]; rfl
     rw [hone] at hsucc
     have HF : Hid (genB p a ds = false) := by
      unfold Hid
      have h1 : genB p a (ds.take (k + 1)) = false := by rw [hsucc.out]; simp
      rw [<- List.take_append_drop (k + 1) ds]
      unfold genB at h1 ⊢
      rw [List.all_append, h1, Bool.false_and]
     clear hone
     go_wp2_with fail
     refine hpw.out.mono ?_
     rintro e w' ⟨rfl, rfl⟩
     go_wp2_with fail
     go_ret
     exact ⟨ret_bool HF.out.symm, rfl⟩
    ·have hb1 : (((powz p a (((p : Int) - 1) / (q : Int)) : Nat) : Int) == 1) = false := by rw [beq_eq_false_iff_ne]; omega
     have hT : Hid (genB p a (ds.take (k + 1)) = true) := by
      unfold Hid; rw [hsucc.out, hB.out, Bool.true_and, bne_iff_ne]; exact hone
     clear hone
     go_wp2_with fail
     refine hpw.out.mono ?_
     rintro e w' ⟨rfl, rfl⟩
     go_wp2_with fail
     go_round
     case rel => exact ⟨k + 1, by omega, by go_num, hT⟩
     case measure => simp [intOf]; omega
   ·have hkl : k = ds.length := by omega
    have HF : Hid (genB p a ds = true) := by
     have := hB.out
     rw [hkl, List.take_length] at this
     exact this
    clear hB
    go_wp2_with fail
    go_ret
    exact ⟨ret_bool HF.out.symm, rfl⟩
theorem powz_elem (p x n : Nat) (h3 : 3 <= p) (h1 : 1 <= x) (h2 : x < p) (hn : n < p - 1) : powz p x n = Num.pwm p x n := by
 have e : (x : Int) % (p : Int) = x := Int.emod_eq_of_lt (by omega) (by omega)
 have e2 : (n : Int) % ((p : Int) - 1) = n := Int.emod_eq_of_lt (by omega) (by omega)
 unfold powz
 rw [e, e2, if_neg (by omega), Int.toNat_natCast, Int.toNat_natCast]
theorem div_cast (p q : Nat) (h3 : 3 <= p) : ((p : Int) - 1) / (q : Int) = (((p - 1) / q : Nat) : Int) := by
 have : ((p : Int) - 1) = ((p - 1 : Nat) : Int) := by omega
 rw [this]; simp
theorem genB_iff (p x : Nat) (ds : List Nat) (h3 : 3 <= p) (h1 : 1 <= x) (h2 : x < p) (hds : Num.Primes (p - 1) ds) : genB p x ds = true ↔ Num.IsGen p x := by
 have key : ∀ q, Num.Prime q -> powz p x (((p : Int) - 1) / (q : Int)) = Num.pwm p x ((p - 1) / q) := by
  intro q hq
  rw [div_cast p q h3, powz_elem p x _ h3 h1 h2 (Nat.div_lt_self (by omega) hq.1)]
 unfold genB Num.IsGen
 rw [List.all_eq_true]
 constructor
 ·intro h q hq hd
  have := h q ((hds.1 q).2 ⟨hq, hd⟩)
  rw [bne_iff_ne, key q hq] at this
  exact this
 ·intro h q hq
  obtain ⟨g1, g2⟩ := (hds.1 q).1 hq
  rw [bne_iff_ne, key q g1]
  exact h q g1 g2
theorem primes_bounds {n : Nat} {ds : List Nat} (hn : 1 <= n) (hm : n <= 2147483647) (h : Num.Primes n ds) : ∀ k, k < ds.length -> 2 <= ds.getD k 0 /\ ds.getD k 0 <= 2147483647 := by
 intro k hk
 have hmem : ds.getD k 0 ∈ ds := by
  simp [hk]
 obtain ⟨g1, g2⟩ := (h.1 _).1 hmem
 have := Nat.le_of_dvd (by omega) g2
 exact ⟨g1.1, by omega⟩
theorem gen_any (p b : Nat) (w : World) (h3 : 3 <= p) (hm : p <= 2147483647) (hp : w.cell? ⟨b, 0, none⟩ = some (.int .i64 p)) (hb : b < w.heap.size) :
  Calls Tryz.prog 129 #[.pointer (some ⟨b, 0, none⟩)] w fun e w' => ∃ g : Nat, e = .returned (.int .i64 g) /\ Num.GenIs p g /\ Below w.heap.size w w' := by
 have hpr := hid (primes_any (p - 1) w (by omega) (by omega))
 rw [show (((p - 1 : Nat)) : Int) = (p : Int) - 1 from by omega] at hpr
 go_enter Tryz.func129, Tryz.ntmps129
 go_wp2_with fail
 refine hpr.out.mono ?_
 rintro e w1 ⟨v, ds, rfl, hds, hown, hbel⟩
 have hp1 : w1.cell? ⟨b, 0, none⟩ = some (.int .i64 p) := (hbel.cell hb).trans hp
 have HR := hid (row_of_owns hown)
 have HD := hid hds
 have HB := hid hbel
 have HQ := hid (primes_bounds (by omega) (by omega) hds)
 have hl31 := hds.2
 clear hpr hown hds hbel
 go_wp2_with fail
 go_loop [15] (fun i => ∃ k : Nat, k <= p /\ i = .int .i64 k /\ Hid (∀ x, 1 <= x -> x < k -> ¬ Num.IsGen p x)) (fun i => p - (intOf i).toNat)
 case atStart => exact ⟨0, Nat.zero_le _, rfl, hid (fun x _ hx => by omega)⟩
 case round =>
  obtain ⟨k, hk, rfl, hno⟩ := hrel
  by_cases hlt : k < p
  ·have hlt2 : (k : Int) < (p : Int) := by omega
   by_cases hk0 : 0 < k
   ·have hk02 : (0 : Int) < (k : Int) := by omega
    have hig := hid (isgen_any p b (k : Int) v ds w1 h3 hm hp1 (by omega) (by omega) HR.out hl31 HQ.out)
    have hiff := hid (genB_iff p k ds h3 hk0 hlt HD.out)
    by_cases hg : genB p k ds = true
    ·rw [hg] at hig
     have HG := hid (hiff.out.1 hg)
     clear hg
     go_wp2_with fail
     refine hig.out.mono ?_
     rintro e w2 ⟨rfl, rfl⟩
     go_wp2_with fail
     go_ret
     exact ⟨k, rfl, Or.inl ⟨hk0, hlt, HG.out, hno.out⟩, HB.out⟩
    ·have hgf : genB p k ds = false := by simpa using hg
     rw [hgf] at hig
     have HG : Hid (¬ Num.IsGen p k) := fun h => hg (hiff.out.2 h)
     clear hg hgf
     go_wp2_with fail
     refine hig.out.mono ?_
     rintro e w2 ⟨rfl, rfl⟩
     go_wp2_with fail
     go_round
     case rel => exact ⟨k + 1, by omega, by go_num, fun x hx1 hx2 => by
      by_cases hxk : x = k
      ·subst hxk; exact HG.out
      ·exact hno.out x hx1 (by omega)⟩
     case measure => simp [intOf]; omega
   ·have hk02 : ¬ (0 : Int) < (k : Int) := by omega
    have hdec : decide ((0 : Int) < (k : Int)) = false := by simpa using hk02
    go_wp2_with fail
    go_round
    case rel => exact ⟨k + 1, by omega, by go_num, fun x hx1 hx2 => by omega⟩
    case measure => simp [intOf]; omega
  ·have hkp : k = p := by omega
   have HN : Hid (∀ x, 1 <= x -> x < p -> ¬ Num.IsGen p x) := fun x hx1 hx2 => hno.out x hx1 (by omega)
   have hlt2 : ¬ (k : Int) < (p : Int) := by omega
   clear hkp
   go_wp2_with fail
   go_ret
   exact ⟨0, rfl, Or.inr ⟨rfl, HN.out⟩, HB.out⟩
theorem powz_nat (p : Nat) (a : Int) (n : Nat) (hp : Num.Prime p) (h3 : 3 <= p) (h0 : a % (p : Int) ≠ 0) : powz p a n = Num.pwm p (a % (p : Int)).toNat n := by
 obtain ⟨a1, a2⟩ := emod_bounds a p h3
 have e : (n : Int) % ((p : Int) - 1) = ((n % (p - 1) : Nat) : Int) := by
  rw [show (p : Int) - 1 = ((p - 1 : Nat) : Int) from by omega]; simp
 unfold powz
 rw [if_neg (fun h => h0 h.1), e, Int.toNat_natCast, Num.pwm_mod hp (by omega) (by omega)]
theorem rof_any (p : Nat) (n : Int) (w : World) (h3 : 3 <= p) (hm : p <= 2147483647) (_hn : -9223372036854775808 <= n) (_hn2 : n <= 9223372036854775807) :
  Calls Tryz.prog 36 #[.int .i64 p, .int .i64 n] w fun e w' => e = .returned (.int .i64 (n % p)) /\ w' = w := by
 obtain ⟨hb1, hb2⟩ := tmod_bounds n p (by omega)
 by_cases h1 : 0 <= n
 ·have hb3 := Int.emod_nonneg n (b := (p : Int)) (by omega)
  clear hb1 hb2
  go_enter Tryz.func36, Tryz.ntmps36
  go_wp2_with fail
  go_ret
  exact ⟨rfl, rfl⟩
 ·by_cases h2 : n.tmod p < 0
  ·have he : Hid (n.tmod p + p = n % p) := hid (tmod_neg_fix n p (by omega) h2)
   have hs1 : 0 <= n.tmod p + p := by omega
   go_enter Tryz.func36, Tryz.ntmps36
   go_wp2_with fail
   go_ret
   exact ⟨ret_int he.out, rfl⟩
  ·have he : Hid (n.tmod p = n % p) := hid (tmod_pos_fix n p (by omega) h2)
   go_enter Tryz.func36, Tryz.ntmps36
   go_wp2_with fail
   go_ret
   exact ⟨ret_int he.out, rfl⟩
theorem el_cast (p : Nat) (a : Int) (h3 : 3 <= p) : ((el p a : Nat) : Int) = a % p := by
 have := (emod_bounds a p h3).1; unfold el; omega
theorem el_lt (p : Nat) (a : Int) (h3 : 3 <= p) : el p a < p := by
 have := emod_bounds a p h3; unfold el; omega
theorem half_facts (N i : Nat) : N / 2 ^ i / 2 = N / 2 ^ (i + 1) := by rw [Nat.div_div_eq_div_mul, Nat.pow_succ]
theorem rpow_nat (p N : Nat) (a : Int) (w : World) (h3 : 3 <= p) (hm : p <= 2147483647) (ha : -9223372036854775808 <= a) (ha2 : a <= 9223372036854775807) (hN : N <= 9223372036854775807) :
  Calls Tryz.prog 89 #[.int .i64 p, .int .i64 a, .int .i64 N] w fun e w' => e = .returned (.int .i64 (Num.pwm p (el p a) N)) /\ w' = w := by
 have hof := hid (rof_any p a w h3 hm ha ha2)
 rw [<- el_cast p a h3] at hof
 have hlt := el_lt p a h3
 generalize el p a = s at *
 go_enter Tryz.func89, Tryz.ntmps89
 go_wp2_with fail
 refine hof.out.mono ?_
 rintro e w' ⟨rfl, rfl⟩
 clear hof
 go_wp2_with fail
 go_loop [1, 2, 7] (fun av nv xv => ∃ i m : Nat, m <= 9223372036854775807 /\ Hid (m = N / 2 ^ i) /\ av = .int .i64 (Num.pwm p s (2 ^ i)) /\ nv = .int .i64 m /\ xv = .int .i64 (Num.pwm p s (N % 2 ^ i))) (fun _ nv _ => (intOf nv).toNat)
 case atStart => exact ⟨0, N, hN, hid (by simp), by rw [Nat.pow_zero, Num.pwm_one p s (by omega)], rfl, by rw [Nat.pow_zero, Nat.mod_one, Num.pwm_zero p s (by omega)]; rfl⟩
 case round =>
  obtain ⟨i, m, hm2, hmi, rfl, rfl, rfl⟩ := hrel
  have hl1 := Num.pwm_lt p s (2 ^ i) (by omega)
  have hl2 := Num.pwm_lt p s (N % 2 ^ i) (by omega)
  have hsq := hid (pwm_addz p s (2 ^ i) (2 ^ i))
  have hml := hid (pwm_addz p s (N % 2 ^ i) (2 ^ i))
  have hmp := hid (mod_two_pow_succ N i)
  have hpow : Hid (2 ^ (i + 1) = 2 ^ i + 2 ^ i) := by unfold Hid; rw [Nat.pow_succ]; omega
  generalize hA : Num.pwm p s (2 ^ i) = A at *
  generalize hX : Num.pwm p s (N % 2 ^ i) = X at *
  have HA := hid hA
  have HX := hid hX
  clear hA hX
  obtain ⟨c1, c2⟩ := mul_small (A : Int) (A : Int) (by omega) (by omega) (by omega) (by omega)
  obtain ⟨d1, d2⟩ := mul_small (X : Int) (A : Int) (by omega) (by omega) (by omega) (by omega)
  by_cases h0 : m = 0
  ·subst h0
   have hN2 : N < 2 ^ i := by
    have h1 := hmi.out
    have h2 : 0 < 2 ^ i := Nat.pow_pos (by omega)
    exact (Nat.div_eq_zero_iff_lt h2).1 h1.symm
   have HF := hid hN2
   clear hN2
   go_wp2_with fail
   go_ret
   exact ⟨ret_int (by rw [<- HX.out, Nat.mod_eq_of_lt HF.out]), rfl⟩
  ·have h0b : ((m : Int) != 0) = true := by rw [bne_iff_ne]; omega
   have hd1 : 0 <= (m : Int) / 2 := by omega
   have hd2 : (m : Int) / 2 <= 9223372036854775807 := by omega
   by_cases hodd : m % 2 = 1
   ·have hob : ((m : Int) % 2 != 0) = true := by rw [bne_iff_ne]; omega
    have hbit : Hid (N / 2 ^ i % 2 = 1) := by unfold Hid; rw [<- hmi.out]; exact hodd
    clear hodd
    go_wp2_with fail
    go_round
    case rel => exact ⟨i + 1, m / 2, by omega, by unfold Hid; rw [hmi.out]; exact half_facts N i, by rw [hpow.out, <- hsq.out], by go_num, by rw [hmp.out, hbit.out, Nat.mul_one, <- hml.out]⟩
    case measure => simp [intOf]; omega
   ·have hob : ((m : Int) % 2 != 0) = false := by rw [bne_eq_false_iff_eq]; omega
    have hbit : Hid (N / 2 ^ i % 2 = 0) := by unfold Hid; rw [<- hmi.out]; omega
    clear hodd
    go_wp2_with fail
    go_round
    case rel => exact ⟨i + 1, m / 2, by omega, by unfold Hid; rw [hmi.out]; exact half_facts N i, by rw [hpow.out, <- hsq.out], by go_num, by rw [hmp.out, hbit.out, Nat.mul_zero, Nat.add_zero, HX.out]⟩
    case measure => simp [intOf]; omega
def invn (p : Nat) (a : Int) : Nat := Num.pwm p (el p a) (p - 2)
theorem invn_lt (p : Nat) (a : Int) (h3 : 3 <= p) : invn p a < p := Num.pwm_lt _ _ _ (by omega)
theorem rinv_any (p : Nat) (a : Int) (w : World) (h3 : 3 <= p) (hm : p <= 2147483647) (ha : -9223372036854775808 <= a) (ha2 : a <= 9223372036854775807) :
  Calls Tryz.prog 165 #[.int .i64 p, .int .i64 a] w fun e w' => e = .returned (.int .i64 (invn p a)) /\ w' = w := by
 have hpw := hid (rpow_nat p (p - 2) a w h3 hm ha ha2 (by omega))
 rw [show ((p - 2 : Nat) : Int) = (p : Int) - 2 from by omega] at hpw
 go_enter Tryz.func165, Tryz.ntmps165
 go_wp2_with fail
 refine hpw.out.mono ?_
 rintro e w' ⟨rfl, rfl⟩
 go_wp2_with fail
 go_ret
 exact ⟨rfl, rfl⟩
theorem pwm_zero_left (p n : Nat) (hn : n ≠ 0) : Num.pwm p 0 n = 0 := by
 unfold Num.pwm; rw [Nat.zero_pow (by omega), Nat.zero_mod]
theorem powz_zero (p : Nat) (a n : Int) (h : a % (p : Int) = 0) (hn : n ≠ 0) : powz p a n = 0 := by unfold powz; rw [if_pos ⟨h, hn⟩]
theorem powz_ref_nat (p N : Nat) (a : Int) (hp : Num.Prime p) (h3 : 3 <= p) : powz p a N = Num.pwm p (el p a) N := by
 by_cases hz : a % (p : Int) = 0
 ·have he : el p a = 0 := by unfold el; rw [hz]; rfl
  by_cases hN : N = 0
  ·subst hN
   unfold powz
   rw [if_neg (by simp), he, hz]
   simp
  ·rw [powz_zero p a N hz (by omega), he, pwm_zero_left p N hN]
 ·obtain ⟨a1, a2⟩ := emod_bounds a p h3
  have e : (N : Int) % ((p : Int) - 1) = ((N % (p - 1) : Nat) : Int) := by
   rw [show (p : Int) - 1 = ((p - 1 : Nat) : Int) from by omega]; simp
  unfold powz el
  rw [if_neg (fun h => hz h.1), e, Int.toNat_natCast, Num.pwm_mod hp (by omega) (by omega)]
theorem inv_ref (p : Nat) (a : Int) (hp : Num.Prime p) (h3 : 3 <= p) : powz p a ((p : Int) - 2) = invn p a := by
 rw [show (p : Int) - 2 = ((p - 2 : Nat) : Int) from by omega, powz_ref_nat p (p - 2) a hp h3]; rfl
theorem radd_any (p : Nat) (x y : Int) (w : World) (h3 : 3 <= p) (hm : p <= 2147483647)
  (hx : -9223372036854775808 <= x) (hx2 : x <= 9223372036854775807) (hy : -9223372036854775808 <= y) (hy2 : y <= 9223372036854775807) :
  Calls Tryz.prog 98 #[.int .i64 p, .int .i64 x, .int .i64 y] w fun e w' => e = .returned (.int .i64 ((x + y) % p)) /\ w' = w := by
 obtain ⟨a1, a2⟩ := emod_bounds x p h3
 obtain ⟨b1, b2⟩ := emod_bounds y p h3
 go_enter Tryz.func98, Tryz.ntmps98
 go_wp2_with fail
 refine (rof_any p x w h3 hm hx hx2).mono ?_
 rintro e w' ⟨rfl, rfl⟩
 go_wp2_with fail
 refine (rof_any p y _ h3 hm hy hy2).mono ?_
 rintro e w' ⟨rfl, rfl⟩
 go_wp2_with fail
 go_ret
 exact ⟨ret_int (Int.add_emod x y p).symm, rfl⟩
theorem sub_fix (x y : Int) (p : Nat) : (x % p + p - y % p) % (p : Int) = (x - y) % p := by
 rw [Int.sub_emod x y p, show x % (p : Int) + p - y % p = (x % p - y % p) + p from by omega, Int.add_emod_right]
theorem rsub_any (p : Nat) (x y : Int) (w : World) (h3 : 3 <= p) (hm : p <= 2147483647)
  (hx : -9223372036854775808 <= x) (hx2 : x <= 9223372036854775807) (hy : -9223372036854775808 <= y) (hy2 : y <= 9223372036854775807) :
  Calls Tryz.prog 247 #[.int .i64 p, .int .i64 x, .int .i64 y] w fun e w' => e = .returned (.int .i64 ((x - y) % p)) /\ w' = w := by
 obtain ⟨a1, a2⟩ := emod_bounds x p h3
 obtain ⟨b1, b2⟩ := emod_bounds y p h3
 have hf := hid (sub_fix x y p)
 go_enter Tryz.func247, Tryz.ntmps247
 go_wp2_with fail
 refine (rof_any p x w h3 hm hx hx2).mono ?_
 rintro e w' ⟨rfl, rfl⟩
 go_wp2_with fail
 refine (rof_any p y _ h3 hm hy hy2).mono ?_
 rintro e w' ⟨rfl, rfl⟩
 go_wp2_with fail
 go_ret
 exact ⟨ret_int hf.out, rfl⟩
theorem rmul_any (p : Nat) (x y : Int) (w : World) (h3 : 3 <= p) (hm : p <= 2147483647)
  (hx : -9223372036854775808 <= x) (hx2 : x <= 9223372036854775807) (hy : -9223372036854775808 <= y) (hy2 : y <= 9223372036854775807) :
  Calls Tryz.prog 97 #[.int .i64 p, .int .i64 x, .int .i64 y] w fun e w' => e = .returned (.int .i64 (x * y % p)) /\ w' = w := by
 obtain ⟨a1, a2⟩ := emod_bounds x p h3
 obtain ⟨b1, b2⟩ := emod_bounds y p h3
 obtain ⟨c1, c2⟩ := mul_small (x % p) (y % p) a1 (by omega) b1 (by omega)
 go_enter Tryz.func97, Tryz.ntmps97
 go_wp2_with fail
 refine (rof_any p x w h3 hm hx hx2).mono ?_
 rintro e w' ⟨rfl, rfl⟩
 go_wp2_with fail
 refine (rof_any p y _ h3 hm hy hy2).mono ?_
 rintro e w' ⟨rfl, rfl⟩
 go_wp2_with fail
 go_ret
 exact ⟨ret_int (Int.mul_emod x y p).symm, rfl⟩
theorem add_any (p b : Nat) (x y : Int) (w : World) (h3 : 3 <= p) (hm : p <= 2147483647) (hp : w.cell? ⟨b, 0, none⟩ = some (.int .i64 p))
  (hx : -9223372036854775808 <= x) (hx2 : x <= 9223372036854775807) (hy : -9223372036854775808 <= y) (hy2 : y <= 9223372036854775807) :
  Calls Tryz.prog 86 #[.pointer (some ⟨b, 0, none⟩), .int .i64 x, .int .i64 y] w fun e w' => e = .returned (.int .i64 ((x + y) % p)) /\ w' = w := by
 obtain ⟨a1, a2⟩ := emod_bounds x p h3
 obtain ⟨b1, b2⟩ := emod_bounds y p h3
 go_enter Tryz.func86, Tryz.ntmps86
 go_wp2_with fail
 refine (of_any p b x w h3 hm hp hx hx2).mono ?_
 rintro e w' ⟨rfl, rfl⟩
 go_wp2_with fail
 refine (of_any p b y _ h3 hm hp hy hy2).mono ?_
 rintro e w' ⟨rfl, rfl⟩
 go_wp2_with fail
 refine (of_any p b _ _ h3 hm hp (by omega) (by omega)).mono ?_
 rintro e w' ⟨rfl, rfl⟩
 go_wp2_with fail
 go_ret
 exact ⟨rfl, rfl⟩
theorem sub_any (p b : Nat) (x y : Int) (w : World) (h3 : 3 <= p) (hm : p <= 2147483647) (hp : w.cell? ⟨b, 0, none⟩ = some (.int .i64 p))
  (hx : -9223372036854775808 <= x) (hx2 : x <= 9223372036854775807) (hy : -9223372036854775808 <= y) (hy2 : y <= 9223372036854775807) :
  Calls Tryz.prog 119 #[.pointer (some ⟨b, 0, none⟩), .int .i64 x, .int .i64 y] w fun e w' => e = .returned (.int .i64 ((x - y) % p)) /\ w' = w := by
 obtain ⟨a1, a2⟩ := emod_bounds x p h3
 obtain ⟨b1, b2⟩ := emod_bounds y p h3
 go_enter Tryz.func119, Tryz.ntmps119
 go_wp2_with fail
 refine (of_any p b x w h3 hm hp hx hx2).mono ?_
 rintro e w' ⟨rfl, rfl⟩
 go_wp2_with fail
 refine (of_any p b y _ h3 hm hp hy hy2).mono ?_
 rintro e w' ⟨rfl, rfl⟩
 go_wp2_with fail
 refine (of_any p b _ _ h3 hm hp (by omega) (by omega)).mono ?_
 rintro e w' ⟨rfl, rfl⟩
 go_wp2_with fail
 go_ret
 exact ⟨rfl, rfl⟩
theorem rdiv_any (p : Nat) (x y : Int) (w : World) (h3 : 3 <= p) (hm : p <= 2147483647)
  (hx : -9223372036854775808 <= x) (hx2 : x <= 9223372036854775807) (hy : -9223372036854775808 <= y) (hy2 : y <= 9223372036854775807) :
  Calls Tryz.prog 246 #[.int .i64 p, .int .i64 x, .int .i64 y] w fun e w' => e = .returned (.int .i64 (x * (invn p y : Int) % p)) /\ w' = w := by
 have hl := invn_lt p y h3
 have hi := hid (rinv_any p y w h3 hm hy hy2)
 have hmu := hid (rmul_any p x (invn p y) w h3 hm hx hx2 (by omega) (by omega))
 generalize invn p y = t at *
 go_enter Tryz.func246, Tryz.ntmps246
 go_wp2_with fail
 refine hi.out.mono ?_
 rintro e w' ⟨rfl, rfl⟩
 go_wp2_with fail
 refine hmu.out.mono ?_
 rintro e w' ⟨rfl, rfl⟩
 go_wp2_with fail
 go_ret
 exact ⟨rfl, rfl⟩
theorem el_nat (p s : Nat) (h : s < p) : el p (s : Int) = s := by
 unfold el; rw [Int.emod_eq_of_lt (by omega) (by omega)]; simp
theorem rorder_any (p : Nat) (a : Int) (w : World) (hpr : Num.Prime p) (h3 : 3 <= p) (hm : p <= 2147483647) (ha : -9223372036854775808 <= a) (ha2 : a <= 9223372036854775807) :
  Calls Tryz.prog 164 #[.int .i64 p, .int .i64 a] w fun e w' => ∃ k : Nat, e = .returned (.int .i64 k) /\ (a % (p : Int) = 0 -> k = 0) /\ (a % (p : Int) ≠ 0 -> Num.LeastDiv p (el p a) k) /\ w' = w := by
 have hof := hid (rof_any p a w h3 hm ha ha2)
 by_cases hz : a % (p : Int) = 0
 ·have HZ := hid hz
  rw [hz] at hof
  clear hz hpr
  go_enter Tryz.func164, Tryz.ntmps164
  go_wp2_with fail
  refine hof.out.mono ?_
  rintro e w' ⟨rfl, rfl⟩
  go_wp2_with fail
  go_ret
  exact ⟨0, rfl, fun _ => rfl, fun h => absurd HZ.out h, rfl⟩
 ·have hsp := el_lt p a h3
  have hs0 : 0 < el p a := by
   have := el_cast p a h3
   rcases Nat.eq_zero_or_pos (el p a) with g | g
   ·rw [g] at this; exact absurd this.symm hz
   ·exact g
  have HZ := hid hz
  have HS := hid (Num.DI.start hpr hs0 hsp)
  have HPW : Hid (∀ (N : Nat) (w : World), N <= 9223372036854775807 -> Calls Tryz.prog 89 #[.int .i64 p, .int .i64 ((el p a : Nat) : Int), .int .i64 N] w fun e w' => e = .returned (.int .i64 (Num.pwm p (el p a) N)) /\ w' = w) := by
   intro N w hN
   have := rpow_nat p N ((el p a : Nat) : Int) w h3 hm (by omega) (by omega) hN
   rw [el_nat p _ hsp] at this
   exact this
  rw [<- el_cast p a h3] at hof
  generalize el p a = s at *
  have hsb : ((s : Int) == 0) = false := by rw [beq_eq_false_iff_ne]; omega
  clear hz hpr
  go_enter Tryz.func164, Tryz.ntmps164
  go_wp2_with fail
  refine hof.out.mono ?_
  rintro e w' ⟨rfl, rfl⟩
  clear hof
  go_wp2_with fail
  go_loop [5, 6] (fun bv iv => ∃ i best : Nat, 1 <= i /\ i <= 46341 /\ best <= 2147483647 /\ iv = .int .i64 i /\ bv = .int .i64 best /\ Hid (Num.DI p s i best)) (fun _ iv => 46341 - (intOf iv).toNat)
  case atStart => exact ⟨1, p - 1, by omega, by omega, by omega, rfl, by go_num, HS⟩
  case round =>
   obtain ⟨i, best, hi1, hi2, hbest, rfl, rfl, hdi⟩ := hrel
   have hsq : ((i : Int) * i) = ((i * i : Nat) : Int) := by simp
   have hkk : i * i <= 46341 * 46341 := Nat.mul_le_mul hi2 hi2
   have hq1 : 0 <= (i : Int) * i := by omega
   have hq2 : (i : Int) * i <= 2147488281 := by omega
   by_cases hle : i * i <= p - 1
   ·have hi3 := sq_le i (p - 1) hle (by omega)
    have hle2 : (i : Int) * i <= (p : Int) - 1 := by omega
    clear hsq hle hkk
    by_cases hd : i ∣ p - 1
    ·have hmod : (((p : Int) - 1) % (i : Int) != 0) = false := by
      rw [bne_eq_false_iff_eq, show (p : Int) - 1 = ((p - 1 : Nat) : Int) from by omega]
      exact Int.emod_eq_zero_of_dvd (Int.ofNat_dvd.2 hd)
     have q1 : 0 <= ((p : Int) - 1) / (i : Int) := Int.ediv_nonneg (by omega) (by omega)
     have q2 : ((p : Int) - 1) / (i : Int) <= 2147483647 := by
      have := Int.ediv_le_self (a := (p : Int) - 1) (i : Int) (by omega); omega
     have hkc := div_cast p i h3
     have hKle : (p - 1) / i <= p - 1 := Nat.div_le_self _ _
     have hp1 := hid (HPW.out i w' (by omega))
     have hp2 := hid (HPW.out ((p - 1) / i) w' (by omega))
     rw [<- hkc] at hp2
     have HST := hid (fun b1 b2 => Num.DI.step (b1 := b1) (b2 := b2) hi1 (by omega) hdi.out hd)
     generalize (p - 1) / i = K at *
     generalize Num.pwm p s i = X1 at *
     generalize Num.pwm p s K = X2 at *
     have HKC := hid hkc
     clear hd hkc
     have c1 : (X1 = 1 /\ i < best) ∨ X1 ≠ 1 ∨ (X1 = 1 /\ best <= i) := by omega
     rcases c1 with ⟨e1, e2⟩ | e1 | ⟨e1, e2⟩
     ·have f1 : ((X1 : Int) == 1) = true := by rw [beq_iff_eq]; omega
      have f2 : (i : Int) < (best : Int) := by omega
      have c2 : (X2 = 1 /\ K < i) ∨ X2 ≠ 1 ∨ (X2 = 1 /\ i <= K) := by omega
      have HE1 : Hid (i = if X1 = 1 /\ i < best then i else best) := by unfold Hid; first | rw [if_pos (by omega)] | rw [if_neg (by omega)]
      rcases c2 with ⟨g1, g2⟩ | g1 | ⟨g1, g2⟩
      ·have f3 : ((X2 : Int) == 1) = true := by rw [beq_iff_eq]; omega
       have f4 : ((p : Int) - 1) / (i : Int) < (i : Int) := by rw [HKC.out]; omega
       have HE2 : Hid (K = if X2 = 1 /\ K < i then K else i) := by unfold Hid; first | rw [if_pos (by omega)] | rw [if_neg (by omega)]
       clear e1 g1 e2 g2
       go_wp2_with fail
       refine hp1.out.mono ?_
       rintro e w2 ⟨rfl, rfl⟩
       go_wp2_with fail
       refine hp2.out.mono ?_
       rintro e w2 ⟨rfl, rfl⟩
       go_wp2_with fail
       go_round
       case rel => exact ⟨i + 1, K, by omega, by omega, by omega, by go_num, by first | rfl | rw [HKC.out], hid (HST.out _ _ HE1.out HE2.out)⟩
       case measure => simp [intOf]; omega
      ·have f3 : ((X2 : Int) == 1) = false := by rw [beq_eq_false_iff_ne]; omega
       have HE2 : Hid (i = if X2 = 1 /\ K < i then K else i) := by unfold Hid; first | rw [if_pos (by omega)] | rw [if_neg (by omega)]
       clear e1 g1 e2
       go_wp2_with fail
       refine hp1.out.mono ?_
       rintro e w2 ⟨rfl, rfl⟩
       go_wp2_with fail
       refine hp2.out.mono ?_
       rintro e w2 ⟨rfl, rfl⟩
       go_wp2_with fail
       go_round
       case rel => exact ⟨i + 1, i, by omega, by omega, by omega, by go_num, by first | rfl | rw [HKC.out], hid (HST.out _ _ HE1.out HE2.out)⟩
       case measure => simp [intOf]; omega
      ·have f3 : ((X2 : Int) == 1) = true := by rw [beq_iff_eq]; omega
       have f4 : ¬ ((p : Int) - 1) / (i : Int) < (i : Int) := by rw [HKC.out]; omega
       have HE2 : Hid (i = if X2 = 1 /\ K < i then K else i) := by unfold Hid; first | rw [if_pos (by omega)] | rw [if_neg (by omega)]
       clear e1 g1 e2 g2
       go_wp2_with fail
       refine hp1.out.mono ?_
       rintro e w2 ⟨rfl, rfl⟩
       go_wp2_with fail
       refine hp2.out.mono ?_
       rintro e w2 ⟨rfl, rfl⟩
       go_wp2_with fail
       go_round
       case rel => exact ⟨i + 1, i, by omega, by omega, by omega, by go_num, by first | rfl | rw [HKC.out], hid (HST.out _ _ HE1.out HE2.out)⟩
       case measure => simp [intOf]; omega
     ·have f1 : ((X1 : Int) == 1) = false := by rw [beq_eq_false_iff_ne]; omega
      have c2 : (X2 = 1 /\ K < best) ∨ X2 ≠ 1 ∨ (X2 = 1 /\ best <= K) := by omega
      have HE1 : Hid (best = if X1 = 1 /\ i < best then i else best) := by unfold Hid; first | rw [if_pos (by omega)] | rw [if_neg (by omega)]
      rcases c2 with ⟨g1, g2⟩ | g1 | ⟨g1, g2⟩
      ·have f3 : ((X2 : Int) == 1) = true := by rw [beq_iff_eq]; omega
       have f4 : ((p : Int) - 1) / (i : Int) < (best : Int) := by rw [HKC.out]; omega
       have HE2 : Hid (K = if X2 = 1 /\ K < best then K else best) := by unfold Hid; first | rw [if_pos (by omega)] | rw [if_neg (by omega)]
       clear e1 g1 g2
       go_wp2_with fail
       refine hp1.out.mono ?_
       rintro e w2 ⟨rfl, rfl⟩
       go_wp2_with fail
       refine hp2.out.mono ?_
       rintro e w2 ⟨rfl, rfl⟩
       go_wp2_with fail
       go_round
       case rel => exact ⟨i + 1, K, by omega, by omega, by omega, by go_num, by first | rfl | rw [HKC.out], hid (HST.out _ _ HE1.out HE2.out)⟩
       case measure => simp [intOf]; omega
      ·have f3 : ((X2 : Int) == 1) = false := by rw [beq_eq_false_iff_ne]; omega
       have HE2 : Hid (best = if X2 = 1 /\ K < best then K else best) := by unfold Hid; first | rw [if_pos (by omega)] | rw [if_neg (by omega)]
       clear e1 g1
       go_wp2_with fail
       refine hp1.out.mono ?_
       rintro e w2 ⟨rfl, rfl⟩
       go_wp2_with fail
       refine hp2.out.mono ?_
       rintro e w2 ⟨rfl, rfl⟩
       go_wp2_with fail
       go_round
       case rel => exact ⟨i + 1, best, by omega, by omega, by omega, by go_num, by first | rfl | rw [HKC.out], hid (HST.out _ _ HE1.out HE2.out)⟩
       case measure => simp [intOf]; omega
      ·have f3 : ((X2 : Int) == 1) = true := by rw [beq_iff_eq]; omega
       have f4 : ¬ ((p : Int) - 1) / (i : Int) < (best : Int) := by rw [HKC.out]; omega
       have HE2 : Hid (best = if X2 = 1 /\ K < best then K else best) := by unfold Hid; first | rw [if_pos (by omega)] | rw [if_neg (by omega)]
       clear e1 g1 g2
       go_wp2_with fail
       refine hp1.out.mono ?_
       rintro e w2 ⟨rfl, rfl⟩
       go_wp2_with fail
       refine hp2.out.mono ?_
       rintro e w2 ⟨rfl, rfl⟩
       go_wp2_with fail
       go_round
       case rel => exact ⟨i + 1, best, by omega, by omega, by omega, by go_num, by first | rfl | rw [HKC.out], hid (HST.out _ _ HE1.out HE2.out)⟩
       case measure => simp [intOf]; omega
     ·have f1 : ((X1 : Int) == 1) = true := by rw [beq_iff_eq]; omega
      have f2 : ¬ (i : Int) < (best : Int) := by omega
      have c2 : (X2 = 1 /\ K < best) ∨ X2 ≠ 1 ∨ (X2 = 1 /\ best <= K) := by omega
      have HE1 : Hid (best = if X1 = 1 /\ i < best then i else best) := by unfold Hid; first | rw [if_pos (by omega)] | rw [if_neg (by omega)]
      rcases c2 with ⟨g1, g2⟩ | g1 | ⟨g1, g2⟩
      ·have f3 : ((X2 : Int) == 1) = true := by rw [beq_iff_eq]; omega
       have f4 : ((p : Int) - 1) / (i : Int) < (best : Int) := by rw [HKC.out]; omega
       have HE2 : Hid (K = if X2 = 1 /\ K < best then K else best) := by unfold Hid; first | rw [if_pos (by omega)] | rw [if_neg (by omega)]
       clear e1 g1 e2 g2
       go_wp2_with fail
       refine hp1.out.mono ?_
       rintro e w2 ⟨rfl, rfl⟩
       go_wp2_with fail
       refine hp2.out.mono ?_
       rintro e w2 ⟨rfl, rfl⟩
       go_wp2_with fail
       go_round
       case rel => exact ⟨i + 1, K, by omega, by omega, by omega, by go_num, by first | rfl | rw [HKC.out], hid (HST.out _ _ HE1.out HE2.out)⟩
       case measure => simp [intOf]; omega
      ·have f3 : ((X2 : Int) == 1) = false := by rw [beq_eq_false_iff_ne]; omega
       have HE2 : Hid (best = if X2 = 1 /\ K < best then K else best) := by unfold Hid; first | rw [if_pos (by omega)] | rw [if_neg (by omega)]
       clear e1 g1 e2
       go_wp2_with fail
       refine hp1.out.mono ?_
       rintro e w2 ⟨rfl, rfl⟩
       go_wp2_with fail
       refine hp2.out.mono ?_
       rintro e w2 ⟨rfl, rfl⟩
       go_wp2_with fail
       go_round
       case rel => exact ⟨i + 1, best, by omega, by omega, by omega, by go_num, by first | rfl | rw [HKC.out], hid (HST.out _ _ HE1.out HE2.out)⟩
       case measure => simp [intOf]; omega
      ·have f3 : ((X2 : Int) == 1) = true := by rw [beq_iff_eq]; omega
       have f4 : ¬ ((p : Int) - 1) / (i : Int) < (best : Int) := by rw [HKC.out]; omega
       have HE2 : Hid (best = if X2 = 1 /\ K < best then K else best) := by unfold Hid; first | rw [if_pos (by omega)] | rw [if_neg (by omega)]
       clear e1 g1 e2 g2
       go_wp2_with fail
       refine hp1.out.mono ?_
       rintro e w2 ⟨rfl, rfl⟩
       go_wp2_with fail
       refine hp2.out.mono ?_
       rintro e w2 ⟨rfl, rfl⟩
       go_wp2_with fail
       go_round
       case rel => exact ⟨i + 1, best, by omega, by omega, by omega, by go_num, by first | rfl | rw [HKC.out], hid (HST.out _ _ HE1.out HE2.out)⟩
       case measure => simp [intOf]; omega
    ·have hmod : (((p : Int) - 1) % (i : Int) != 0) = true := by
      rw [bne_iff_ne, show (p : Int) - 1 = ((p - 1 : Nat) : Int) from by omega]
      intro g; exact hd (Int.ofNat_dvd.1 (Int.dvd_of_emod_eq_zero g))
     have HST := hid (hdi.out.skip hi1 (by omega) hd)
     clear hd
     go_wp2_with fail
     go_round
     case rel => exact ⟨i + 1, best, by omega, by omega, hbest, by go_num, rfl, HST⟩
     case measure => simp [intOf]; omega
   ·have hle2 : ¬ (i : Int) * i <= (p : Int) - 1 := by omega
    have HL := hid hle
    clear hsq hle hkk
    go_wp2_with fail
    go_ret
    exact ⟨best, rfl, fun h => absurd h HZ.out, fun _ => hdi.out.done (by omega) hi1 (Nat.lt_of_not_le HL.out), rfl⟩
theorem rgen_any (p : Nat) (w : World) (hpr : Num.Prime p) (h3 : 3 <= p) (hm : p <= 2147483647) :
  Calls Tryz.prog 88 #[.int .i64 p] w fun e w' => ∃ g : Nat, e = .returned (.int .i64 g) /\ Num.GenIs p g /\ w' = w := by
 have HO : Hid (∀ (g : Nat) (w : World), 1 <= g -> g < p -> Calls Tryz.prog 164 #[.int .i64 p, .int .i64 g] w fun e w' => ∃ k : Nat, e = .returned (.int .i64 k) /\ (k = p - 1 ↔ Num.IsGen p g) /\ w' = w) := by
  intro g w h1 h2
  refine (rorder_any p g w hpr h3 hm (by omega) (by omega)).mono fun e w' ⟨k, he, _, hk, hw⟩ => ⟨k, he, ?_, hw⟩
  have hne : (g : Int) % (p : Int) ≠ 0 := by rw [Int.emod_eq_of_lt (by omega) (by omega)]; omega
  have := hk hne
  rw [el_nat p g h2] at this
  exact Num.leastDiv_gen h3 this
 clear hpr
 go_enter Tryz.func88, Tryz.ntmps88
 go_wp2_with fail
 go_loop [3] (fun iv => ∃ i : Nat, 1 <= i /\ i <= p /\ iv = .int .i64 i /\ Hid (∀ x, 1 <= x -> x < i -> ¬ Num.IsGen p x)) (fun iv => p - (intOf iv).toNat)
 case atStart => exact ⟨1, by omega, by omega, rfl, hid (fun x h1 h2 => by omega)⟩
 case round =>
  obtain ⟨i, hi1, hi2, rfl, hno⟩ := hrel
  by_cases hlt : i < p
  ·have hlt2 : (i : Int) < (p : Int) := by omega
   go_wp2_with fail
   refine (HO.out i _ hi1 hlt).mono ?_
   rintro e w' ⟨k, rfl, hk, rfl⟩
   by_cases hkp : k = p - 1
   ·have hb : ((k : Int) == (p : Int) - 1) = true := by rw [beq_iff_eq]; omega
    have HG := hid (hk.1 hkp)
    clear hk hkp
    go_wp2_with fail
    go_ret
    exact ⟨i, rfl, Or.inl ⟨hi1, hlt, HG.out, hno.out⟩, rfl⟩
   ·have hb : ((k : Int) == (p : Int) - 1) = false := by rw [beq_eq_false_iff_ne]; omega
    have HG : Hid (¬ Num.IsGen p i) := fun h => hkp (hk.2 h)
    clear hk hkp
    go_wp2_with fail
    go_round
    case rel => exact ⟨i + 1, by omega, by omega, by go_num, fun x hx1 hx2 => by
     by_cases hxk : x = i
     ·subst hxk; exact HG.out
     ·exact hno.out x hx1 (by omega)⟩
    case measure => simp [intOf]; omega
  ·have hlt2 : ¬ (i : Int) < (p : Int) := by omega
   have HN : Hid (∀ x, 1 <= x -> x < p -> ¬ Num.IsGen p x) := fun x hx1 hx2 => hno.out x hx1 (by omega)
   go_wp2_with fail
   go_ret
   exact ⟨0, rfl, Or.inr ⟨rfl, HN.out⟩, rfl⟩
theorem genIs_lt {p g : Nat} (h3 : 3 <= p) (h : Num.GenIs p g) : g < p := by
 rcases h with ⟨_, h, _⟩ | ⟨h, _⟩ <;> omega
def RootIs (p : Nat) (n : Int) (r : Nat) : Prop :=
 ((n < 1 ∨ ((p : Int) - 1) % n ≠ 0) /\ r = 0) ∨ (1 <= n /\ ((p : Int) - 1) % n = 0 /\ ∃ g, Num.GenIs p g /\ r = Num.pwm p g ((p - 1) / n.toNat))
theorem rootIs_unique {p r s : Nat} {n : Int} (a : RootIs p n r) (b : RootIs p n s) : r = s := by
 rcases a with ⟨a1, a2⟩ | ⟨a1, a2, g, a3, a4⟩
 ·rcases b with ⟨b1, b2⟩ | ⟨b1, b2, _⟩
  ·omega
  ·rcases a1 with a1 | a1
   ·omega
   ·exact absurd b2 a1
 ·rcases b with ⟨b1, b2⟩ | ⟨b1, b2, h, b3, b4⟩
  ·rcases b1 with b1 | b1
   ·omega
   ·exact absurd a2 b1
  ·have := Num.genIs_unique a3 b3
   subst this
   omega
theorem quot_facts (p : Nat) (n : Int) (h3 : 3 <= p) (hn : 1 <= n) : 0 <= ((p : Int) - 1) / n /\ ((p : Int) - 1) / n <= (p : Int) - 1 /\ ((p : Int) - 1) / n = (((p - 1) / n.toNat : Nat) : Int) := by
 refine ⟨Int.ediv_nonneg (by omega) (by omega), Int.ediv_le_self _ (by omega), ?_⟩
 obtain ⟨k, rfl⟩ := Int.eq_ofNat_of_zero_le (show 0 <= n by omega)
 rw [Int.toNat_natCast]
 exact div_cast p k h3
theorem rroot_any (p : Nat) (n : Int) (w : World) (hpr : Num.Prime p) (h3 : 3 <= p) (hm : p <= 2147483647) (hn : -9223372036854775808 <= n) (hn2 : n <= 9223372036854775807) :
  Calls Tryz.prog 35 #[.int .i64 p, .int .i64 n] w fun e w' => ∃ r : Nat, e = .returned (.int .i64 r) /\ RootIs p n r /\ w' = w := by
 have hgen := hid (rgen_any p w hpr h3 hm)
 clear hpr
 by_cases h1 : n < 1
 ·go_enter Tryz.func35, Tryz.ntmps35
  go_wp2_with fail
  go_ret
  exact ⟨0, rfl, Or.inl ⟨Or.inl h1, rfl⟩, rfl⟩
 ·by_cases hd : ((p : Int) - 1) % n = 0
  ·have hb : (((p : Int) - 1) % n != 0) = false := by rw [hd]; rfl
   obtain ⟨q1, q2, q3⟩ := quot_facts p n h3 (by omega)
   have HD := hid hd
   have HQ := hid q3
   have HPW : Hid (∀ (g : Nat) (w : World), g < p -> Calls Tryz.prog 89 #[.int .i64 p, .int .i64 g, .int .i64 (((p : Int) - 1) / n)] w fun e w' => e = .returned (.int .i64 (Num.pwm p g ((p - 1) / n.toNat))) /\ w' = w) := by
    intro g w hg
    have := rpow_nat p ((p - 1) / n.toNat) (g : Int) w h3 hm (by omega) (by omega) (by omega)
    rw [el_nat p g hg, <- q3] at this
    exact this
   clear hd q3
   go_enter Tryz.func35, Tryz.ntmps35
   go_wp2_with fail
   refine hgen.out.mono ?_
   rintro e w' ⟨g, rfl, hg, rfl⟩
   have HG := hid hg
   clear hg
   go_wp2_with fail
   refine (HPW.out g _ (genIs_lt h3 HG.out)).mono ?_
   rintro e w' ⟨rfl, rfl⟩
   go_wp2_with fail
   go_ret
   exact ⟨_, rfl, Or.inr ⟨by omega, HD.out, g, HG.out, rfl⟩, rfl⟩
  ·have hb : (((p : Int) - 1) % n != 0) = true := by rw [bne_iff_ne]; exact hd
   have HD := hid hd
   clear hd
   go_enter Tryz.func35, Tryz.ntmps35
   go_wp2_with fail
   go_ret
   exact ⟨0, rfl, Or.inl ⟨Or.inr HD.out, rfl⟩, rfl⟩
theorem root_any (p b : Nat) (n : Int) (w : World) (hpr : Num.Prime p) (h3 : 3 <= p) (hm : p <= 2147483647) (hp : w.cell? ⟨b, 0, none⟩ = some (.int .i64 p)) (hbl : b < w.heap.size) (hn : -9223372036854775808 <= n) (hn2 : n <= 9223372036854775807) :
  Calls Tryz.prog 66 #[.pointer (some ⟨b, 0, none⟩), .int .i64 n] w fun e w' => ∃ r : Nat, e = .returned (.int .i64 r) /\ RootIs p n r /\ Below w.heap.size w w' := by
 have hgen := hid (gen_any p b w h3 hm hp hbl)
 by_cases h1 : n < 1
 ·clear hpr
  go_enter Tryz.func66, Tryz.ntmps66
  go_wp2_with fail
  go_ret
  exact ⟨0, rfl, Or.inl ⟨Or.inl h1, rfl⟩, Below.refl _ _⟩
 ·by_cases hd : ((p : Int) - 1) % n = 0
  ·have hb : (((p : Int) - 1) % n != 0) = false := by rw [hd]; rfl
   obtain ⟨q1, q2, q3⟩ := quot_facts p n h3 (by omega)
   have HD := hid hd
   have HPW : Hid (∀ (g : Nat) (w : World), g < p -> w.cell? ⟨b, 0, none⟩ = some (.int .i64 p) -> Calls Tryz.prog 128 #[.pointer (some ⟨b, 0, none⟩), .int .i64 g, .int .i64 (((p : Int) - 1) / n)] w fun e w' => e = .returned (.int .i64 (Num.pwm p g ((p - 1) / n.toNat))) /\ w' = w) := by
    intro g w hg hp
    have := pow_any p b (g : Int) (((p : Int) - 1) / n) w h3 hm hp (by omega) (by omega) (by omega) (by omega)
    rw [q3, powz_ref_nat p _ (g : Int) hpr h3, el_nat p g hg] at this
    rw [q3]
    exact this
   have HGEN : Hid (∀ w1 : World, w1.cell? ⟨b, 0, none⟩ = some (.int .i64 p) -> b < w1.heap.size -> Calls Tryz.prog 129 #[.pointer (some ⟨b, 0, none⟩)] w1 fun e w' => ∃ g : Nat, e = .returned (.int .i64 g) /\ Num.GenIs p g /\ Below w1.heap.size w1 w') :=
    fun w1 h1 h2 => gen_any p b w1 h3 hm h1 h2
   clear hd q3 hpr hgen
   go_enter Tryz.func66, Tryz.ntmps66
   go_wp2_with fail
   go_region_with (first
    | (go_at_call 129; refine (HGEN.out _ ?_ ?_).mono ?_; exact hp; exact hbl; rintro e w1 ⟨g, rfl, hg, hbel⟩; have hp1 := (hbel.cell (p := ⟨b, 0, none⟩) hbl).trans hp; have HG := hid hg; have HB := hid hbel; clear hg hbel)
    | (go_at_call 128; refine (HPW.out g _ ?_ ?_).mono ?_; exact genIs_lt h3 HG.out; exact hp1; rintro e w2 ⟨rfl, rfl⟩))
   all_goals
    go_wp2_with fail
    go_ret
    exact ⟨_, rfl, Or.inr ⟨by omega, HD.out, g, HG.out, rfl⟩, ((Below.refl w.heap.size w).drew).trans HB.out⟩
  ·have hb : (((p : Int) - 1) % n != 0) = true := by rw [bne_iff_ne]; exact hd
   have HD := hid hd
   clear hd hpr
   go_enter Tryz.func66, Tryz.ntmps66
   go_wp2_with fail
   go_ret
   exact ⟨0, rfl, Or.inl ⟨Or.inr HD.out, rfl⟩, Below.refl _ _⟩
theorem p_any (p b : Nat) (w : World) (hp : w.cell? ⟨b, 0, none⟩ = some (.int .i64 p)) :
  Calls Tryz.prog 122 #[.pointer (some ⟨b, 0, none⟩)] w fun e w' => e = .returned (.int .i64 p) /\ w' = w := by
 go_enter Tryz.func122, Tryz.ntmps122
 go_wp2_with fail
 go_ret
 exact ⟨rfl, rfl⟩
def zat (zs : List Int) (i : Nat) : Int := zs[i]?.getD 0
def RowP (P : Nat -> Prop) (w : World) (a : Option Addr) (zs : List Int) : Prop :=
 ∀ k, k < zs.length -> ∃ b o, a = some ⟨b, o, none⟩ /\ P b /\ w.cell? ⟨b, o + k, none⟩ = some (.int .i64 (zat zs k))
def RowB (n0 : Nat) (w : World) (a : Option Addr) (zs : List Int) : Prop :=
 ∀ k, k < zs.length -> ∃ b o, a = some ⟨b, o, none⟩ /\ b < n0 /\ w.cell? ⟨b, o + k, none⟩ = some (.int .i64 (zat zs k))
theorem RowB.below {n0 : Nat} {A B : World} {a : Option Addr} {zs : List Int} (h : Below n0 A B) (r : RowB n0 A a zs) : RowB n0 B a zs := by
 intro k hk
 obtain ⟨b, o, h1, h2, h3⟩ := r k hk
 exact ⟨b, o, h1, h2, (h.cell (p := ⟨b, o + k, none⟩) h2).trans h3⟩
theorem RowB.mono {n0 n1 : Nat} {A : World} {a : Option Addr} {zs : List Int} (h : n0 <= n1) (r : RowB n0 A a zs) : RowB n1 A a zs := by
 intro k hk
 obtain ⟨b, o, h1, h2, h3⟩ := r k hk
 exact ⟨b, o, h1, by omega, h3⟩
theorem RowB.p {n0 : Nat} {P : Nat -> Prop} {A : World} {a : Option Addr} {zs : List Int} (h : ∀ b, b < n0 -> P b) (r : RowB n0 A a zs) : RowP P A a zs := by
 intro k hk
 obtain ⟨b, o, h1, h2, h3⟩ := r k hk
 exact ⟨b, o, h1, h b h2, h3⟩
def up (f : Nat -> Int) (i : Nat) (x : Int) : Nat -> Int := fun j => if j = i then x else f j
def NewR (n0 : Nat) (w : World) (a : Option Addr) (zs : List Int) : Prop := RowP (fun b => n0 <= b /\ b < w.heap.size) w a zs
def Fits (zs : List Int) : Prop := ∀ j, j < zs.length -> -9223372036854775808 <= zat zs j /\ zat zs j <= 9223372036854775807
theorem zat_cf (zs : List Int) (j : Nat) : zat zs j = zs.getD j 0 := by simp [zat]
theorem Fits.all {zs : List Int} (h : Fits zs) (j : Nat) : -9223372036854775808 <= zat zs j /\ zat zs j <= 9223372036854775807 := by
 by_cases hj : j < zs.length
 ·exact h j hj
 ·simp [zat, show zs.length <= j from by omega]
def RowZ (w : World) (v : Value) (xs : List Int) : Prop :=
 ∃ a cap, v = .slice a xs.length cap /\ ∀ k, k < xs.length -> ∃ b o, a = some ⟨b, o, none⟩ /\ w.cell? ⟨b, o + k, none⟩ = some (.int .i64 (xs.getD k 0))
theorem take_eq_succ {xs ys : List Int} {k : Nat} (hx : k < xs.length) (hy : k < ys.length) (h : xs.take k = ys.take k) (hk : xs.getD k 0 = ys.getD k 0) : xs.take (k + 1) = ys.take (k + 1) := by
 rw [List.take_succ_eq_append_getElem hx, List.take_succ_eq_append_getElem hy, h]
 have : xs[k] = ys[k] := by simpa [hx, hy] using hk
 rw [this]
theorem ints_any (xs ys : List Int) (va vb : Value) (w : World) (ha : RowZ w va xs) (hb : RowZ w vb ys) (hx : xs.length <= 9223372036854775807) (_hy : ys.length <= 9223372036854775807) :
  Calls Tryz.prog 16 #[va, vb] w fun e w' => e = .returned (.bool (decide (xs = ys))) /\ ∃ n, w' = w.drewN n := by
 obtain ⟨a, ca, rfl, hca⟩ := ha
 obtain ⟨b, cb, rfl, hcb⟩ := hb
 have HA := hid hca
 have HB := hid hcb
 clear hca hcb
 by_cases hl : xs.length = ys.length
 ·have HL := hid hl
  rw [<- hl]
  clear hl
  go_enter Tryz.func16, Tryz.ntmps16
  go_wp2_with fail
  go_loopw [5] (fun i wr => ∃ k n : Nat, k <= xs.length /\ i = .int .i64 k /\ Hid (xs.take k = ys.take k) /\ wr = w.drewN n) (fun i _ => xs.length - (intOf i).toNat)
  case atStart => exact ⟨0, 0, Nat.zero_le _, rfl, hid rfl, rfl⟩
  case round =>
   obtain ⟨k, n, hk, rfl, hT, rfl⟩ := hrel
   by_cases hlt : k < xs.length
   ·have hlt2 : (k : Int) < (xs.length : Int) := by omega
    obtain ⟨b1, o1, rfl, hc1⟩ := HA.out k hlt
    obtain ⟨b2, o2, rfl, hc2⟩ := HB.out k (by have := HL.out; omega)
    have HS := hid (fun h => take_eq_succ hlt (show k < ys.length by have := HL.out; omega) hT.out h)
    have HNE : Hid (xs.getD k 0 ≠ ys.getD k 0 -> ¬ xs = ys) := fun h e => h (by rw [e])
    generalize xs.getD k 0 = x at *
    generalize ys.getD k 0 = y at *
    by_cases hxy : x = y
    ·have hb : (x != y) = false := by rw [bne_eq_false_iff_eq]; exact hxy
     have HS2 := hid (HS.out hxy)
     clear hxy HS HNE
     go_wp2_with fail
     go_quiet (fail)
     go_wp2_with fail
     go_roundw
     case rel => exact ⟨k + 1, _, by omega, by go_num, HS2, rfl⟩
     case measure => simp [intOf]; omega
    ·have hb : (x != y) = true := by rw [bne_iff_ne]; exact hxy
     have HE := hid (HNE.out hxy)
     clear hxy HS HNE
     go_wp2_with fail
     go_quiet (fail)
     go_wp2_with fail
     go_ret
     exact ⟨ret_bool (decide_eq_false HE.out).symm, _, World.drewN_drewN _ _ _⟩
   ·have hlt2 : ¬ (k : Int) < (xs.length : Int) := by omega
    have HE : Hid (xs = ys) := by
     unfold Hid
     have h1 := hT.out
     have h2 := HL.out
     rw [List.take_of_length_le (by omega), List.take_of_length_le (by omega)] at h1
     exact h1
    go_wp2_with fail
    go_ret
    exact ⟨ret_bool (decide_eq_true HE.out).symm, n, rfl⟩
 ·have hne : ((xs.length : Int) != (ys.length : Int)) = true := by rw [bne_iff_ne]; omega
  have HE : Hid (¬ xs = ys) := fun h => hl (by rw [h])
  clear hl
  go_enter Tryz.func16, Tryz.ntmps16
  go_wp2_with fail
  go_ret
  exact ⟨ret_bool (decide_eq_false HE.out).symm, 0, rfl⟩
theorem rowZ_of_B {n0 : Nat} {w : World} {a : Option Addr} {zs : List Int} (cap : Nat) (h : RowB n0 w a zs) : RowZ w (.slice a zs.length cap) zs :=
 ⟨a, cap, rfl, fun k hk => by
  obtain ⟨b, o, h1, _, h3⟩ := h k hk
  exact ⟨b, o, h1, h3⟩⟩
theorem rowB_of_owns {w : World} {base : Nat} {v : Value} {zs : List Int} (h : w.ownsRow base 3 1 v zs.length (zs.map (Value.int .i64))) : ∃ a cap, v = .slice a zs.length cap /\ RowB w.heap.size w a zs := by
 rcases h.2 with ⟨h1, h2⟩ | ⟨g, cap, cur, hv, _, hg, _⟩
 ·refine ⟨none, 0, by rw [h1, h2], fun k hk => by omega⟩
 ·refine ⟨some ⟨g, 0, none⟩, cap, hv, fun k hk => ⟨g, 0, rfl, (Array.getElem?_eq_some_iff.1 hg).1, ?_⟩⟩
  have := h.cells (g := g) (by rw [hv]; rfl) k (.int .i64 (zat zs k)) (by simp [zat, hk])
  have hadd : (⟨g, 0, none⟩ : Addr).add k = ⟨g, k, none⟩ := by unfold Addr.add; split <;> simp_all
  rw [hadd] at this
  rw [Nat.zero_add]
  exact this
structure Lst (n0 : Nat) (w : World) (a : Option Addr) (cap : Nat) (zs : List Int) : Prop where
 row : RowB n0 w a zs
 room : zs.length <= cap
 nil : a = none -> cap = 0
theorem Lst.below {n0 : Nat} {A B : World} {a : Option Addr} {cap : Nat} {zs : List Int} (h : Below n0 A B) (r : Lst n0 A a cap zs) : Lst n0 B a cap zs := ⟨r.row.below h, r.room, r.nil⟩
theorem Lst.mono {n0 n1 : Nat} {A : World} {a : Option Addr} {cap : Nat} {zs : List Int} (h : n0 <= n1) (r : Lst n0 A a cap zs) : Lst n1 A a cap zs := ⟨r.row.mono h, r.room, r.nil⟩
theorem Lst.none (n0 : Nat) (w : World) : Lst n0 w none 0 [] := ⟨fun k hk => by simp at hk, by simp, fun _ => rfl⟩
theorem lst_of_owns {w : World} {base : Nat} {v : Value} {zs : List Int} (h : w.ownsRow base 3 1 v zs.length (zs.map (Value.int .i64))) : ∃ a cap, v = .slice a zs.length cap /\ Lst w.heap.size w a cap zs := by
 obtain ⟨a, cap, h1, h2⟩ := rowB_of_owns h
 refine ⟨a, cap, h1, h2, ?_, ?_⟩
 ·rcases h.2 with ⟨g1, g2⟩ | ⟨g, c, cur, hv, _, _, hn, _⟩
  ·omega
  ·rw [h1] at hv; injection hv with _ _ e3; omega
 ·intro ha
  rcases h.2 with ⟨g1, g2⟩ | ⟨g, c, cur, hv, _⟩
  ·rw [h1] at g1; injection g1
  ·rw [h1, ha] at hv; injection hv with e1; cases e1
def ls (F : Nat -> Int) (k : Nat) : List Int := (List.range k).map F
theorem ls_len (F : Nat -> Int) (k : Nat) : (ls F k).length = k := by simp [ls]
theorem ls_succ (F : Nat -> Int) (k : Nat) : ls F (k + 1) = ls F k ++ [F k] := by simp [ls, List.range_succ]
theorem ls_at (F : Nat -> Int) (k j : Nat) (h : j < k) : zat (ls F k) j = F j := by simp [ls, zat, h]
theorem owns_succ {w : World} {base : Nat} {v : Value} {zs : List Int} {x : Int} (h : w.ownsRow base 3 1 v (zs.length + 1) (zs.map (Value.int .i64) ++ [.int .i64 x])) : w.ownsRow base 3 1 v (zs ++ [x]).length ((zs ++ [x]).map (Value.int .i64)) := by
 rw [List.length_append, List.length_singleton, List.map_append]; exact h
open Go.RowKit Go.Extern.Stop Go.Stop Go.Extern
theorem as_valueP (t : Addr) (w : World) : (ReflectliteValue.unpack (.iface 163 (.pointer (some t)))).run Tryz.prog w
  = .ok (.agg #[.pointer (some ⟨3, 163, none⟩), .pointer (some ⟨w.heap.size, 0, none⟩), .int .u64 150]) (w.alloc (.cells #[.pointer (some t)] 163)) := by kernel_rfl
theorem as_typeP (a : Addr) (w : World) : (ReflectliteValue.methodAny (ReflectliteValue.valueError "reflectlite.Value.Type" 0) (fun t _ _ _ => ReflectliteType.toType t) #[.agg #[.pointer (some ⟨3, 163, none⟩), .pointer (some a), .int .u64 150]]).run Tryz.prog w
  = .ok (.iface 256 (.agg #[.pointer (some ⟨3, 163, none⟩)])) w := by kernel_rfl
theorem as_mKind (h : Value) (w : World) : (Go.method 431 256 (.agg #[h]) "Kind").run Tryz.prog w = .ok (275, h) w := by kernel_rfl
theorem as_kindP (w : World) : ((ReflectliteType.abiMethod fun t => (fun a : Nat => Value.int IntKind.u8 (a : Int)) <$> Rtype.kind t) #[.pointer (some ⟨3, 163, none⟩)]).run Tryz.prog w = .ok (.int .u8 22) w := by kernel_rfl
theorem as_kindE (w : World) : ((ReflectliteType.abiMethod fun t => (fun a : Nat => Value.int IntKind.u8 (a : Int)) <$> Rtype.kind t) #[.pointer (some ⟨3, 90, none⟩)]).run Tryz.prog w = .ok (.int .u8 2) w := by kernel_rfl
theorem as_rlm (z : Sem Value) (f : TypeId -> Addr -> Nat -> Nat -> Sem Value) (v : Value) :
  ReflectliteValue.method z f #[v] = (do match <- ReflectliteValue.parts v with | none => z | some (t, a, fl) => f t a fl (fl % 32)) := rfl
theorem as_partsP (a : Addr) (w : World) : (ReflectliteValue.parts (.agg #[.pointer (some ⟨3, 163, none⟩), .pointer (some a), .int .u64 150])).run Tryz.prog w = .ok (some (163, a, 150)) w := by kernel_rfl
theorem as_isNilP (a p : Addr) (W : World) (ha : W.cell? a = some (.pointer (some p))) :
  (ReflectliteValue.method (ReflectliteValue.valueError "reflectlite.Value.IsNil" 0) ReflectliteValue.isNil #[.agg #[.pointer (some ⟨3, 163, none⟩), .pointer (some a), .int .u64 150]]).run Tryz.prog W = .ok (.bool false) W := by
 rw [as_rlm]
 simp only [Sem.run_bind, as_partsP, Result.andThen]
 simp [ReflectliteValue.isNil, loadVar, isAgg, underlying, Tryz.underlying163, ha, Result.andThen]
theorem as_mElem (h : Value) (w : World) : (Go.method 431 256 (.agg #[h]) "Elem").run Tryz.prog w = .ok (286, .agg #[h]) w := by kernel_rfl
theorem as_mImpl (h : Value) (w : World) : (Go.method 431 256 (.agg #[h]) "Implements").run Tryz.prog w = .ok (287, .agg #[h]) w := by kernel_rfl
theorem as_mAssign (h : Value) (w : World) : (Go.method 431 256 (.agg #[h]) "AssignableTo").run Tryz.prog w = .ok (284, .agg #[h]) w := by kernel_rfl
theorem as_elemP (w : World) : (ReflectliteType.method ReflectliteType.elem #[.agg #[.pointer (some ⟨3, 163, none⟩)]]).run Tryz.prog w = .ok (.iface 256 (.agg #[.pointer (some ⟨3, 90, none⟩)])) w := by kernel_rfl
theorem as_implE (w : World) : (ReflectliteType.relation "Implements" ReflectliteType.implements_ #[.agg #[.pointer (some ⟨3, 90, none⟩)], .iface 256 (.agg #[.pointer (some ⟨3, 35, none⟩)])]).run Tryz.prog w = .ok (.bool true) w := by kernel_rfl
theorem as_typeOfE (v : Value) (w : World) : (ReflectliteType.typeOf #[.iface 90 v]).run Tryz.prog w = .ok (.iface 256 (.agg #[.pointer (some ⟨3, 90, none⟩)])) w := by kernel_rfl
theorem as_assignE (w : World) : (ReflectliteType.relation "AssignableTo" ReflectliteType.assignableTo #[.agg #[.pointer (some ⟨3, 90, none⟩)], .iface 256 (.agg #[.pointer (some ⟨3, 90, none⟩)])]).run Tryz.prog w = .ok (.bool true) w := by kernel_rfl
theorem as_valueE (n : Int) (w : World) : (ReflectliteValue.unpack (.iface 90 (.int .i64 n))).run Tryz.prog w
  = .ok (.agg #[.pointer (some ⟨3, 90, none⟩), .pointer (some ⟨w.heap.size, 0, none⟩), .int .u64 130]) (w.alloc (.cells #[.int .i64 n] 90)) := by kernel_rfl
theorem as_elemTypeP (w : World) : (Rtype.elem? 163).run Tryz.prog w = .ok (some 90) w := by kernel_rfl
theorem as_mkE (p : Addr) (w : World) : (ReflectliteValue.mk 90 p ReflectliteValue.flagAddr).run Tryz.prog w = .ok (.agg #[.pointer (some ⟨3, 90, none⟩), .pointer (some p), .int .u64 386]) w := by kernel_rfl
theorem as_elemVP (a p : Addr) (W : World) (ha : W.cell? a = some (.pointer (some p))) :
  (ReflectliteValue.method (ReflectliteValue.valueError "reflectlite.Value.Elem" 0) ReflectliteValue.elem #[.agg #[.pointer (some ⟨3, 163, none⟩), .pointer (some a), .int .u64 150]]).run Tryz.prog W
   = .ok (.agg #[.pointer (some ⟨3, 90, none⟩), .pointer (some p), .int .u64 386]) W := by
 rw [as_rlm]
 simp only [Sem.run_bind, as_partsP, Result.andThen]
 simp [ReflectliteValue.elem, loadVar, isAgg, underlying, Tryz.underlying163, ha, Result.andThen, as_elemTypeP, as_mkE]
theorem as_partsEa (a : Addr) (w : World) : (ReflectliteValue.parts (.agg #[.pointer (some ⟨3, 90, none⟩), .pointer (some a), .int .u64 386])).run Tryz.prog w = .ok (some (90, a, 386)) w := by kernel_rfl
theorem as_partsE (a : Addr) (w : World) : (ReflectliteValue.parts (.agg #[.pointer (some ⟨3, 90, none⟩), .pointer (some a), .int .u64 130])).run Tryz.prog w = .ok (some (90, a, 130)) w := by kernel_rfl
theorem as_directE (w : World) : (Rtype.directlyAssignable 90 90).run Tryz.prog w = .ok true w := by kernel_rfl
theorem as_set_match (v x : Value) (f : Value -> Value -> Sem Value) (g : Array Value -> Sem Value) : ReflectliteValue.set.match_3 (fun _ => Sem Value) #[v, x] f g = f v x := rfl
theorem as_setE (ta b : Addr) (n : Int) (old : Value) (W : World) (hb : W.cell? b = some (.int .i64 n)) (ht : W.cell? ta = some old) (hf : W.frozen? ta = false) :
  (ReflectliteValue.set #[.agg #[.pointer (some ⟨3, 90, none⟩), .pointer (some ta), .int .u64 386], .agg #[.pointer (some ⟨3, 90, none⟩), .pointer (some b), .int .u64 130]]).run Tryz.prog W
   = .ok (.tuple #[]) (W.setCell ta (.int .i64 n)) := by
 delta ReflectliteValue.set
 rw [as_set_match]
 simp only [Sem.run_bind, as_partsEa, as_partsE, Result.andThen]
 simp [ReflectliteValue.flagAddr, loadVar, isAgg, underlying, Tryz.underlying90, hb, Result.andThen, as_directE, storeVar, Value.cells, storeCells, Addr.add]
 rw [run_store Tryz.prog W ta _ _ (by rfl)]
 simp [ht, hf]
theorem as_hit (n : Int) (t : Addr) (old : Value) (w : World) (hg : w.cell? ⟨0, 0, none⟩ = some (.iface 256 (.agg #[.pointer (some ⟨3, 35, none⟩)]))) (ht0 : w.cell? t = some old) (hf0 : w.frozen? t = false) :
  Calls Tryz.prog 90 #[.iface 90 (.int .i64 n), .iface 163 (.pointer (some t))] w fun ev w' => ev = .returned (.bool true) /\ w' = ((((w.alloc (.cells #[.pointer (some t)] 163)).alloc (.cells #[.pointer (some ⟨3, 163, none⟩), .pointer (some ⟨w.heap.size, 0, none⟩), .int .u64 150] 218)).alloc (.cells #[.pointer (some ⟨3, 163, none⟩), .pointer (some ⟨w.heap.size, 0, none⟩), .int .u64 150] 218)).alloc (.cells #[.int .i64 n] 90)).setCell t (.int .i64 n) := by
 have h6 := @run_callFunc_extern Tryz.prog 166 _ (fun args => ReflectliteValue.unpack (args.getD 0 (.tuple #[]))) Tryz.func166 (by kernel_rfl) (by kernel_rfl) (by kernel_rfl) (by kernel_rfl)
 have h7 := @run_callFunc_extern Tryz.prog 167 _ (ReflectliteValue.methodAny (ReflectliteValue.valueError "reflectlite.Value.Type" 0) (fun t _ _ _ => ReflectliteType.toType t)) Tryz.func167 (by kernel_rfl) (by kernel_rfl) (by kernel_rfl) (by kernel_rfl)
 have h8 := @run_callFunc_extern Tryz.prog 168 _ (ReflectliteValue.method (ReflectliteValue.valueError "reflectlite.Value.IsNil" 0) ReflectliteValue.isNil) Tryz.func168 (by kernel_rfl) (by kernel_rfl) (by kernel_rfl) (by kernel_rfl)
 have h27 := @run_callFunc_extern Tryz.prog 275 _ (ReflectliteType.abiMethod fun t => do pure (.int .u8 (<- Rtype.kind t))) Tryz.func275 (by kernel_rfl) (by kernel_rfl) (by kernel_rfl) (by kernel_rfl)
 have h37 := @run_callFunc_extern Tryz.prog 286 _ (ReflectliteType.method ReflectliteType.elem) Tryz.func286 (by kernel_rfl) (by kernel_rfl) (by kernel_rfl) (by kernel_rfl)
 have h38 := @run_callFunc_extern Tryz.prog 287 _ (ReflectliteType.relation "Implements" ReflectliteType.implements_) Tryz.func287 (by kernel_rfl) (by kernel_rfl) (by kernel_rfl) (by kernel_rfl)
 have h10 := @run_callFunc_extern Tryz.prog 208 _ ReflectliteType.typeOf Tryz.func208 (by kernel_rfl) (by kernel_rfl) (by kernel_rfl) (by kernel_rfl)
 have h35 := @run_callFunc_extern Tryz.prog 284 _ (ReflectliteType.relation "AssignableTo" ReflectliteType.assignableTo) Tryz.func284 (by kernel_rfl) (by kernel_rfl) (by kernel_rfl) (by kernel_rfl)
 have h11 := @run_callFunc_extern Tryz.prog 209 _ (ReflectliteValue.method (ReflectliteValue.valueError "reflectlite.Value.Elem" 0) ReflectliteValue.elem) Tryz.func209 (by kernel_rfl) (by kernel_rfl) (by kernel_rfl) (by kernel_rfl)
 have h12 := @run_callFunc_extern Tryz.prog 210 _ ReflectliteValue.set Tryz.func210 (by kernel_rfl) (by kernel_rfl) (by kernel_rfl) (by kernel_rfl)
 have tO := as_typeOfE
 have mA := as_mAssign
 have a25 := as_assignE
 have v25 := as_valueE
 have f6 := as_valueP
 have f7 := as_typeP
 have mK := as_mKind
 have mE := as_mElem
 have mI := as_mImpl
 have k27 := as_kindP
 have k25 := as_kindE
 have e27 := as_elemP
 have i25 := as_implE
 have n8 := as_isNilP ⟨w.heap.size, 0, none⟩ t ((w.alloc (.cells #[.pointer (some t)] 163)).alloc (.cells #[.pointer (some ⟨3, 163, none⟩), .pointer (some ⟨w.heap.size, 0, none⟩), .int .u64 150] 218)) (by simp)
 have hlt : 0 < w.heap.size := by
  rcases Nat.lt_or_ge 0 w.heap.size with h | h
  ·exact h
  ·simp [World.cell?, Array.getElem?_eq_none h] at hg
 have hg2 : ((w.alloc (.cells #[.pointer (some t)] 163)).alloc (.cells #[.pointer (some ⟨3, 163, none⟩), .pointer (some ⟨w.heap.size, 0, none⟩), .int .u64 150] 218)).cell? ⟨0, 0, none⟩ = some (.iface 256 (.agg #[.pointer (some ⟨3, 35, none⟩)])) := by
  rw [World.cell?_alloc_lt _ _ ⟨0, 0, none⟩ (by simp <;> omega), World.cell?_alloc_lt _ _ ⟨0, 0, none⟩ hlt]; exact hg
 have htl : t.block < w.heap.size := by
  rcases Nat.lt_or_ge t.block w.heap.size with h | h
  ·exact h
  ·simp [World.cell?, Array.getElem?_eq_none h] at ht0
 have el := as_elemVP ⟨w.heap.size, 0, none⟩ t (((w.alloc (.cells #[.pointer (some t)] 163)).alloc (.cells #[.pointer (some ⟨3, 163, none⟩), .pointer (some ⟨w.heap.size, 0, none⟩), .int .u64 150] 218)).alloc (.cells #[.pointer (some ⟨3, 163, none⟩), .pointer (some ⟨w.heap.size, 0, none⟩), .int .u64 150] 218)) (by rw [World.cell?_alloc_lt _ _ ⟨w.heap.size, 0, none⟩ (by simp; omega)]; simp)
 have st := as_setE t ⟨w.heap.size + 1 + 1 + 1, 0, none⟩ n old ((((w.alloc (.cells #[.pointer (some t)] 163)).alloc (.cells #[.pointer (some ⟨3, 163, none⟩), .pointer (some ⟨w.heap.size, 0, none⟩), .int .u64 150] 218)).alloc (.cells #[.pointer (some ⟨3, 163, none⟩), .pointer (some ⟨w.heap.size, 0, none⟩), .int .u64 150] 218)).alloc (.cells #[.int .i64 n] 90))
  (by rw [World.cell?_alloc_at _ _ _ _ (by simp)]; rfl)
  (by rw [World.cell?_alloc_lt _ _ t (by simp; omega), World.cell?_alloc_lt _ _ t (by simp; omega), World.cell?_alloc_lt _ _ t (by simp; omega), World.cell?_alloc_lt _ _ t htl]; exact ht0)
  (by rw [World.frozen?_alloc_old _ _ t (by simp; omega), World.frozen?_alloc_old _ _ t (by simp; omega), World.frozen?_alloc_old _ _ t (by simp; omega), World.frozen?_alloc_old _ _ t (Nat.ne_of_lt htl)]; exact hf0)
 go_enter Tryz.func90, Tryz.ntmps90
 go_wp2
 refine wp_loop_rounds 1 ?_
 rw [rounds_succ]
 go_wp2
 go_ret
 exact ⟨rfl, rfl⟩
def Laid (w : World) : Prop := w.cell? ⟨0, 0, none⟩ = some (.iface 256 (.agg #[.pointer (some ⟨3, 35, none⟩)]))
theorem cell_lt {w : World} {a : Addr} {v : Value} (h : w.cell? a = some v) : a.block < w.heap.size := by
 rcases Nat.lt_or_ge a.block w.heap.size with g | g
 ·exact g
 ·simp [World.cell?, Array.getElem?_eq_none g] at h
theorem Laid.lt {w : World} (h : Laid w) : 0 < w.heap.size := cell_lt (a := ⟨0, 0, none⟩) h
theorem Laid.below {w w' : World} (h : Laid w) (hb : Below w.heap.size w w') : Laid w' := (hb.cell (p := ⟨0, 0, none⟩) h.lt).trans h
theorem told_nil (w : World) : Calls Tryz.prog 38 #[.nilIface] w fun e w' => e = .returned (.int .i64 0) /\ w' = w := by
 go_enter Tryz.func38, Tryz.ntmps38
 go_wp2
 go_ret
 exact ⟨rfl, rfl⟩
theorem told_hit (n : Int) (w : World) (hL : Laid w) :
  Calls Tryz.prog 38 #[.iface 90 (.int .i64 n)] w fun e w' => e = .returned (.int .i64 n) /\ Below w.heap.size w w' := by
 have hlt := hL.lt
 have hg : Hid ((w.alloc (.cells #[.int .i64 0] 90)).cell? ⟨0, 0, none⟩ = some (.iface 256 (.agg #[.pointer (some ⟨3, 35, none⟩)]))) := by
  unfold Hid
  rw [World.cell?_alloc_lt _ _ ⟨0, 0, none⟩ hlt]; exact hL
 have ht : Hid ((w.alloc (.cells #[.int .i64 0] 90)).cell? ⟨w.heap.size, 0, none⟩ = some (.int .i64 0)) := by unfold Hid; simp
 have hf : Hid ((w.alloc (.cells #[.int .i64 0] 90)).frozen? ⟨w.heap.size, 0, none⟩ = false) := by unfold Hid; simp
 have has := hid (as_hit n ⟨w.heap.size, 0, none⟩ (.int .i64 0) _ hg.out ht.out hf.out)
 clear hg ht hf
 go_enter Tryz.func38, Tryz.ntmps38
 go_wp2_with fail
 refine has.out.mono ?_
 rintro e w' ⟨rfl, rfl⟩
 go_wp2_with fail
 go_ret
 refine ⟨rfl, ?_⟩
 exact (((((Below.refl _ _).alloc (Nat.le_refl _) _).alloc (by simp) _).alloc (by simp <;> omega) _).alloc (by simp <;> omega) _).alloc (by simp <;> omega) _
theorem error_nil (k : Int) (w : World) : Calls Tryz.prog 11 #[.nilIface, .int .i64 k] w fun e w' => e = .returned (.bool ((0 : Int) == k)) /\ w' = w := by
 go_enter Tryz.func11, Tryz.ntmps11
 go_wp2_with fail
 refine (told_nil w).mono ?_
 rintro e w' ⟨rfl, rfl⟩
 go_wp2_with fail
 go_ret
 exact ⟨rfl, rfl⟩
theorem error_hit (n k : Int) (w : World) (hL : Laid w) : Calls Tryz.prog 11 #[.iface 90 (.int .i64 n), .int .i64 k] w fun e w' => e = .returned (.bool (n == k)) /\ Below w.heap.size w w' := by
 have ht := hid (told_hit n w hL)
 clear hL
 go_enter Tryz.func11, Tryz.ntmps11
 go_wp2_with fail
 refine ht.out.mono ?_
 rintro e w' ⟨rfl, hb⟩
 go_wp2_with fail
 go_ret
 exact ⟨rfl, hb⟩
def SaysPrime (n : Nat) (e : Ending) : Prop := (e = .returned (.bool false) /\ ¬ Num.Prime n) ∨ (e = .returned (.bool true) /\ Num.Prime n)
theorem prime_loop (n : Nat) (w : World) (h3 : 3 <= n) (hm : n <= 2147483647) :
  Calls Tryz.prog 144 #[.int .i64 n] w fun e w' => SaysPrime n e /\ w' = w := by
 have h32 : ¬ (n : Int) < 3 := by omega
 have hm2 : ¬ (2147483647 : Int) < (n : Int) := by omega
 go_enter Tryz.func144, Tryz.ntmps144
 go_wp2_with fail
 go_loop [3] (fun i => ∃ k : Nat, 2 <= k /\ k <= 46341 /\ i = .int .i64 k /\ Hid (∀ e, 2 <= e -> e < k -> ¬ e ∣ n)) (fun i => 46341 - (intOf i).toNat)
 case atStart => exact ⟨2, by omega, by omega, rfl, hid (fun e h g => by omega)⟩
 case round =>
  obtain ⟨k, hk2, hk, rfl, HN⟩ := hrel
  have hsq : ((k : Int) * k) = ((k * k : Nat) : Int) := by simp
  have hkk : k * k <= 46341 * 46341 := Nat.mul_le_mul hk hk
  have hq1 : 0 <= (k : Int) * k := by omega
  have hq2 : (k : Int) * k <= 2147488281 := by omega
  by_cases hle : k * k <= n
  ·have hk3 := sq_le k n hle hm
   have hle2 : (k : Int) * k <= n := by omega
   have HL := hid hle
   clear hsq hle hkk
   by_cases hd : k ∣ n
   ·have hmod : ((n : Int) % (k : Int) == 0) = true := by
     rw [beq_iff_eq]; exact Int.emod_eq_zero_of_dvd (Int.ofNat_dvd.2 hd)
    have HD := hid hd
    clear hd
    go_wp2_with fail
    go_ret
    refine ⟨Or.inl ⟨rfl, fun hp => ?_⟩, rfl⟩
    rcases hp.2 k HD.out with g | g
    ·omega
    ·have h1 := HL.out
     have h2 : k * 2 <= k * k := Nat.mul_le_mul_left k hk2
     omega
   ·have hmod : ((n : Int) % (k : Int) == 0) = false := by
     rw [beq_eq_false_iff_ne]; intro g; exact hd (Int.ofNat_dvd.1 (Int.dvd_of_emod_eq_zero g))
    have HD := hid hd
    clear hd
    go_wp2_with fail
    go_round
    case rel => exact ⟨k + 1, by omega, by omega, by go_num, fun e he hlt hde => by
     by_cases hek : e = k
     ·subst hek; exact HD.out hde
     ·exact HN.out e he (by omega) hde⟩
    case measure => simp [intOf]; omega
  ·have hle2 : ¬ (k : Int) * k <= n := by omega
   have HL := hid hle
   clear hsq hle hkk
   go_wp2_with fail
   go_ret
   exact ⟨Or.inr ⟨rfl, Num.least_prime (Num.least_self (by omega) (Nat.lt_of_not_le HL.out) HN.out)⟩, rfl⟩
theorem prime_yes (n : Nat) (w : World) (h3 : 3 <= n) (hm : n <= 2147483647) (hp : Num.Prime n) :
  Calls Tryz.prog 144 #[.int .i64 n] w fun e w' => e = .returned (.bool true) /\ w' = w :=
 (prime_loop n w h3 hm).mono fun e w' ⟨he, hw⟩ => ⟨by
  rcases he with ⟨_, hn⟩ | ⟨he, _⟩
  ·exact absurd hp hn
  ·exact he, hw⟩
theorem prime_no (p : Int) (w : World) (hno : ¬ okPrime p) :
  Calls Tryz.prog 144 #[.int .i64 p] w fun e w' => e = .returned (.bool false) /\ w' = w := by
 by_cases h3 : p < 3
 ·go_enter Tryz.func144, Tryz.ntmps144
  go_wp2_with fail
  go_ret
  exact ⟨rfl, rfl⟩
 ·by_cases h4 : 2147483647 < p
  ·go_enter Tryz.func144, Tryz.ntmps144
   go_wp2_with fail
   go_ret
   exact ⟨rfl, rfl⟩
  ·obtain ⟨q, rfl⟩ := Int.eq_ofNat_of_zero_le (show 0 <= p by omega)
   refine (prime_loop q w (by omega) (by omega)).mono fun e w' ⟨he, hw⟩ => ⟨?_, hw⟩
   rcases he with ⟨he, _⟩ | ⟨_, hp⟩
   ·exact he
   ·exact absurd ⟨by omega, by omega, by rw [Int.toNat_natCast]; exact hp⟩ hno
theorem field_yes (q : Nat) (w : World) (h3 : 3 <= q) (h4 : q <= 2147483647) (hq : Num.Prime q) :
  Calls Tryz.prog 76 #[.int .i64 q] w fun e w' => e = .returned (.tuple #[.pointer (some ⟨w.heap.size, 0, none⟩), .bool true]) /\ w'.cell? ⟨w.heap.size, 0, none⟩ = some (.int .i64 q) /\ Below w.heap.size w w' /\ w.heap.size < w'.heap.size := by
 have hn := hid (new_yes q w h3 h4 hq)
 have hpy := hid (fun w => prime_yes q w h3 h4 hq)
 clear hq
 go_enter Tryz.func76, Tryz.ntmps76
 go_wp2_with fail
 refine hn.out.mono ?_
 rintro e w1 ⟨rfl, hc, hb, hlt⟩
 have HB := hid hb
 have HC := hid hc
 clear hb hc
 go_wp2_with fail
 refine (hpy.out w1).mono ?_
 rintro e w2 ⟨rfl, rfl⟩
 go_wp2_with fail
 refine (error_nil 0 w2).mono ?_
 rintro e w3 ⟨rfl, rfl⟩
 go_wp2_with fail
 go_ret2
 exact ⟨rfl, HC.out, HB.out, hlt⟩
theorem field_no (p : Int) (w : World) (hL : Laid w) (hno : ¬ okPrime p) (h1 : -9223372036854775808 <= p) (h2 : p <= 9223372036854775807) :
  Calls Tryz.prog 76 #[.int .i64 p] w fun e w' => e = .returned (.tuple #[.pointer none, .bool true]) /\ Below w.heap.size w w' := by
 have hn := hid (new_no p w hno h1 h2)
 have hpn := hid (prime_no p w hno)
 have hee := hid (error_hit 1 1 w hL)
 clear hno hL
 go_enter Tryz.func76, Tryz.ntmps76
 go_wp2_with fail
 refine hn.out.mono ?_
 rintro e w1 ⟨rfl, rfl⟩
 go_wp2_with fail
 refine hpn.out.mono ?_
 rintro e w2 ⟨rfl, rfl⟩
 go_wp2_with fail
 refine hee.out.mono ?_
 rintro e w3 ⟨rfl, hb⟩
 have HB := hid hb
 clear hb
 go_wp2_with fail
 go_ret2
 exact ⟨rfl, HB.out⟩
abbrev pz (b : Nat) : Value := .pointer (some ⟨b, 0, none⟩)
theorem blA {w W : World} {o : Obj} (h : W = w.alloc o) : Below w.heap.size w W := by rw [h]; exact (Below.refl _ _).alloc (Nat.le_refl _) _
theorem haA {w W : World} {cs : Array Value} {t : TypeId} (h : W = w.alloc (.cells cs t)) : W.heap[w.heap.size]? = some (.cells cs t (0, 0)) := by rw [h]; exact heap_alloc_new w _
theorem clA {W : World} {b : Nat} {cs : Array Value} {t : TypeId} {f : Nat × Nat} {v : Value} (j : Nat) (h : W.heap[b]? = some (.cells cs t f)) (hv : cs[j]? = some v) : W.cell? ⟨b, j, none⟩ = some v := by simp [World.cell?, h, hv]
theorem qpL {w : World} {a : Addr} {v : Value} (h : w.cell? a = some v) : Hid (∀ nn, (w.drewN nn).cell? a = some v) := fun _ => h
theorem exE {α : Type} (a : α) : ∃ x, x = a := ⟨a, rfl⟩
theorem aS0 {α : Type} (l : List α) (i : Nat) (a : α) : l.toArray.setIfInBounds i a = (l.set i a).toArray := List.setIfInBounds_toArray l i a
theorem aS1 {α : Type} (x : α) (l : List α) (a : α) : (x :: l).set 0 a = a :: l := List.set_cons_zero
theorem aS2 {α : Type} (x : α) (l : List α) (n : Nat) (a : α) : (x :: l).set (n + 1) a = x :: l.set n a := List.set_cons_succ
end Go.Proofs.YtlhjifpomchnfaaGreatDoor
