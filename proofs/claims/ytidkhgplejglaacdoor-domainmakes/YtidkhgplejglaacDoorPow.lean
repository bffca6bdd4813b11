/- What the methods Pow and Inv of a field answer: so many equal factors modulo p, the number of factors taken modulo p - 1. -/
import Derived.Test.YtidkhgplejglaacDoorWalkA
import Derived.Test.YtidkhgplejglaacDoorBits
namespace Go.Proofs.YtidkhgplejglaacDoor
open Go.RowKit

theorem i64_and1 (n : Int) : bits .and .i64 n 1 = n % 2 := by
  have h1 : (BitVec.ofInt 64 1).toNat = 2 ^ 1 - 1 := by decide
  have key : (BitVec.ofInt 64 n &&& BitVec.ofInt 64 1).toNat = (n % ((2 ^ 64 : Nat) : Int)).toNat % 2 ^ 1 := by
    rw [BitVec.toNat_and, BitVec.toNat_ofInt, h1, Nat.and_two_pow_sub_one_eq_mod]
  show IntKind.i64.wrap ((BitVec.ofInt 64 n &&& BitVec.ofInt 64 1).toNat : Nat) = n % 2
  rw [key, IntKind.wrap_i64]
  omega

theorem bit_eq (E k : Nat) : (bits BinOp.and IntKind.i64 ((E : Int) / 2 ^ k) 1 == 1) = (E / 2 ^ k % 2 == 1) := by
  rw [i64_and1]
  have : (E : Int) / 2 ^ k % 2 = ((E / 2 ^ k % 2 : Nat) : Int) := by simp
  rw [this, Bool.eq_iff_iff, beq_iff_eq, beq_iff_eq]
  omega

theorem pwm_addz (p s x y : Nat) : (Num.pwm p s x : Int) * (Num.pwm p s y : Int) % (p : Int) = (Num.pwm p s (x + y) : Int) := by
  rw [← Num.pwm_add]; simp
theorem mod_two_pow_succ (E k : Nat) : E % 2 ^ (k + 1) = E % 2 ^ k + 2 ^ k * (E / 2 ^ k % 2) := Nat.mod_pow_succ

/-- the element as a number -/
def el (p : Nat) (a : Int) : Nat := (a % (p : Int)).toNat

/-- what Pow answers -/
def powz (p : Nat) (a n : Int) : Nat := if a % (p : Int) = 0 ∧ n ≠ 0 then 0 else Num.pwm p (a % (p : Int)).toNat (n % ((p : Int) - 1)).toNat

theorem mul_pw (p b s x y : Nat) (w : World) (h3 : 3 ≤ p) (hm : p ≤ 2147483647) (hp : w.cell? ⟨b, 0, none⟩ = some (.int .i64 p)) :
    Calls Tryd.prog 27 #[.pointer (some ⟨b, 0, none⟩), .int .i64 (Num.pwm p s x), .int .i64 (Num.pwm p s y)] w fun e w' => e = .returned (.int .i64 (Num.pwm p s (x + y))) ∧ w' = w := by
  have h1 := Num.pwm_lt p s x (by omega)
  have h2 := Num.pwm_lt p s y (by omega)
  have := mul_any p b (Num.pwm p s x) (Num.pwm p s y) w h3 hm hp (by omega) (by omega) (by omega) (by omega)
  rw [pwm_addz] at this
  exact this

set_option maxHeartbeats 400000 in
theorem pow_any (p b : Nat) (a n : Int) (w : World) (h3 : 3 ≤ p) (hm : p ≤ 2147483647) (hp : w.cell? ⟨b, 0, none⟩ = some (.int .i64 p))
    (ha : -9223372036854775808 ≤ a) (ha2 : a ≤ 9223372036854775807) (hn : -9223372036854775808 ≤ n) (hn2 : n ≤ 9223372036854775807) :
    Calls Tryd.prog 29 #[.pointer (some ⟨b, 0, none⟩), .int .i64 a, .int .i64 n] w fun e w' => e = .returned (.int .i64 (powz p a n)) ∧ w' = w := by
  obtain ⟨a1, a2⟩ := emod_bounds a p h3
  by_cases hz : a % (p : Int) = 0 ∧ n ≠ 0
  · have HF : Hid (powz p a n = 0) := by unfold Hid powz; rw [if_pos hz]
    have z1 : (a % (p : Int) == 0) = true := by rw [beq_iff_eq]; exact hz.1
    have z2 : (n != 0) = true := by rw [bne_iff_ne]; exact hz.2
    clear hz
    go_enter Tryd.func29, Tryd.ntmps29
    go_wp2_with fail
    refine (of_any p b a w h3 hm hp ha ha2).mono ?_
    rintro e w' ⟨rfl, rfl⟩
    go_wp2_with fail
    go_ret
    exact ⟨ret_int (by rw [HF.out]; rfl), rfl⟩
  · have HF : Hid (powz p a n = Num.pwm p (a % (p : Int)).toNat (n % ((p : Int) - 1)).toNat) := by unfold Hid powz; rw [if_neg hz]
    have hdec : (a % (p : Int) == 0) = false ∨ ((a % (p : Int) == 0) = true ∧ (n != 0) = false) := by
      by_cases g : a % (p : Int) = 0
      · right; refine ⟨by rw [beq_iff_eq]; exact g, ?_⟩
        by_cases g2 : n = 0
        · simp [g2]
        · exact absurd ⟨g, g2⟩ hz
      · left; rw [beq_eq_false_iff_ne]; exact g
    have e1 := Int.emod_nonneg n (b := (p : Int) - 1) (by omega)
    have e2 := Int.emod_lt_of_pos n (b := (p : Int) - 1) (by omega)
    obtain ⟨s, hs⟩ := Int.eq_ofNat_of_zero_le a1
    obtain ⟨E, hE⟩ := Int.eq_ofNat_of_zero_le e1
    have hof := hid (of_any p b a w h3 hm hp ha ha2)
    have hrem := hid (rem_any n ((p : Int) - 1) w (by omega) (by omega) hn hn2)
    rw [hs] at hof a2 hdec HF
    rw [hE] at hrem e2 HF
    rw [Int.toNat_natCast, Int.toNat_natCast] at HF
    have hEb : E ≤ 2147483647 := by omega
    have hl := blen_le E hEb
    have HL := hid (blen_lt E hEb)
    have hlen := hid (len_any (E : Int) w (by omega) (by omega))
    rw [Int.toNat_natCast] at hlen
    clear hz hs hE e1 a1
    rcases hdec with z1 | ⟨z1, z2⟩
    all_goals
      go_enter Tryd.func29, Tryd.ntmps29
      go_wp2_with fail
      refine hof.out.mono ?_
      rintro e w' ⟨rfl, rfl⟩
      go_wp2_with fail
      refine hrem.out.mono ?_
      rintro e w' ⟨rfl, rfl⟩
      go_wp2_with fail
      refine hlen.out.mono ?_
      rintro e w' ⟨rfl, rfl⟩
      go_wp2_with fail
      clear hof hrem hlen
      go_loop [7, 9, 30] (fun sq pw i => ∃ k : Nat, k ≤ blen E ∧ i = .int .i64 k ∧ sq = .int .i64 (Num.pwm p s (2 ^ k)) ∧ pw = .int .i64 (Num.pwm p s (E % 2 ^ k))) (fun _ _ i => blen E - (intOf i).toNat)
      case atStart => exact ⟨0, Nat.zero_le _, rfl, by rw [Nat.pow_zero, Num.pwm_one p s (by omega)], by rw [Nat.pow_zero, Nat.mod_one, Num.pwm_zero p s (by omega)]; rfl⟩
      case round =>
        obtain ⟨k, hk, rfl, rfl, rfl⟩ := hrel
        by_cases hlt : k < blen E
        · have hb := bit_eq E k
          have hmp := hid (mod_two_pow_succ E k)
          have hsq := hid (mul_pw p b s (2 ^ k) (2 ^ k) w' h3 hm hp)
          have hpw := hid (mul_pw p b s (E % 2 ^ k) (2 ^ k) w' h3 hm hp)
          by_cases hodd : E / 2 ^ k % 2 = 1
          · rw [hodd] at hb hmp
            have hb2 : (bits BinOp.and IntKind.i64 ((E : Int) / 2 ^ k) 1 == 1) = true := by rw [hb]; rfl
            clear hb hodd
            go_wp2_with fail
            refine hpw.out.mono ?_
            rintro e w'' ⟨rfl, rfl⟩
            go_wp2_with fail
            refine hsq.out.mono ?_
            rintro e w'' ⟨rfl, rfl⟩
            go_wp2
            go_round
            case rel => exact ⟨k + 1, by omega, by go_num, by rw [Nat.pow_succ, Nat.mul_two], by rw [hmp.out, Nat.mul_one]⟩
            case measure => simp [intOf]; omega
          · have hev : E / 2 ^ k % 2 = 0 := by omega
            rw [hev] at hb hmp
            have hb2 : (bits BinOp.and IntKind.i64 ((E : Int) / 2 ^ k) 1 == 1) = false := by rw [hb]; rfl
            clear hb hodd hev
            go_wp2_with fail
            refine hsq.out.mono ?_
            rintro e w'' ⟨rfl, rfl⟩
            go_wp2
            go_round
            case rel => exact ⟨k + 1, by omega, by go_num, by rw [Nat.pow_succ, Nat.mul_two], by rw [hmp.out, Nat.mul_zero, Nat.add_zero]⟩
            case measure => simp [intOf]; omega
        · go_wp2
          go_ret
          refine ⟨ret_int ?_, rfl⟩
          have hkb : k = blen E := by omega
          rw [HF.out, hkb, Nat.mod_eq_of_lt HL.out]

/-- Inv: p - 2 factors. -/
theorem inv_any (p b : Nat) (a : Int) (w : World) (h3 : 3 ≤ p) (hm : p ≤ 2147483647) (hp : w.cell? ⟨b, 0, none⟩ = some (.int .i64 p))
    (ha : -9223372036854775808 ≤ a) (ha2 : a ≤ 9223372036854775807) :
    Calls Tryd.prog 35 #[.pointer (some ⟨b, 0, none⟩), .int .i64 a] w fun e w' => e = .returned (.int .i64 (powz p a ((p : Int) - 2))) ∧ w' = w := by
  have hpw := hid (pow_any p b a ((p : Int) - 2) w h3 hm hp ha ha2 (by omega) (by omega))
  go_enter Tryd.func35, Tryd.ntmps35
  go_wp2_with fail
  refine hpw.out.mono ?_
  rintro e w' ⟨rfl, rfl⟩
  go_wp2
  go_ret
  exact ⟨rfl, rfl⟩

end Go.Proofs.YtidkhgplejglaacDoor
