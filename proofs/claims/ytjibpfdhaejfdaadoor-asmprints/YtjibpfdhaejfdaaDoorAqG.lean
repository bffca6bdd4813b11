/- The reference of code as text: digits, get, needs, words, proper. -/
import Derived.Test.YtjibpfdhaejfdaaDoorAqE
namespace Go.Proofs.YtjibpfdhaejfdaaDoor
open Go.RowKit

theorem dec_next {n : Nat} (h : ¬ n < 10) : Lib.decDigits n = Lib.decDigits (n / 10) ++ Lib.decDigits (n % 10) := by
  rw [Lib.decDigits, dif_neg h, Lib.decDigits.eq_def (n % 10), dif_pos (by omega)]
theorem dec_one {n : Nat} (h : n < 10) : Lib.decDigits n = [UInt8.ofNat (48 + n)] := by rw [Lib.decDigits, dif_pos h]
theorem digits_pos : ∀ (f n : Nat), n < f → ∀ (w : World), n ≤ 9223372036854775807 → Calls Tryd.prog 13 #[.int .i64 (n : Int)] w fun e w' => e = .returned (.string (bs (Lib.decDigits n))) ∧ w' = w := by
  intro f
  induction f with
  | zero => intro n h; exact absurd h (Nat.not_lt_zero n)
  | succ f ih =>
    intro n hf w hn
    have h0 : ¬ (n : Int) < 0 := by omega
    by_cases h : n < 10
    · have h' : (n : Int) < 10 := by omega
      have hw : IntKind.i64.wrap ((n : Int) + 1) = (n : Int) + 1 := by rw [IntKind.wrap_i64]; omega
      have HE : Hid (bs (Lib.decDigits n) = (⟨#[48, 49, 50, 51, 52, 53, 54, 55, 56, 57]⟩ : ByteArray).extract n (n + 1)) := by
        unfold Hid
        rw [dec_one h, show (⟨#[48, 49, 50, 51, 52, 53, 54, 55, 56, 57]⟩ : ByteArray) = bs [48, 49, 50, 51, 52, 53, 54, 55, 56, 57] from rfl, bs_ext]
        have : ∀ n, n < 10 → [UInt8.ofNat (48 + n)] = (([48, 49, 50, 51, 52, 53, 54, 55, 56, 57] : List UInt8).take (n + 1)).drop n := by decide
        rw [this n h]
      generalize bs (Lib.decDigits n) = RES at *
      clear h ih
      go_enter Tryd.func13, Tryd.ntmps13
      go_wp2_with fail
      go_ret
      exact ⟨by rw [HE.out]; rfl, rfl⟩
    · have h' : ¬ (n : Int) < 10 := by omega
      have HQ := hid (fun w => ih (n / 10) (by omega) w (by omega))
      have HR := hid (fun w => ih (n % 10) (by omega) w (by omega))
      have e1 : Int.tdiv (n : Int) 10 = ((n / 10 : Nat) : Int) := by rw [Int.tdiv_eq_ediv_of_nonneg (by omega)]; omega
      have e2 : Int.tmod (n : Int) 10 = ((n % 10 : Nat) : Int) := by rw [Int.tmod_eq_emod_of_nonneg (by omega)]; omega
      have w1 : IntKind.i64.wrap ((n / 10 : Nat) : Int) = ((n / 10 : Nat) : Int) := by rw [IntKind.wrap_i64]; omega
      have w2 : IntKind.i64.wrap ((n % 10 : Nat) : Int) = ((n % 10 : Nat) : Int) := by rw [IntKind.wrap_i64]; omega
      have HE : Hid (bs (Lib.decDigits n) = bs (Lib.decDigits (n / 10)) ++ bs (Lib.decDigits (n % 10))) := by unfold Hid; rw [dec_next h, bs_app]
      have hz1 : (bs (Lib.decDigits (n / 10))).size ≤ 30 := by
        rw [bs_size, ← Lib.itoa_nonneg]
        have := Lib.itoa_length_le ((n / 10 : Nat) : Int) (by omega) (by omega)
        omega
      have hz2 : (bs (Lib.decDigits (n % 10))).size ≤ 30 := by
        rw [bs_size, ← Lib.itoa_nonneg]
        have := Lib.itoa_length_le ((n % 10 : Nat) : Int) (by omega) (by omega)
        omega
      generalize n / 10 = q at *
      generalize n % 10 = r at *
      generalize bs (Lib.decDigits n) = RES at *
      generalize bs (Lib.decDigits q) = SQ at *
      generalize bs (Lib.decDigits r) = SR at *
      clear h ih
      go_enter Tryd.func13, Tryd.ntmps13
      go_wp2_with fail
      refine (HQ.out _).mono ?_
      rintro e w3 ⟨rfl, rfl⟩
      go_wp2_with fail
      refine (HR.out _).mono ?_
      rintro e w4 ⟨rfl, rfl⟩
      go_wp2_with fail
      go_ret
      exact ⟨by rw [HE.out]; rfl, rfl⟩

theorem digits_any (n : Int) (w : World) (h0 : -9223372036854775807 ≤ n) (h1 : n ≤ 9223372036854775807) : Calls Tryd.prog 13 #[.int .i64 n] w fun e w' => e = .returned (.string (bs (Lib.itoa n))) ∧ w' = w := by
  by_cases hn : n < 0
  · obtain ⟨u, hu⟩ : ∃ u : Nat, n = -(u : Int) := ⟨n.natAbs, by omega⟩
    have hu1 : 1 ≤ u := by omega
    have HD := hid (fun w => digits_pos (u + 1) u (by omega) w (by omega))
    have hw : IntKind.i64.wrap (-(-(u : Int))) = (u : Int) := by rw [IntKind.wrap_i64]; omega
    have hw' : IntKind.i64.wrap (u : Int) = (u : Int) := by rw [IntKind.wrap_i64]; omega
    rw [hu, Lib.itoa_neg u hu1]
    have hneg : -(u : Int) < 0 := by omega
    have HE : Hid (bs (45 :: Lib.decDigits u) = (⟨#[45]⟩ : ByteArray) ++ bs (Lib.decDigits u)) := (bs_app [45] _).symm
    have hz1 : (bs (Lib.decDigits u)).size ≤ 30 := by
      rw [bs_size, ← Lib.itoa_nonneg]
      have := Lib.itoa_length_le (u : Int) (by omega) (by omega)
      omega
    generalize bs (45 :: Lib.decDigits u) = RES at *
    generalize bs (Lib.decDigits u) = SU at *
    clear hu hn h0 h1
    go_enter Tryd.func13, Tryd.ntmps13
    go_wp2_with fail
    refine (HD.out _).mono ?_
    rintro e w3 ⟨rfl, rfl⟩
    go_wp2_with fail
    go_ret
    exact ⟨by rw [HE.out]; rfl, rfl⟩
  · obtain ⟨u, rfl⟩ : ∃ u : Nat, n = (u : Int) := ⟨n.toNat, by omega⟩
    rw [Lib.itoa_nonneg]
    exact digits_pos (u + 1) u (by omega) w (by omega)

end Go.Proofs.YtjibpfdhaejfdaaDoor
