/- Package sums: isTable, variables, hasPlaces, product, across, upTo, fixed. What bits.TrailingZeros answers in this program, by the library's own contract, where its table reads as its text lays it. Package sums: variables, by the table that counts last zeros. -/
import Derived.Test.YtaapbopcfpihbaaDoorGvAF
import Derived.Test.YtaapbopcfpihbaaDoorDoms
import Derived.Test.YtaapbopcfpihbaaDoorSpgs
import Derived.StillTailTactics
import Derived.Shelf.Spec.TrailingZeros
import Derived.Lib.TrailingZeros
import Derived.Test.YtaapbopcfpihbaaDoorProg
namespace Go.Proofs.YtaapbopcfpihbaaDoor
open Go.RowKit

end Go.Proofs.YtaapbopcfpihbaaDoor

namespace Go.Proofs
open Go.Shelf
def Tryd.laysTz_ren : Go.Shelf.Ren := ⟨fun | 27 => 58 | 28 => 72 | 29 => 73 | n => n, fun | 0 => 0 | 3 => 3 | 4 => 4 | 5 => 5 | 22 => 109 | 25 => 89 | 27 => 107 | 53 => 127 | 54 => 128 | n => n, fun | 0 => 1 | 1 => 2 | n => n⟩
theorem Tryd.laysTz : Go.Proofs.Lays7.n27 Tryd.prog Tryd.laysTz_ren := {
  mixed := by kernel_rfl
  f27 := Tryd.func58.trans (congrArg some (by kernel_rfl))
  f28 := Tryd.func72.trans (congrArg some (by kernel_rfl))
  f29 := Tryd.func73.trans (congrArg some (by kernel_rfl))
  t0 := Tryd.underlying0
  a0 := Tryd.isAgg0
  z0 := Tryd.sizeOf0
  v0 := Tryd.zeroValue0
  i0 := by kernel_rfl
  t3 := Tryd.underlying3
  a3 := Tryd.isAgg3
  z3 := Tryd.sizeOf3
  v3 := Tryd.zeroValue3
  i3 := by kernel_rfl
  t4 := Tryd.underlying4
  a4 := Tryd.isAgg4
  z4 := Tryd.sizeOf4
  v4 := Tryd.zeroValue4
  i4 := by kernel_rfl
  t5 := Tryd.underlying5
  a5 := Tryd.isAgg5
  z5 := Tryd.sizeOf5
  v5 := Tryd.zeroValue5
  i5 := by kernel_rfl
  t22 := Tryd.underlying109
  a22 := Tryd.isAgg109
  z22 := Tryd.sizeOf109
  v22 := Tryd.zeroValue109
  i22 := by kernel_rfl
  t25 := Tryd.underlying89
  a25 := Tryd.isAgg89
  z25 := Tryd.sizeOf89
  v25 := Tryd.zeroValue89
  i25 := by kernel_rfl
  t27 := Tryd.underlying107
  a27 := Tryd.isAgg107
  z27 := Tryd.sizeOf107
  v27 := Tryd.zeroValue107
  i27 := by kernel_rfl
  t53 := Tryd.underlying127
  a53 := Tryd.isAgg127
  z53 := Tryd.sizeOf127
  v53 := Tryd.zeroValue127
  i53 := by kernel_rfl
  t54 := Tryd.underlying128
  a54 := Tryd.isAgg128
  z54 := Tryd.sizeOf128
  g0 := by kernel_rfl
  g1 := by kernel_rfl }
theorem YtaapbopcfpihbaaDoor.tz_any (x : Nat) (hx0 : x ≠ 0) (hx : x ≤ 2147483647) (w : World) (hT : TabAt 2 Lib.deBruijn64tab w) :
    Calls Tryd.prog 58 #[.int .u64 x] w fun e w' => ∃ S m : Nat, e = .returned (.int .i64 S) ∧ S < 64 ∧ x = 2 ^ S * (2 * m + 1) ∧ w' = w := by
  refine (Any7.bits_TrailingZeros Tryd.laysTz x (by omega) w (fun _ => hT)).mono fun e w' ⟨he, hw⟩ => ?_
  obtain ⟨m, h1, h2⟩ := Lib.ctzFrom_spec 64 x (by omega) (Nat.lt_of_le_of_lt hx (by decide))
  refine ⟨Lib.ctz 64 x, m, he, ?_, ?_, hw⟩
  · unfold Lib.ctz; rw [if_neg hx0]; exact h2
  · unfold Lib.ctz; rw [if_neg hx0]; exact h1
end Go.Proofs

namespace Go.Proofs.YtaapbopcfpihbaaDoor
open Go.RowKit

theorem pow_odd {S v m : Nat} (h : 2 ^ v = 2 ^ S * (2 * m + 1)) : S = v := by
  rcases Nat.lt_trichotomy S v with g | g | g
  · obtain ⟨d, rfl⟩ : ∃ d, v = S + (d + 1) := ⟨v - S - 1, by omega⟩
    rw [Nat.pow_add] at h
    have := Nat.eq_of_mul_eq_mul_left (Nat.pow_pos (by decide)) h
    rw [Nat.pow_succ] at this
    omega
  · exact g
  · obtain ⟨d, rfl⟩ : ∃ d, S = v + (d + 1) := ⟨S - v - 1, by omega⟩
    rw [Nat.pow_add, Nat.mul_assoc] at h
    have h2 : 2 ^ v * 1 = 2 ^ v * (2 ^ (d + 1) * (2 * m + 1)) := by rw [Nat.mul_one]; exact h
    have := Nat.eq_of_mul_eq_mul_left (Nat.pow_pos (by decide)) h2
    have h3 : 2 ^ (d + 1) * (2 * m + 1) % 2 = 1 := by rw [← this]
    rw [Nat.pow_succ, Nat.mul_right_comm, Nat.mul_mod_left] at h3
    omega

end Go.Proofs.YtaapbopcfpihbaaDoor
