/- What bits.TrailingZeros answers in this program, by the library's own contract, where its table reads as its text lays it. -/
import Derived.Shelf.Spec.TrailingZeros
import Derived.Lib.TrailingZeros
import Derived.Test.YtecaifjbmfianafDoorProg
namespace Go.Proofs
open Go.Shelf
def Tryd.laysTz_ren : Go.Shelf.Ren := ⟨fun | 27 => 67 | 28 => 91 | 29 => 92 | n => n, fun | 0 => 0 | 3 => 3 | 4 => 4 | 5 => 5 | 22 => 122 | 25 => 107 | 27 => 120 | 53 => 136 | 54 => 137 | n => n, fun | 0 => 1 | 1 => 2 | n => n⟩
theorem Tryd.laysTz : Go.Proofs.Lays7.n27 Tryd.prog Tryd.laysTz_ren := {
  mixed := by kernel_rfl
  f27 := Tryd.func67.trans (congrArg some (by kernel_rfl))
  f28 := Tryd.func91.trans (congrArg some (by kernel_rfl))
  f29 := Tryd.func92.trans (congrArg some (by kernel_rfl))
  t0 := Tryd.underlying0
  a0 := Tryd.isAgg0
  z0 := Tryd.sizeOf0
  v0 := Tryd.zeroValue0
  i0 := by kernel_rfl
  t3 := Tryd.underlying3
  a3 := Tryd.isAgg3
  z3 := Tryd.sizeOf3
  v3 := Tryd.zeroValue3
  i3 := by kernel_rfl
  t4 := Tryd.underlying4
  a4 := Tryd.isAgg4
  z4 := Tryd.sizeOf4
  v4 := Tryd.zeroValue4
  i4 := by kernel_rfl
  t5 := Tryd.underlying5
  a5 := Tryd.isAgg5
  z5 := Tryd.sizeOf5
  v5 := Tryd.zeroValue5
  i5 := by kernel_rfl
  t22 := Tryd.underlying122
  a22 := Tryd.isAgg122
  z22 := Tryd.sizeOf122
  v22 := Tryd.zeroValue122
  i22 := by kernel_rfl
  t25 := Tryd.underlying107
  a25 := Tryd.isAgg107
  z25 := Tryd.sizeOf107
  v25 := Tryd.zeroValue107
  i25 := by kernel_rfl
  t27 := Tryd.underlying120
  a27 := Tryd.isAgg120
  z27 := Tryd.sizeOf120
  v27 := Tryd.zeroValue120
  i27 := by kernel_rfl
  t53 := Tryd.underlying136
  a53 := Tryd.isAgg136
  z53 := Tryd.sizeOf136
  v53 := Tryd.zeroValue136
  i53 := by kernel_rfl
  t54 := Tryd.underlying137
  a54 := Tryd.isAgg137
  z54 := Tryd.sizeOf137
  g0 := by kernel_rfl
  g1 := by kernel_rfl }
theorem YtecaifjbmfianafDoor.tz_any (x : Nat) (hx0 : x ≠ 0) (hx : x ≤ 2147483647) (w : World) (hT : TabAt 2 Lib.deBruijn64tab w) :
    Calls Tryd.prog 67 #[.int .u64 x] w fun e w' => ∃ S m : Nat, e = .returned (.int .i64 S) ∧ S < 64 ∧ x = 2 ^ S * (2 * m + 1) ∧ w' = w := by
  refine (Any7.bits_TrailingZeros Tryd.laysTz x (by omega) w (fun _ => hT)).mono fun e w' ⟨he, hw⟩ => ?_
  obtain ⟨m, h1, h2⟩ := Lib.ctzFrom_spec 64 x (by omega) (Nat.lt_of_le_of_lt hx (by decide))
  refine ⟨Lib.ctz 64 x, m, he, ?_, ?_, hw⟩
  · unfold Lib.ctz; rw [if_neg hx0]; exact h2
  · unfold Lib.ctz; rw [if_neg hx0]; exact h1
end Go.Proofs
