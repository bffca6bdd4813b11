/- What bits.Len answers in this program, by the library's own contract: the number of halvings till nothing is left; and that a number is below that power of 2. -/
import Derived.Shelf.Small.Bits
import Derived.Lib.BitFns
import Derived.Test.YtidkhgplejglaacDoorProg
namespace Go.Proofs
open Go.Shelf
def Tryd.laysLen_ren : Go.Shelf.Ren := ⟨fun | 125 => 46 | 128 => 56 | 129 => 57 | n => n, fun | 46 => 72 | 3 => 3 | 51 => 77 | 53 => 79 | 4 => 4 | 5 => 5 | 9 => 9 | n => n, fun | n => n⟩
theorem Tryd.laysLen : Go.Proofs.Lays.n125 Tryd.prog Tryd.laysLen_ren := {
  mixed := by kernel_rfl
  f125 := Tryd.func46.trans (congrArg some (by kernel_rfl))
  f128 := Tryd.func56.trans (congrArg some (by kernel_rfl))
  f129 := Tryd.func57.trans (congrArg some (by kernel_rfl))
  t3 := Tryd.underlying3
  a3 := Tryd.isAgg3
  z3 := Tryd.sizeOf3
  v3 := Tryd.zeroValue3
  t4 := Tryd.underlying4
  a4 := Tryd.isAgg4
  z4 := Tryd.sizeOf4
  v4 := Tryd.zeroValue4
  t5 := Tryd.underlying5
  a5 := Tryd.isAgg5
  z5 := Tryd.sizeOf5
  v5 := Tryd.zeroValue5
  t9 := Tryd.underlying9
  a9 := Tryd.isAgg9
  z9 := Tryd.sizeOf9
  v9 := Tryd.zeroValue9
  t46 := Tryd.underlying72
  a46 := Tryd.isAgg72
  z46 := Tryd.sizeOf72
  v46 := Tryd.zeroValue72
  t51 := Tryd.underlying77
  a51 := Tryd.isAgg77
  z51 := Tryd.sizeOf77
  v51 := Tryd.zeroValue77
  t53 := Tryd.underlying79
  a53 := Tryd.isAgg79
  z53 := Tryd.sizeOf79
  v53 := Tryd.zeroValue79 }
theorem YtidkhgplejglaacDoor.bitLenAux_lt : ∀ (f x : Nat), x < 2 ^ f → x < 2 ^ (Lib.bitLenAux f x)
  | 0, x, h => by simpa [Lib.bitLenAux] using h
  | f + 1, x, h => by
    unfold Lib.bitLenAux
    by_cases hx : x = 0
    · simp [hx]
    · rw [if_neg hx]
      have h2 : x / 2 < 2 ^ f := by rw [Nat.pow_succ] at h; omega
      have := YtidkhgplejglaacDoor.bitLenAux_lt f (x / 2) h2
      rw [Nat.add_comm, Nat.pow_succ]
      omega
/-- how many bits -/
def YtidkhgplejglaacDoor.blen (x : Nat) : Nat := Lib.bitLen x
theorem YtidkhgplejglaacDoor.blen_lt (x : Nat) (h : x ≤ 2147483647) : x < 2 ^ (YtidkhgplejglaacDoor.blen x) :=
  YtidkhgplejglaacDoor.bitLenAux_lt 64 x (Nat.lt_of_le_of_lt h (by decide))
theorem YtidkhgplejglaacDoor.blen_le (x : Nat) (h : x ≤ 2147483647) : YtidkhgplejglaacDoor.blen x ≤ 31 :=
  Lib.bitLen_le x 31 (by decide) (Nat.lt_of_le_of_lt h (by decide))
theorem YtidkhgplejglaacDoor.len_any (x : Int) (w : World) (h0 : 0 ≤ x) (h1 : x ≤ 2147483647) :
    Calls Tryd.prog 46 #[.int .u64 x] w fun e w' => e = .returned (.int .i64 (YtidkhgplejglaacDoor.blen x.toNat)) ∧ w' = w := Any.bits_Len Tryd.laysLen x w h0 (by omega)
end Go.Proofs
