/- What bits.Len answers in this program, by the library's own contract: the number of halvings till nothing is left; and that a number is below that power of 2. -/
import Derived.Shelf.Small.Bits
import Derived.Lib.BitFns
import Derived.Test.YtidkhgplejglaacProg
namespace Go.Proofs
open Go.Shelf
def Try.laysLen_ren : Go.Shelf.Ren := ⟨fun | 125 => 36 | 128 => 39 | 129 => 40 | n => n, fun | 46 => 61 | 3 => 3 | 51 => 63 | 53 => 65 | 4 => 4 | 5 => 5 | 9 => 9 | n => n, fun | n => n⟩
theorem Try.laysLen : Go.Proofs.Lays.n125 Try.prog Try.laysLen_ren := {
  mixed := by kernel_rfl
  f125 := Try.func36.trans (congrArg some (by kernel_rfl))
  f128 := Try.func39.trans (congrArg some (by kernel_rfl))
  f129 := Try.func40.trans (congrArg some (by kernel_rfl))
  t3 := Try.underlying3
  a3 := Try.isAgg3
  z3 := Try.sizeOf3
  v3 := Try.zeroValue3
  t4 := Try.underlying4
  a4 := Try.isAgg4
  z4 := Try.sizeOf4
  v4 := Try.zeroValue4
  t5 := Try.underlying5
  a5 := Try.isAgg5
  z5 := Try.sizeOf5
  v5 := Try.zeroValue5
  t9 := Try.underlying9
  a9 := Try.isAgg9
  z9 := Try.sizeOf9
  v9 := Try.zeroValue9
  t46 := Try.underlying61
  a46 := Try.isAgg61
  z46 := Try.sizeOf61
  v46 := Try.zeroValue61
  t51 := Try.underlying63
  a51 := Try.isAgg63
  z51 := Try.sizeOf63
  v51 := Try.zeroValue63
  t53 := Try.underlying65
  a53 := Try.isAgg65
  z53 := Try.sizeOf65
  v53 := Try.zeroValue65 }
theorem Ytidkhgplejglaac.bitLenAux_lt : ∀ (f x : Nat), x < 2 ^ f → x < 2 ^ (Lib.bitLenAux f x)
  | 0, x, h => by simpa [Lib.bitLenAux] using h
  | f + 1, x, h => by
    unfold Lib.bitLenAux
    by_cases hx : x = 0
    · simp [hx]
    · rw [if_neg hx]
      have h2 : x / 2 < 2 ^ f := by rw [Nat.pow_succ] at h; omega
      have := Ytidkhgplejglaac.bitLenAux_lt f (x / 2) h2
      rw [Nat.add_comm, Nat.pow_succ]
      omega
/-- how many bits -/
def Ytidkhgplejglaac.blen (x : Nat) : Nat := Lib.bitLen x
theorem Ytidkhgplejglaac.blen_lt (x : Nat) (h : x ≤ 2147483647) : x < 2 ^ (Ytidkhgplejglaac.blen x) :=
  Ytidkhgplejglaac.bitLenAux_lt 64 x (Nat.lt_of_le_of_lt h (by decide))
theorem Ytidkhgplejglaac.blen_le (x : Nat) (h : x ≤ 2147483647) : Ytidkhgplejglaac.blen x ≤ 31 :=
  Lib.bitLen_le x 31 (by decide) (Nat.lt_of_le_of_lt h (by decide))
theorem Ytidkhgplejglaac.len_any (x : Int) (w : World) (h0 : 0 ≤ x) (h1 : x ≤ 2147483647) :
    Calls Try.prog 36 #[.int .u64 x] w fun e w' => e = .returned (.int .i64 (Ytidkhgplejglaac.blen x.toNat)) ∧ w' = w := Any.bits_Len Try.laysLen x w h0 (by omega)
end Go.Proofs
