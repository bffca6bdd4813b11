/- Package domain's own numbers: which sizes have one bit alone; the last bits of a place. -/
import Derived.Test.YtidkhgplejglaacDoorRefC
import Derived.Test.YtidkhgplejglaacDoorFft
import Derived.Laws.Bits64b
import Derived.KernelRfl
namespace Go.Proofs.YtidkhgplejglaacDoor
open Go.RowKit

/-- the last k bits -/
theorem andn_i64 (k : Nat) (n : Int) (hk : k ≤ 62) (m : Int) (hm : m = ((2 ^ k - 1 : Nat) : Int)) : bits .and .i64 n m = n % ((2 ^ k : Nat) : Int) := by
  have hle : 2 ^ k ≤ 2 ^ 62 := Nat.pow_le_pow_right (by decide) hk
  have hpos : 0 < 2 ^ k := Nat.pow_pos (by decide)
  have h1 : (BitVec.ofInt 64 m).toNat = 2 ^ k - 1 := by
    rw [hm, BitVec.ofInt_natCast, BitVec.toNat_ofNat]; exact Nat.mod_eq_of_lt (by omega)
  have key : (BitVec.ofInt 64 n &&& BitVec.ofInt 64 m).toNat = (n % ((2 ^ 64 : Nat) : Int)).toNat % 2 ^ k := by
    rw [BitVec.toNat_and, BitVec.toNat_ofInt, h1, Nat.and_two_pow_sub_one_eq_mod]
  have hlt := Nat.mod_lt (n % ((2 ^ 64 : Nat) : Int)).toNat hpos
  have hd : ((2 ^ k : Nat) : Int) ∣ ((2 ^ 64 : Nat) : Int) := Int.ofNat_dvd.2 (Nat.pow_dvd_pow 2 (by omega))
  have e : (((n % ((2 ^ 64 : Nat) : Int)).toNat % 2 ^ k : Nat) : Int) = n % ((2 ^ k : Nat) : Int) := by
    rw [Int.natCast_emod, Int.toNat_of_nonneg (Int.emod_nonneg _ (by decide)), Int.emod_emod_of_dvd _ hd]
  show IntKind.i64.wrap ((BitVec.ofInt 64 n &&& BitVec.ofInt 64 m).toNat : Nat) = _
  rw [key, IntKind.wrap_i64, ← e]
  omega

/-! ## bits.OnesCount at small numbers -/
def oa1 (x : Int) : Int := IntKind.u64.wrap (bits .and .u64 (x / 2) 6148914691236517205 + bits .and .u64 x 6148914691236517205)
def oa2 (x : Int) : Int := IntKind.u64.wrap (bits .and .u64 (x / 4) 3689348814741910323 + bits .and .u64 x 3689348814741910323)
def oa3 (x : Int) : Int := bits .and .u64 (IntKind.u64.wrap (x / 16 + x)) 1085102592571150095
def oa4 (x : Int) : Int := IntKind.u64.wrap (x + x / 256)
def oa5 (x : Int) : Int := IntKind.u64.wrap (x + x / 65536)
def oa6 (x : Int) : Int := IntKind.u64.wrap (x + x / 4294967296)
def oaz (x : Int) : Int := bits .and .i64 (wrap64 (oa6 (oa5 (oa4 (oa3 (oa2 (oa1 x))))))) 127

def pn1 (n : Nat) : Nat := ((n / 2 &&& 6148914691236517205) + (n &&& 6148914691236517205)) % 18446744073709551616
def pn2 (n : Nat) : Nat := ((n / 4 &&& 3689348814741910323) + (n &&& 3689348814741910323)) % 18446744073709551616
def pn3 (n : Nat) : Nat := ((n / 16 + n) % 18446744073709551616) &&& 1085102592571150095
def pn4 (n : Nat) : Nat := (n + n / 256) % 18446744073709551616
def pn5 (n : Nat) : Nat := (n + n / 65536) % 18446744073709551616
def pn6 (n : Nat) : Nat := (n + n / 4294967296) % 18446744073709551616
def pnz (n : Nat) : Nat := pn6 (pn5 (pn4 (pn3 (pn2 (pn1 n))))) % 128

theorem oa1_nat (n : Nat) (h : n < 18446744073709551616) : oa1 (n : Int) = (pn1 n : Int) := by
  unfold oa1 pn1
  have e1 : ((n : Int) / 2) = ((n / 2 : Nat) : Int) := by omega
  have e2 := bits_and_u64_nat (n / 2) 6148914691236517205 (by omega) (by decide)
  have e3 := bits_and_u64_nat n 6148914691236517205 h (by decide)
  rw [e1, show (6148914691236517205 : Int) = ((6148914691236517205 : Nat) : Int) from rfl, e2, e3, IntKind.wrap_u64]
  omega
theorem oa2_nat (n : Nat) (h : n < 18446744073709551616) : oa2 (n : Int) = (pn2 n : Int) := by
  unfold oa2 pn2
  have e1 : ((n : Int) / 4) = ((n / 4 : Nat) : Int) := by omega
  have e2 := bits_and_u64_nat (n / 4) 3689348814741910323 (by omega) (by decide)
  have e3 := bits_and_u64_nat n 3689348814741910323 h (by decide)
  rw [e1, show (3689348814741910323 : Int) = ((3689348814741910323 : Nat) : Int) from rfl, e2, e3, IntKind.wrap_u64]
  omega
theorem oa3_nat (n : Nat) (_h : n < 18446744073709551616) : oa3 (n : Int) = (pn3 n : Int) := by
  unfold oa3 pn3
  rw [IntKind.wrap_u64, show ((n : Int) / 16 + n) % 18446744073709551616 = (((n / 16 + n) % 18446744073709551616 : Nat) : Int) from by omega,
    show (1085102592571150095 : Int) = ((1085102592571150095 : Nat) : Int) from rfl, bits_and_u64_nat _ _ (Nat.mod_lt _ (by decide)) (by decide)]
theorem oa4_nat (n : Nat) : oa4 (n : Int) = (pn4 n : Int) := by unfold oa4 pn4; rw [IntKind.wrap_u64]; omega
theorem oa5_nat (n : Nat) : oa5 (n : Int) = (pn5 n : Int) := by unfold oa5 pn5; rw [IntKind.wrap_u64]; omega
theorem oa6_nat (n : Nat) : oa6 (n : Int) = (pn6 n : Int) := by unfold oa6 pn6; rw [IntKind.wrap_u64]; omega
theorem oaz_nat (n : Nat) (h : n < 18446744073709551616) : oaz (n : Int) = (pnz n : Int) := by
  unfold oaz pnz
  rw [oa1_nat n h, oa2_nat (pn1 n) (Nat.mod_lt _ (by decide)), oa3_nat (pn2 (pn1 n)) (Nat.mod_lt _ (by decide)), oa4_nat, oa5_nat, oa6_nat]
  generalize pn6 (pn5 (pn4 (pn3 (pn2 (pn1 n))))) = m
  rw [andn_i64 7 _ (by decide) 127 rfl, wrap64]
  omega

/-- one of the 17 sizes -/
def isP2 (n : Nat) : Bool := n == 1 || n == 2 || n == 4 || n == 8 || n == 16 || n == 32 || n == 64 || n == 128 || n == 256 || n == 512 || n == 1024 || n == 2048 || n == 4096 || n == 8192 || n == 16384 || n == 32768 || n == 65536
def okP2 (n : Nat) : Bool := !(Nat.beq (pnz n) 1) || isP2 n
def all2 : Nat → Nat → Bool
  | 0, b => okP2 b
  | k + 1, b => all2 k b && all2 k (b + 2 ^ k)
theorem all2_spec : ∀ (k b n : Nat), all2 k b = true → b ≤ n → n < b + 2 ^ k → okP2 n = true
  | 0, b, n, h, h1, h2 => by
    obtain rfl : n = b := by simp at h2; omega
    exact h
  | k + 1, b, n, h, h1, h2 => by
    rw [all2, Bool.and_eq_true] at h
    by_cases g : n < b + 2 ^ k
    · exact all2_spec k b n h.1 h1 g
    · exact all2_spec k (b + 2 ^ k) n h.2 (by omega) (by rw [Nat.pow_succ] at h2; omega)
theorem all2_ok : all2 16 0 = true := by kernel_rfl

theorem pnz_no (n : Nat) (h : n < 65536) (h1 : pnz n = 1) : isP2 n = true := by
  have := all2_spec 16 0 n all2_ok (Nat.zero_le _) (by omega)
  unfold okP2 at this
  rw [h1] at this
  simpa using this
theorem isP2_pow {n : Nat} (h : isP2 n = true) : ∃ k, k ≤ 16 ∧ n = 2 ^ k := by
  simp only [isP2, Bool.or_eq_true, beq_iff_eq] at h
  rcases h with (((((((((((((((h | h) | h) | h) | h) | h) | h) | h) | h) | h) | h) | h) | h) | h) | h) | h) | h
  · exact ⟨0, by decide, h⟩
  · exact ⟨1, by decide, h⟩
  · exact ⟨2, by decide, h⟩
  · exact ⟨3, by decide, h⟩
  · exact ⟨4, by decide, h⟩
  · exact ⟨5, by decide, h⟩
  · exact ⟨6, by decide, h⟩
  · exact ⟨7, by decide, h⟩
  · exact ⟨8, by decide, h⟩
  · exact ⟨9, by decide, h⟩
  · exact ⟨10, by decide, h⟩
  · exact ⟨11, by decide, h⟩
  · exact ⟨12, by decide, h⟩
  · exact ⟨13, by decide, h⟩
  · exact ⟨14, by decide, h⟩
  · exact ⟨15, by decide, h⟩
  · exact ⟨16, by decide, h⟩
theorem pnz_pow : ∀ k : Fin 17, pnz (2 ^ k.val) = 1 := by decide +kernel
theorem pnz_one {n : Nat} (h : n ≤ 65536) : pnz n = 1 ↔ ∃ k, k ≤ 16 ∧ n = 2 ^ k := by
  constructor
  · intro h1
    by_cases e : n = 65536
    · exact ⟨16, by decide, e⟩
    · exact isP2_pow (pnz_no n (by omega) h1)
  · rintro ⟨k, hk, rfl⟩
    exact pnz_pow ⟨k, by omega⟩

theorem ones64_any (n : Nat) (w : World) (h1 : n ≤ 65536) :
    Calls Tryd.prog 63 #[.int .u64 n] w fun e w' => e = .returned (.int .i64 (pnz n)) ∧ w' = w := by
  have HZ := hid (oaz_nat n (by omega))
  go_enter Tryd.func63, Tryd.ntmps63
  go_wp2
  go_ret
  exact ⟨ret_int HZ.out, rfl⟩

theorem ones_any (n : Nat) (w : World) (h1 : n ≤ 65536) :
    Calls Tryd.prog 52 #[.int .u64 n] w fun e w' => e = .returned (.int .i64 (pnz n)) ∧ w' = w := by
  have H := hid (ones64_any n w h1)
  go_enter Tryd.func52, Tryd.ntmps52
  go_wp2_with fail
  refine H.out.mono ?_
  rintro e w1 ⟨rfl, rfl⟩
  go_wp2_with fail
  go_ret
  exact ⟨rfl, rfl⟩

/-- so many points may be -/
def SizeOk (p : Nat) (n : Int) : Prop := ∃ k : Nat, k ≤ 16 ∧ n = ((2 ^ k : Nat) : Int) ∧ (((p - 1) % 2 ^ k : Nat) = 0)

end Go.Proofs.YtidkhgplejglaacDoor
