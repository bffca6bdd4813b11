/- Package domain's own numbers: which sizes have one bit alone; the last bits of a place. Package domain: mayBeSize and New. Package domain: Field, Size, Point, Points, Half. Package domain: Point and Half. Package domain: spread, the transform by halves. Package domain: wrapped and Values. Package domain: Values. slices.Clone of a list of numbers that is not empty. Package domain: Coefficients. Plain facts on what Values and Coefficients answer: the values of a product, the sum of all values, the way back; an element of the order of a size. What package attestref2 answers of domains: Fault, New, Points, Values, Half. attestlaw2's plain and lives: a domain without the chapter's answer; chapter 3's example. attestsame.Spoil writes to its own list alone: no other block that was there turns. attestlaw2's made: a domain on both sides, or none on both. -/
import Derived.Test.YtmmlphdekeflfaaGreatDoorFld
import Derived.Test.YtmmlphdekeflfaaGreatDoorPlain
import Derived.Laws.Bits64b
import Derived.KernelRfl
import Derived.RegionTactic
import Derived.Deep.QuietTactic
import Derived.BigQuiet
import Derived.Test.YtmmlphdekeflfaaGreatDoorHeldS
import Derived.StillTailTactics
import Derived.BigRegion
import Derived.Deep.RegionWith
import Derived.Test.YtmmlphdekeflfaaGreatDoorPls
import Derived.Lib.SliceRun
import Derived.OwnWalk
namespace Go.Proofs.YtmmlphdekeflfaaGreatDoor
open Go.RowKit

/-- the last k bits -/
theorem andn_i64 (k : Nat) (n : Int) (hk : k ≤ 62) (m : Int) (hm : m = ((2 ^ k - 1 : Nat) : Int)) : bits .and .i64 n m = n % ((2 ^ k : Nat) : Int) := by
  have hle : 2 ^ k ≤ 2 ^ 62 := Nat.pow_le_pow_right (by decide) hk
  have hpos : 0 < 2 ^ k := Nat.pow_pos (by decide)
  have h1 : (BitVec.ofInt 64 m).toNat = 2 ^ k - 1 := by
    rw [hm, BitVec.ofInt_natCast, BitVec.toNat_ofNat]; exact Nat.mod_eq_of_lt (by omega)
  have key : (BitVec.ofInt 64 n &&& BitVec.ofInt 64 m).toNat = (n % ((2 ^ 64 : Nat) : Int)).toNat % 2 ^ k := by
    rw [BitVec.toNat_and, BitVec.toNat_ofInt, h1, Nat.and_two_pow_sub_one_eq_mod]
  have hlt := Nat.mod_lt (n % ((2 ^ 64 : Nat) : Int)).toNat hpos
  have hd : ((2 ^ k : Nat) : Int) ∣ ((2 ^ 64 : Nat) : Int) := Int.ofNat_dvd.2 (Nat.pow_dvd_pow 2 (by omega))
  have e : (((n % ((2 ^ 64 : Nat) : Int)).toNat % 2 ^ k : Nat) : Int) = n % ((2 ^ k : Nat) : Int) := by
    rw [Int.natCast_emod, Int.toNat_of_nonneg (Int.emod_nonneg _ (by decide)), Int.emod_emod_of_dvd _ hd]
  show IntKind.i64.wrap ((BitVec.ofInt 64 n &&& BitVec.ofInt 64 m).toNat : Nat) = _
  rw [key, IntKind.wrap_i64, ← e]
  omega

/-! ## bits.OnesCount at small numbers -/
def oa1 (x : Int) : Int := IntKind.u64.wrap (bits .and .u64 (x / 2) 6148914691236517205 + bits .and .u64 x 6148914691236517205)
def oa2 (x : Int) : Int := IntKind.u64.wrap (bits .and .u64 (x / 4) 3689348814741910323 + bits .and .u64 x 3689348814741910323)
def oa3 (x : Int) : Int := bits .and .u64 (IntKind.u64.wrap (x / 16 + x)) 1085102592571150095
def oa4 (x : Int) : Int := IntKind.u64.wrap (x + x / 256)
def oa5 (x : Int) : Int := IntKind.u64.wrap (x + x / 65536)
def oa6 (x : Int) : Int := IntKind.u64.wrap (x + x / 4294967296)
def oaz (x : Int) : Int := bits .and .i64 (wrap64 (oa6 (oa5 (oa4 (oa3 (oa2 (oa1 x))))))) 127

def pn1 (n : Nat) : Nat := ((n / 2 &&& 6148914691236517205) + (n &&& 6148914691236517205)) % 18446744073709551616
def pn2 (n : Nat) : Nat := ((n / 4 &&& 3689348814741910323) + (n &&& 3689348814741910323)) % 18446744073709551616
def pn3 (n : Nat) : Nat := ((n / 16 + n) % 18446744073709551616) &&& 1085102592571150095
def pn4 (n : Nat) : Nat := (n + n / 256) % 18446744073709551616
def pn5 (n : Nat) : Nat := (n + n / 65536) % 18446744073709551616
def pn6 (n : Nat) : Nat := (n + n / 4294967296) % 18446744073709551616
def pnz (n : Nat) : Nat := pn6 (pn5 (pn4 (pn3 (pn2 (pn1 n))))) % 128

theorem oa1_nat (n : Nat) (h : n < 18446744073709551616) : oa1 (n : Int) = (pn1 n : Int) := by
  unfold oa1 pn1
  have e1 : ((n : Int) / 2) = ((n / 2 : Nat) : Int) := by omega
  have e2 := bits_and_u64_nat (n / 2) 6148914691236517205 (by omega) (by decide)
  have e3 := bits_and_u64_nat n 6148914691236517205 h (by decide)
  rw [e1, show (6148914691236517205 : Int) = ((6148914691236517205 : Nat) : Int) from rfl, e2, e3, IntKind.wrap_u64]
  omega
theorem oa2_nat (n : Nat) (h : n < 18446744073709551616) : oa2 (n : Int) = (pn2 n : Int) := by
  unfold oa2 pn2
  have e1 : ((n : Int) / 4) = ((n / 4 : Nat) : Int) := by omega
  have e2 := bits_and_u64_nat (n / 4) 3689348814741910323 (by omega) (by decide)
  have e3 := bits_and_u64_nat n 3689348814741910323 h (by decide)
  rw [e1, show (3689348814741910323 : Int) = ((3689348814741910323 : Nat) : Int) from rfl, e2, e3, IntKind.wrap_u64]
  omega
theorem oa3_nat (n : Nat) (_h : n < 18446744073709551616) : oa3 (n : Int) = (pn3 n : Int) := by
  unfold oa3 pn3
  rw [IntKind.wrap_u64, show ((n : Int) / 16 + n) % 18446744073709551616 = (((n / 16 + n) % 18446744073709551616 : Nat) : Int) from by omega,
    show (1085102592571150095 : Int) = ((1085102592571150095 : Nat) : Int) from rfl, bits_and_u64_nat _ _ (Nat.mod_lt _ (by decide)) (by decide)]
theorem oa4_nat (n : Nat) : oa4 (n : Int) = (pn4 n : Int) := by unfold oa4 pn4; rw [IntKind.wrap_u64]; omega
theorem oa5_nat (n : Nat) : oa5 (n : Int) = (pn5 n : Int) := by unfold oa5 pn5; rw [IntKind.wrap_u64]; omega
theorem oa6_nat (n : Nat) : oa6 (n : Int) = (pn6 n : Int) := by unfold oa6 pn6; rw [IntKind.wrap_u64]; omega
theorem oaz_nat (n : Nat) (h : n < 18446744073709551616) : oaz (n : Int) = (pnz n : Int) := by
  unfold oaz pnz
  rw [oa1_nat n h, oa2_nat (pn1 n) (Nat.mod_lt _ (by decide)), oa3_nat (pn2 (pn1 n)) (Nat.mod_lt _ (by decide)), oa4_nat, oa5_nat, oa6_nat]
  generalize pn6 (pn5 (pn4 (pn3 (pn2 (pn1 n))))) = m
  rw [andn_i64 7 _ (by decide) 127 rfl, wrap64]
  omega

/-- one of the 17 sizes -/
def isP2 (n : Nat) : Bool := n == 1 || n == 2 || n == 4 || n == 8 || n == 16 || n == 32 || n == 64 || n == 128 || n == 256 || n == 512 || n == 1024 || n == 2048 || n == 4096 || n == 8192 || n == 16384 || n == 32768 || n == 65536
def okP2 (n : Nat) : Bool := !(Nat.beq (pnz n) 1) || isP2 n
def all2 : Nat → Nat → Bool
  | 0, b => okP2 b
  | k + 1, b => all2 k b && all2 k (b + 2 ^ k)
theorem all2_spec : ∀ (k b n : Nat), all2 k b = true → b ≤ n → n < b + 2 ^ k → okP2 n = true
  | 0, b, n, h, h1, h2 => by
    obtain rfl : n = b := by simp at h2; omega
    exact h
  | k + 1, b, n, h, h1, h2 => by
    rw [all2, Bool.and_eq_true] at h
    by_cases g : n < b + 2 ^ k
    · exact all2_spec k b n h.1 h1 g
    · exact all2_spec k (b + 2 ^ k) n h.2 (by omega) (by rw [Nat.pow_succ] at h2; omega)
theorem all2_ok : all2 16 0 = true := by kernel_rfl

theorem pnz_no (n : Nat) (h : n < 65536) (h1 : pnz n = 1) : isP2 n = true := by
  have := all2_spec 16 0 n all2_ok (Nat.zero_le _) (by omega)
  unfold okP2 at this
  rw [h1] at this
  simpa using this
theorem isP2_pow {n : Nat} (h : isP2 n = true) : ∃ k, k ≤ 16 ∧ n = 2 ^ k := by
  simp only [isP2, Bool.or_eq_true, beq_iff_eq] at h
  rcases h with (((((((((((((((h | h) | h) | h) | h) | h) | h) | h) | h) | h) | h) | h) | h) | h) | h) | h) | h
  · exact ⟨0, by decide, h⟩
  · exact ⟨1, by decide, h⟩
  · exact ⟨2, by decide, h⟩
  · exact ⟨3, by decide, h⟩
  · exact ⟨4, by decide, h⟩
  · exact ⟨5, by decide, h⟩
  · exact ⟨6, by decide, h⟩
  · exact ⟨7, by decide, h⟩
  · exact ⟨8, by decide, h⟩
  · exact ⟨9, by decide, h⟩
  · exact ⟨10, by decide, h⟩
  · exact ⟨11, by decide, h⟩
  · exact ⟨12, by decide, h⟩
  · exact ⟨13, by decide, h⟩
  · exact ⟨14, by decide, h⟩
  · exact ⟨15, by decide, h⟩
  · exact ⟨16, by decide, h⟩
theorem pnz_pow : ∀ k : Fin 17, pnz (2 ^ k.val) = 1 := by decide +kernel
theorem pnz_one {n : Nat} (h : n ≤ 65536) : pnz n = 1 ↔ ∃ k, k ≤ 16 ∧ n = 2 ^ k := by
  constructor
  · intro h1
    by_cases e : n = 65536
    · exact ⟨16, by decide, e⟩
    · exact isP2_pow (pnz_no n (by omega) h1)
  · rintro ⟨k, hk, rfl⟩
    exact pnz_pow ⟨k, by omega⟩

theorem ones64_any (n : Nat) (w : World) (h1 : n ≤ 65536) :
    Calls Tryz.prog 165 #[.int .u64 n] w fun e w' => e = .returned (.int .i64 (pnz n)) ∧ w' = w := by
  have HZ := hid (oaz_nat n (by omega))
  go_enter Tryz.func165, Tryz.ntmps165
  go_wp2
  go_ret
  exact ⟨ret_int HZ.out, rfl⟩

theorem ones_any (n : Nat) (w : World) (h1 : n ≤ 65536) :
    Calls Tryz.prog 96 #[.int .u64 n] w fun e w' => e = .returned (.int .i64 (pnz n)) ∧ w' = w := by
  have H := hid (ones64_any n w h1)
  go_enter Tryz.func96, Tryz.ntmps96
  go_wp2_with fail
  refine H.out.mono ?_
  rintro e w1 ⟨rfl, rfl⟩
  go_wp2_with fail
  go_ret
  exact ⟨rfl, rfl⟩

/-- so many points may be -/
def SizeOk (p : Nat) (n : Int) : Prop := ∃ k : Nat, k ≤ 16 ∧ n = ((2 ^ k : Nat) : Int) ∧ (((p - 1) % 2 ^ k : Nat) = 0)

end Go.Proofs.YtmmlphdekeflfaaGreatDoor

namespace Go.Proofs.YtmmlphdekeflfaaGreatDoor
open Go.RowKit

theorem sizeOk_nat {p k : Nat} (h3 : 3 ≤ p) (h : (p - 1) % 2 ^ k = 0) : ((p : Int) - 1) % ((2 ^ k : Nat) : Int) = 0 := by
  rw [show (p : Int) - 1 = ((p - 1 : Nat) : Int) from by omega, ← Int.natCast_emod, h]; rfl

set_option maxRecDepth 100000 in
theorem may_yes (p b k : Nat) (w : World) (h3 : 3 ≤ p) (hm : p ≤ 2147483647) (hp : w.cell? ⟨b, 0, none⟩ = some (.int .i64 p)) (hk : k ≤ 16) (hd : (p - 1) % 2 ^ k = 0) :
    Calls Tryz.prog 86 #[.pointer (some ⟨b, 0, none⟩), .int .i64 ((2 ^ k : Nat) : Int)] w fun e w' => e = .returned (.bool true) ∧ w' = w := by
  have hd2 : (((p : Int) - 1) % ((2 ^ k : Nat) : Int) == 0) = true := by rw [sizeOk_nat h3 hd]; rfl
  have hlt : 2 ^ k ≤ 65536 := Nat.pow_le_pow_right (by decide : 0 < 2) hk
  have hpos : 1 ≤ 2 ^ k := Nat.pow_pos (by decide)
  have HO := hid (ones_any (2 ^ k) w hlt)
  rw [(pnz_one hlt).2 ⟨k, hk, rfl⟩] at HO
  have HP := hid (p_any p b w hp)
  clear hd
  generalize 2 ^ k = n at *
  go_enter Tryz.func86, Tryz.ntmps86
  go_wp2_with fail
  refine HO.out.mono ?_
  rintro e w1 ⟨rfl, rfl⟩
  go_wp2_with fail
  refine HP.out.mono ?_
  rintro e w1 ⟨rfl, rfl⟩
  go_wp2_with fail
  go_ret
  exact ⟨rfl, rfl⟩

set_option maxRecDepth 100000 in
theorem may_no (p b : Nat) (n : Int) (w : World) (h3 : 3 ≤ p) (hm : p ≤ 2147483647) (hp : w.cell? ⟨b, 0, none⟩ = some (.int .i64 p)) (hno : ¬ SizeOk p n) (hn1 : -9223372036854775808 ≤ n) (hn2 : n ≤ 9223372036854775807) :
    Calls Tryz.prog 86 #[.pointer (some ⟨b, 0, none⟩), .int .i64 n] w fun e w' => e = .returned (.bool false) ∧ w' = w := by
  by_cases h1 : n < 1
  · have h1b : ¬ 1 ≤ n := by omega
    clear hno
    go_enter Tryz.func86, Tryz.ntmps86
    go_wp2_with fail
    go_ret
    exact ⟨rfl, rfl⟩
  · by_cases h2 : 65536 < n
    · have h2b : ¬ n ≤ 65536 := by omega
      clear hno
      go_enter Tryz.func86, Tryz.ntmps86
      go_wp2_with fail
      go_ret
      exact ⟨rfl, rfl⟩
    · obtain ⟨m, rfl⟩ := Int.eq_ofNat_of_zero_le (show 0 ≤ n by omega)
      have HO := hid (ones_any m w (by omega))
      have HP := hid (p_any p b w hp)
      by_cases ho : pnz m = 1
      · obtain ⟨k, hk, rfl⟩ := (pnz_one (by omega)).1 ho
        have hd : ¬ (p - 1) % 2 ^ k = 0 := fun h => hno ⟨k, hk, rfl, h⟩
        have hd2 : (((p : Int) - 1) % ((2 ^ k : Nat) : Int) == 0) = false := by
          rw [beq_eq_false_iff_ne]
          intro h
          rw [show (p : Int) - 1 = ((p - 1 : Nat) : Int) from by omega, ← Int.natCast_emod] at h
          omega
        rw [ho] at HO
        clear hno hd ho
        generalize 2 ^ k = n at *
        go_enter Tryz.func86, Tryz.ntmps86
        go_wp2_with fail
        refine HO.out.mono ?_
        rintro e w1 ⟨rfl, rfl⟩
        go_wp2_with fail
        refine HP.out.mono ?_
        rintro e w1 ⟨rfl, rfl⟩
        go_wp2_with fail
        go_ret
        exact ⟨rfl, rfl⟩
      · have hb : ((pnz m : Int) == 1) = false := by rw [beq_eq_false_iff_ne]; omega
        clear hno ho
        generalize pnz m = c at *
        go_enter Tryz.func86, Tryz.ntmps86
        go_wp2_with fail
        refine HO.out.mono ?_
        rintro e w1 ⟨rfl, rfl⟩
        go_wp2_with fail
        go_ret
        exact ⟨rfl, rfl⟩

/-- a domain in memory -/
structure DomAt (w : World) (d b : Nat) (n r s : Int) : Prop where
  f : w.cell? ⟨d, 0, none⟩ = some (.pointer (some ⟨b, 0, none⟩))
  n : w.cell? ⟨d, 1, none⟩ = some (.int .i64 n)
  r : w.cell? ⟨d, 2, none⟩ = some (.int .i64 r)
  s : w.cell? ⟨d, 3, none⟩ = some (.int .i64 s)
theorem DomAt.lt {w : World} {d b : Nat} {n r s : Int} (h : DomAt w d b n r s) : d < w.heap.size := by
  rcases Nat.lt_or_ge d w.heap.size with g | g
  · exact g
  · have := h.f; simp [World.cell?, Array.getElem?_eq_none g] at this
theorem DomAt.below {w w' : World} {d b n0 : Nat} {n r s : Int} (h : DomAt w d b n r s) (e : Below n0 w w') (hd : d < n0) : DomAt w' d b n r s :=
  ⟨(e.cell (p := ⟨d, 0, none⟩) hd).trans h.f, (e.cell (p := ⟨d, 1, none⟩) hd).trans h.n, (e.cell (p := ⟨d, 2, none⟩) hd).trans h.r, (e.cell (p := ⟨d, 3, none⟩) hd).trans h.s⟩

set_option maxRecDepth 100000 in
theorem dnew_size (p b : Nat) (n s : Int) (w : World) (h3 : 3 ≤ p) (hm : p ≤ 2147483647) (hp : w.cell? ⟨b, 0, none⟩ = some (.int .i64 p)) (hno : ¬ SizeOk p n) (hn1 : -9223372036854775808 ≤ n) (hn2 : n ≤ 9223372036854775807) :
    Calls Tryz.prog 32 #[.pointer (some ⟨b, 0, none⟩), .int .i64 n, .int .i64 s] w fun e w' => e = .returned (.tuple #[.pointer none, .iface 85 (.int .i64 2)]) ∧ w' = w := by
  have HM := hid (may_no p b n w h3 hm hp hno hn1 hn2)
  clear hno
  go_enter Tryz.func32, Tryz.ntmps32
  go_wp2_with fail
  refine HM.out.mono ?_
  rintro e w1 ⟨rfl, rfl⟩
  go_wp2_with fail
  go_ret2
  exact ⟨rfl, rfl⟩

set_option maxRecDepth 100000 in
theorem dnew_range (p b k : Nat) (s : Int) (w : World) (h3 : 3 ≤ p) (hm : p ≤ 2147483647) (hp : w.cell? ⟨b, 0, none⟩ = some (.int .i64 p)) (hk : k ≤ 16) (hd : (p - 1) % 2 ^ k = 0)
    (hs1 : -9223372036854775808 ≤ s) (hs2 : s ≤ 9223372036854775807) (hs : s % (p : Int) = 0) :
    Calls Tryz.prog 32 #[.pointer (some ⟨b, 0, none⟩), .int .i64 ((2 ^ k : Nat) : Int), .int .i64 s] w fun e w' => e = .returned (.tuple #[.pointer none, .iface 85 (.int .i64 3)]) ∧ w' = w := by
  have HM := hid (may_yes p b k w h3 hm hp hk hd)
  have HO := hid (of_any p b s w h3 hm hp hs1 hs2)
  rw [hs] at HO
  clear hd hs
  generalize 2 ^ k = n at *
  go_enter Tryz.func32, Tryz.ntmps32
  go_wp2_with fail
  refine HM.out.mono ?_
  rintro e w1 ⟨rfl, rfl⟩
  go_wp2_with fail
  refine HO.out.mono ?_
  rintro e w1 ⟨rfl, rfl⟩
  go_wp2_with fail
  go_ret2
  exact ⟨rfl, rfl⟩

set_option maxRecDepth 100000 in
set_option maxHeartbeats 1000000 in
theorem dnew_ok (p b k : Nat) (s : Int) (w : World) (hpr : Num.Prime p) (h3 : 3 ≤ p) (hm : p ≤ 2147483647) (hp : w.cell? ⟨b, 0, none⟩ = some (.int .i64 p)) (hk : k ≤ 16) (hd : (p - 1) % 2 ^ k = 0)
    (hs1 : -9223372036854775808 ≤ s) (hs2 : s ≤ 9223372036854775807) (hs : ¬ s % (p : Int) = 0) :
    Calls Tryz.prog 32 #[.pointer (some ⟨b, 0, none⟩), .int .i64 ((2 ^ k : Nat) : Int), .int .i64 s] w fun e w' =>
      ∃ (d r : Nat), e = .returned (.tuple #[.pointer (some ⟨d, 0, none⟩), .nilIface]) ∧ w.heap.size ≤ d ∧ RootIs p ((2 ^ k : Nat) : Int) r ∧ DomAt w' d b ((2 ^ k : Nat) : Int) r (s % (p : Int)) ∧ Below w.heap.size w w' := by
  have hbl : b < w.heap.size := by
    rcases Nat.lt_or_ge b w.heap.size with g | g
    · exact g
    · simp [World.cell?, Array.getElem?_eq_none g] at hp
  have hlt : 2 ^ k ≤ 65536 := Nat.pow_le_pow_right (by decide : 0 < 2) hk
  have HM := hid (may_yes p b k w h3 hm hp hk hd)
  have HO : Hid (∀ w1 : World, w1.cell? ⟨b, 0, none⟩ = some (.int .i64 p) → Calls Tryz.prog 72 #[.pointer (some ⟨b, 0, none⟩), .int .i64 s] w1 fun e w' => e = .returned (.int .i64 (s % p)) ∧ w' = w1) := fun w1 h => of_any p b s w1 h3 hm h hs1 hs2
  have HR : Hid (∀ w1 : World, w1.cell? ⟨b, 0, none⟩ = some (.int .i64 p) → b < w1.heap.size → Calls Tryz.prog 87 #[.pointer (some ⟨b, 0, none⟩), .int .i64 ((2 ^ k : Nat) : Int)] w1 fun e w' => ∃ r : Nat, e = .returned (.int .i64 r) ∧ RootIs p ((2 ^ k : Nat) : Int) r ∧ Below w1.heap.size w1 w') :=
    fun w1 h hb => root_any p b _ w1 hpr h3 hm h hb (by omega) (by omega)
  have hsb : (s % (p : Int) == 0) = false := by rw [beq_eq_false_iff_ne]; exact hs
  clear hd hs
  generalize 2 ^ k = n at *
  generalize s % (p : Int) = t at *
  go_enter Tryz.func32, Tryz.ntmps32
  go_wp2_with fail
  refine HM.out.mono ?_
  rintro e w1 ⟨rfl, rfl⟩
  go_wp2_with fail
  refine (HO.out _ hp).mono ?_
  rintro e w1 ⟨rfl, rfl⟩
  go_wp2_with fail
  refine (HR.out _ hp hbl).mono ?_
  rintro e w2 ⟨r, rfl, hg, hbel⟩
  have hp1 := (hbel.cell (p := ⟨b, 0, none⟩) hbl).trans hp
  have HG := hid hg
  have HB := hid hbel
  have hsz := hbel.size
  clear hg hbel
  go_wp2_with fail
  refine (HO.out _ hp1).mono ?_
  rintro e w3 ⟨rfl, rfl⟩
  go_wp2_with fail
  go_ret2
  exact ⟨_, r, rfl, by simpa using hsz, HG.out, ⟨by simp, by simp, by simp, by simp⟩, (HB.out.alloc hsz _)⟩

end Go.Proofs.YtmmlphdekeflfaaGreatDoor

namespace Go.Proofs.YtmmlphdekeflfaaGreatDoor
open Go.RowKit

theorem size_any (d b : Nat) (n r s : Int) (w : World) (h : DomAt w d b n r s) :
    Calls Tryz.prog 101 #[.pointer (some ⟨d, 0, none⟩)] w fun e w' => e = .returned (.int .i64 n) ∧ w' = w := by
  obtain ⟨c0, c1, c2, c3⟩ := h
  go_enter Tryz.func101, Tryz.ntmps101
  go_wp2_with fail
  go_ret
  exact ⟨rfl, rfl⟩

theorem dfield_any (d b : Nat) (n r s : Int) (w : World) (h : DomAt w d b n r s) :
    Calls Tryz.prog 116 #[.pointer (some ⟨d, 0, none⟩)] w fun e w' => e = .returned (.pointer (some ⟨b, 0, none⟩)) ∧ w' = w := by
  obtain ⟨c0, c1, c2, c3⟩ := h
  go_enter Tryz.func116, Tryz.ntmps116
  go_wp2_with fail
  go_ret
  exact ⟨rfl, rfl⟩

end Go.Proofs.YtmmlphdekeflfaaGreatDoor

namespace Go.Proofs.YtmmlphdekeflfaaGreatDoor
open Go.RowKit

set_option maxRecDepth 100000 in
set_option maxHeartbeats 1000000 in
theorem point_any (p b d k : Nat) (r s i : Int) (w : World) (hpr : Num.Prime p) (h3 : 3 ≤ p) (hm : p ≤ 2147483647) (hp : w.cell? ⟨b, 0, none⟩ = some (.int .i64 p)) (hd : DomAt w d b ((2 ^ k : Nat) : Int) r s)
    (hk : k ≤ 16) (hr0 : 0 ≤ r) (hr1 : r < p) (hs0 : 0 ≤ s) (hs1 : s < p) :
    Calls Tryz.prog 125 #[.pointer (some ⟨d, 0, none⟩), .int .i64 i] w fun e w' => e = .returned (.int .i64 (Dom.pt p s r (i % ((2 ^ k : Nat) : Int)).toNat)) ∧ w' = w.drew := by
  have hmx : Tryz.prog.follows .mixedOrders = true := by kernel_rfl
  have hle : 2 ^ k ≤ 65536 := Nat.pow_le_pow_right (by decide : 0 < 2) hk
  have hpos : 1 ≤ 2 ^ k := Nat.pow_pos (by decide)
  obtain ⟨c0, c1, c2, c3⟩ := hd
  have ha := andn_i64 k i (by omega) (((2 ^ k : Nat) : Int) - 1) (by omega)
  have ht0 : 0 ≤ i % ((2 ^ k : Nat) : Int) := Int.emod_nonneg _ (by omega)
  have ht1 : i % ((2 ^ k : Nat) : Int) < ((2 ^ k : Nat) : Int) := Int.emod_lt_of_pos _ (by omega)
  obtain ⟨t, ht⟩ := Int.eq_ofNat_of_zero_le ht0
  rw [ht] at ha ht1 ⊢
  rw [Int.toNat_natCast]
  have HP : Hid (∀ w1 : World, w1.cell? ⟨b, 0, none⟩ = some (.int .i64 p) → Calls Tryz.prog 147 #[.pointer (some ⟨b, 0, none⟩), .int .i64 r, .int .i64 (t : Int)] w1 fun e w' => e = .returned (.int .i64 (r ^ t % (p : Int))) ∧ w' = w1) := fun w1 h => by
    have := pow_any p b r (t : Int) w1 h3 hm h (by omega) (by omega) (by omega) (by omega)
    rwa [powz_ref_nat p t r hpr h3, Num.pwm_cast, show ((el p r : Nat) : Int) = r from by rw [el_cast p r h3]; exact Int.emod_eq_of_lt hr0 hr1] at this
  obtain ⟨pb0, pb1⟩ := emod_bounds (r ^ t) p h3
  have HM : Hid (∀ w1 : World, w1.cell? ⟨b, 0, none⟩ = some (.int .i64 p) → Calls Tryz.prog 108 #[.pointer (some ⟨b, 0, none⟩), .int .i64 s, .int .i64 (r ^ t % (p : Int))] w1 fun e w' => e = .returned (.int .i64 (Dom.pt p s r t)) ∧ w' = w1) := fun w1 h => by
    rw [← Dom.pt_mul]; exact mul_any p b _ _ w1 h3 hm h (by omega) (by omega) (by omega) (by omega)
  have hw : IntKind.i64.wrap (((2 ^ k : Nat) : Int) - 1) = ((2 ^ k : Nat) : Int) - 1 := by rw [IntKind.wrap_i64]; omega
  generalize r ^ t % (p : Int) = y at *
  generalize Dom.pt p s r t = z at *
  clear ht ht0 hpr hle hpos
  generalize ((2 ^ k : Nat) : Int) = n at *
  go_enter Tryz.func125, Tryz.ntmps125
  go_wp2_with fail
  refine wp_region_still_lit hmx (by kernel_rfl) ?_
  repeat still_step
  still_call (HP.out _ hp)
  repeat still_step
  still_call (HM.out _ hp)
  repeat still_step
  refine wpStill_nil ?_
  go_wp2_with fail
  go_ret
  exact ⟨rfl, rfl⟩

end Go.Proofs.YtmmlphdekeflfaaGreatDoor

namespace Go.Proofs.YtmmlphdekeflfaaGreatDoor
open Go.RowKit

/-- of the blocks that were there, two alone have turned -/
structure Pair (g h : Nat) (w w' : World) : Prop where
  os : w'.os = w.os
  tape : w'.tape = w.tape
  output : w'.output = w.output
  size : w.heap.size ≤ w'.heap.size
  block : ∀ k, k < w.heap.size → k ≠ g → k ≠ h → w'.heap[k]? = w.heap[k]?
theorem Pair.refl (g h : Nat) (w : World) : Pair g h w w := ⟨rfl, rfl, rfl, Nat.le_refl _, fun _ _ _ _ => rfl⟩
theorem Pair.trans {g h : Nat} {a b c : World} (x : Pair g h a b) (y : Pair g h b c) : Pair g h a c :=
  ⟨y.os.trans x.os, y.tape.trans x.tape, y.output.trans x.output, Nat.le_trans x.size y.size, fun i h0 h1 h2 => (y.block i (Nat.lt_of_lt_of_le h0 x.size) h1 h2).trans (x.block i h0 h1 h2)⟩
theorem Pair.symm {g h : Nat} {a b : World} (x : Pair g h a b) : Pair h g a b := ⟨x.os, x.tape, x.output, x.size, fun i h0 h1 h2 => x.block i h0 h2 h1⟩
theorem Pair.drewN {g h : Nat} {a w : World} (x : Pair g h a w) (n : Nat) : Pair g h a (w.drewN n) := x.trans ⟨rfl, rfl, rfl, Nat.le_refl _, fun _ _ _ _ => rfl⟩
theorem Pair.drew {g h : Nat} {a w : World} (x : Pair g h a w) : Pair g h a w.drew := x.trans ⟨rfl, rfl, rfl, Nat.le_refl _, fun _ _ _ _ => rfl⟩
theorem Pair.setCell {g h : Nat} {a w : World} (x : Pair g h a w) {p : Addr} (hp : p.block = g ∨ p.block = h) (u : Value) : Pair g h a (w.setCell p u) :=
  x.trans ⟨rfl, rfl, rfl, by simp [World.setCell], fun k _ h1 h2 => Below.heap_setCell _ _ _ _ (by rcases hp with e | e <;> omega)⟩
theorem Pair.cell {g h : Nat} {w w' : World} (x : Pair g h w w') {p : Addr} (h0 : p.block < w.heap.size) (h1 : p.block ≠ g) (h2 : p.block ≠ h) : w'.cell? p = w.cell? p := World.cell?_of_block (w := w) (x.block p.block h0 h1 h2)
theorem Pair.alloc {g h : Nat} {a w : World} (x : Pair g h a w) (o : Obj) : Pair g h a (w.alloc o) :=
  x.trans ⟨rfl, rfl, rfl, by simp, fun k h0 _ _ => Go.Deep.blk_alloc_lt _ _ _ h0⟩
theorem Pair.below {g h n0 : Nat} {w w' : World} (x : Pair g h w w') (h0 : n0 ≤ w.heap.size) (hg : n0 ≤ g) (hh : n0 ≤ h) : Below n0 w w' :=
  ⟨x.os, x.tape, x.output, x.size, fun k hk => x.block k (by omega) (by omega) (by omega)⟩

end Go.Proofs.YtmmlphdekeflfaaGreatDoor

namespace Go.Proofs.YtmmlphdekeflfaaGreatDoor
open Go.RowKit

end Go.Proofs.YtmmlphdekeflfaaGreatDoor

namespace Go.Proofs.YtmmlphdekeflfaaGreatDoor
open Go.RowKit

end Go.Proofs.YtmmlphdekeflfaaGreatDoor

namespace Go.Proofs.YtmmlphdekeflfaaGreatDoor
open Go.RowKit

theorem rowIs_of_owns {w : World} {base : Nat} {v : Value} {zs : List Int} (h : w.ownsRow base 3 1 v zs.length (zs.map (Value.int .i64))) (h0 : 0 < zs.length) :
    ∃ (g N : Nat) (F : Nat → Value), v = .slice (some ⟨g, 0, none⟩) zs.length N ∧ base ≤ g ∧ w.rowIs g 3 N F ∧ zs.length ≤ N ∧ ∀ j, j < zs.length → F j = .int .i64 (zat zs j) := by
  rcases h.2 with ⟨_, h2⟩ | ⟨g, cap, cur, hv, hb, hg, hn, _, hs, ht⟩
  · omega
  · refine ⟨g, cap, fun j => cur.getD j (.int .i64 0), hv, hb, ⟨cur, hg, by omega, fun i hi => ?_⟩, hn, fun j hj => ?_⟩
    · simp [show i < cur.size by omega]
    · have e : (cur.toList.take (zs.length * 1))[j]? = (zs.map (Value.int .i64))[j]? := by rw [ht]
      rw [List.getElem?_take, if_pos (by omega)] at e
      simp [hj, show j < cur.size by omega, zat] at e ⊢
      exact e

end Go.Proofs.YtmmlphdekeflfaaGreatDoor

namespace Go.Proofs.YtmmlphdekeflfaaGreatDoor
open Go.RowKit

/-- the polynomial's places ahead of Trim -/
def coefs (p : Nat) (zs : List Int) (n : Nat) (v m t : Int) : Nat → Int := fun j => Dom.ft p (zat zs) v n j * (m * t ^ j % (p : Int)) % (p : Int)

end Go.Proofs.YtmmlphdekeflfaaGreatDoor

namespace Go.Proofs.YtmmlphdekeflfaaGreatDoor
open Go.RowKit

/-- what Root answers for a size that may be -/
theorem root_ord2 {p k r : Nat} (hp : Num.Prime p) (h3 : 3 ≤ p) (hd : (p - 1) % 2 ^ k = 0) (h : RootIs p ((2 ^ k : Nat) : Int) r) : Dom.Ord p (r : Int) (2 ^ k) ∧ r < p := by
  have hpos : 1 ≤ 2 ^ k := Nat.pow_pos (by decide)
  rcases h with ⟨h1, _⟩ | ⟨_, _, g, hg, rfl⟩
  · rcases h1 with h1 | h1
    · omega
    · exact absurd (sizeOk_nat h3 hd) h1
  · obtain ⟨g1, g2, g3⟩ := Num.genIs_some hp h3 hg
    rw [Int.toNat_natCast]
    exact ⟨Num.root_circle hp h3 g1 g2 g3 hpos (Nat.dvd_of_mod_eq_zero hd), Num.pwm_lt _ _ _ (by omega)⟩

end Go.Proofs.YtmmlphdekeflfaaGreatDoor

namespace Go.Proofs.YtmmlphdekeflfaaGreatDoor
open Go.RowKit

/-- one of the first k powers of 2 -/
def twoB (n : Int) : Nat → Bool
  | 0 => false
  | k + 1 => twoB n k || (((2 ^ k : Nat) : Int) == n)
theorem twoB_iff (n : Int) : ∀ k, twoB n k = true ↔ ∃ j, j < k ∧ n = ((2 ^ j : Nat) : Int)
  | 0 => by simp [twoB]
  | k + 1 => by
    rw [twoB, Bool.or_eq_true, beq_iff_eq, twoB_iff n k]
    constructor
    · rintro (⟨j, h1, h2⟩ | h)
      · exact ⟨j, by omega, h2⟩
      · exact ⟨k, by omega, h.symm⟩
    · rintro ⟨j, h1, h2⟩
      by_cases e : j = k
      · subst e; exact Or.inr h2.symm
      · exact Or.inl ⟨j, by omega, h2⟩

/-- what Fault answers -/
def FaultIs (q : Nat) (n s c : Int) : Prop := (¬ SizeOk q n ∧ c = 2) ∨ (SizeOk q n ∧ s % (q : Int) = 0 ∧ c = 3) ∨ (SizeOk q n ∧ ¬ s % (q : Int) = 0 ∧ c = 0)

set_option maxRecDepth 100000 in
set_option maxHeartbeats 1000000 in
theorem fault_any (q : Nat) (n s : Int) (w : World) (h3 : 3 ≤ q) (h4 : q ≤ 2147483647) (hn1 : -9223372036854775808 ≤ n) (hn2 : n ≤ 9223372036854775807) (hs1 : -9223372036854775808 ≤ s) (hs2 : s ≤ 9223372036854775807) :
    Calls Tryz.prog 33 #[.int .i64 q, .int .i64 n, .int .i64 s] w fun e w' => ∃ c : Int, e = .returned (.int .i64 c) ∧ FaultIs q n s c ∧ w' = w := by
  go_enter Tryz.func33, Tryz.ntmps33
  go_wp2_with fail
  go_loop [7, 8] (fun tv nv => ∃ k : Nat, k ≤ 17 ∧ nv = .int .i64 ((2 ^ k : Nat) : Int) ∧ tv = .bool (twoB n k)) (fun _ nv => (131072 - intOf nv).toNat)
  case atStart => exact ⟨0, by decide, rfl, rfl⟩
  case round =>
    obtain ⟨k, hk, rfl, rfl⟩ := hrel
    by_cases hlt : k < 17
    · have hle : 2 ^ k ≤ 65536 := Nat.pow_le_pow_right (by decide : 0 < 2) (show k ≤ 16 by omega)
      have hpos : 1 ≤ 2 ^ k := Nat.pow_pos (by decide)
      have HS : Hid (((2 ^ (k + 1) : Nat) : Int) = ((2 ^ k : Nat) : Int) * 2) := by unfold Hid; rw [Nat.pow_succ]; omega
      have HB : Hid (twoB n (k + 1) = (twoB n k || (((2 ^ k : Nat) : Int) == n))) := rfl
      have hle2 : ((2 ^ k : Nat) : Int) ≤ 65536 := by omega
      have hpos2 : (1 : Int) ≤ ((2 ^ k : Nat) : Int) := by omega
      clear hle hpos
      generalize ((2 ^ k : Nat) : Int) = m at *
      cases hb : twoB n k with
      | true =>
        rw [hb] at HB
        clear hb
        go_wp2_with fail
        go_round
        case rel => exact ⟨k + 1, by omega, by rw [HS.out], by rw [HB.out]; rfl⟩
        case measure => simp [intOf]; omega
      | false =>
        rw [hb] at HB
        clear hb
        by_cases he : m = n
        · have heb : (m == n) = true := by rw [beq_iff_eq]; exact he
          rw [heb] at HB
          clear he
          go_wp2_with fail
          go_round
          case rel => exact ⟨k + 1, by omega, by rw [HS.out], by rw [HB.out]; rfl⟩
          case measure => simp [intOf]; omega
        · have heb : (m == n) = false := by rw [beq_eq_false_iff_ne]; exact he
          rw [heb] at HB
          clear he
          go_wp2_with fail
          go_round
          case rel => exact ⟨k + 1, by omega, by rw [HS.out], by rw [HB.out]; rfl⟩
          case measure => simp [intOf]; omega
    · obtain rfl : k = 17 := by omega
      have e17 : ((2 ^ 17 : Nat) : Int) = 131072 := by decide
      rw [e17]
      clear e17 hlt
      cases hb : twoB n 17 with
      | false =>
        have HN : Hid (¬ SizeOk q n) := fun ⟨j, h1, h2, _⟩ => by
          have := (twoB_iff n 17).2 ⟨j, by omega, h2⟩
          rw [hb] at this; cases this
        clear hb
        go_wp2_with fail
        go_ret
        exact ⟨2, rfl, Or.inl ⟨HN.out, rfl⟩, rfl⟩
      | true =>
        obtain ⟨j, hj, hnj⟩ := (twoB_iff n 17).1 hb
        clear hb
        have hpos : 1 ≤ 2 ^ j := Nat.pow_pos (by decide)
        have hzn : (n == 0) = false := by rw [beq_eq_false_iff_ne]; omega
        have hn0 : 0 < n := by omega
        by_cases hd : (q - 1) % 2 ^ j = 0
        · have hd2 : (((q : Int) - 1) % n != 0) = false := by rw [hnj, sizeOk_nat h3 hd]; rfl
          have HOK : Hid (SizeOk q n) := ⟨j, by omega, hnj, hd⟩
          clear hd hnj hpos
          by_cases hs : s % (q : Int) = 0
          · have HS := hid hs
            have hsb : (s % (q : Int) == 0) = true := by rw [hs]; rfl
            clear hs
            go_wp2_with fail
            refine (rof_any q s w h3 h4 hs1 hs2).mono ?_
            rintro e w1 ⟨rfl, rfl⟩
            go_wp2_with fail
            go_ret
            exact ⟨3, rfl, Or.inr (Or.inl ⟨HOK.out, HS.out, rfl⟩), rfl⟩
          · have HS := hid hs
            have hsb : (s % (q : Int) == 0) = false := by rw [beq_eq_false_iff_ne]; exact hs
            clear hs
            go_wp2_with fail
            refine (rof_any q s w h3 h4 hs1 hs2).mono ?_
            rintro e w1 ⟨rfl, rfl⟩
            go_wp2_with fail
            go_ret
            exact ⟨0, rfl, Or.inr (Or.inr ⟨HOK.out, HS.out, rfl⟩), rfl⟩
        · have hd2 : (((q : Int) - 1) % n != 0) = true := by
            rw [bne_iff_ne, hnj]
            intro h
            rw [show (q : Int) - 1 = ((q - 1 : Nat) : Int) from by omega, ← Int.natCast_emod] at h
            omega
          have HN : Hid (¬ SizeOk q n) := fun ⟨i, h1, h2, h5⟩ => hd (by
            have : 2 ^ j = 2 ^ i := by omega
            rw [this]; exact h5)
          clear hd hnj hpos
          go_wp2_with fail
          go_ret
          exact ⟨2, rfl, Or.inl ⟨HN.out, rfl⟩, rfl⟩

set_option maxRecDepth 100000 in
set_option maxHeartbeats 1000000 in
theorem rdnew_any (q : Nat) (n s : Int) (w : World) (hpr : Num.Prime q) (h3 : 3 ≤ q) (h4 : q ≤ 2147483647) (hn1 : -9223372036854775808 ≤ n) (hn2 : n ≤ 9223372036854775807) (hs1 : -9223372036854775808 ≤ s) (hs2 : s ≤ 9223372036854775807) :
    Calls Tryz.prog 14 #[.int .i64 q, .int .i64 n, .int .i64 s] w fun e w' => ∃ r : Nat, e = .returned (.agg #[.int .i64 q, .int .i64 n, .int .i64 (s % (q : Int)), .int .i64 r]) ∧ RootIs q n r ∧ Below w.heap.size w w' := by
  have HR : Hid (∀ w1 : World, Calls Tryz.prog 41 #[.int .i64 q, .int .i64 n] w1 fun e w' => ∃ r : Nat, e = .returned (.int .i64 r) ∧ RootIs q n r ∧ w' = w1) := fun w1 => rroot_any q n w1 hpr h3 h4 hn1 hn2
  clear hpr
  go_enter Tryz.func14, Tryz.ntmps14
  go_wp2_with fail
  refine (HR.out _).mono ?_
  rintro e w1 ⟨r, rfl, hr, rfl⟩
  have HRR := hid hr
  clear hr
  go_wp2_with fail
  refine (rof_any q s _ h3 h4 hs1 hs2).mono ?_
  rintro e w2 ⟨rfl, rfl⟩
  go_wp2_with fail
  (try simp only [Exit.inBlock, Exit.then])
  refine bodyPost_ret (results_cell_row rfl _ _ w.heap.size 39 #[.int .i64 q, .int .i64 n, .int .i64 (s % (q : Int)), .int .i64 r] (0, 0) _ rfl (heap_alloc_new w _) Tryz.underlying39 rfl (by kernel_rfl)) rfl ?_
  exact ⟨r, rfl, HRR.out, (Below.refl _ _).alloc (Nat.le_refl _) _⟩

set_option maxRecDepth 100000 in
set_option maxHeartbeats 1000000 in
theorem rpoints_any (q n : Nat) (r s : Int) (w : World) (h3 : 3 ≤ q) (h4 : q ≤ 2147483647) (hn0 : 0 < n) (hn : n ≤ 65536) (hr0 : 0 ≤ r) (hr1 : r < q) (hs0 : 0 ≤ s) (hs1 : s < q) :
    Calls Tryz.prog 129 #[.agg #[.int .i64 q, .int .i64 n, .int .i64 s, .int .i64 r]] w fun e w' => ∃ (g N : Nat) (F : Nat → Value),
      e = .returned (.slice (some ⟨g, 0, none⟩) n N) ∧ w.heap.size ≤ g ∧ w'.rowIs g 3 N F ∧ n ≤ N ∧ (∀ j, j < n → F j = .int .i64 (Dom.pt q s r j)) ∧ Below w.heap.size w w' := by
  obtain ⟨i0, hi, hz0, hz1, hz2⟩ := info_parts Tryz.infoInt
  have HP0 : Hid (Dom.pt q s r 0 = s) := Dom.pt_zero r hs0 hs1
  go_enter Tryz.func129, Tryz.ntmps129
  go_wp2_with fail
  have HC0 : Hid ((w.alloc (.cells #[.int .i64 q, .int .i64 n, .int .i64 s, .int .i64 r] 39)).cell? ⟨w.heap.size, 0, none⟩ = some (.int .i64 q)) := by unfold Hid; simp
  have HC1 : Hid ((w.alloc (.cells #[.int .i64 q, .int .i64 n, .int .i64 s, .int .i64 r] 39)).cell? ⟨w.heap.size, 1, none⟩ = some (.int .i64 n)) := by unfold Hid; simp
  have HC3 : Hid ((w.alloc (.cells #[.int .i64 q, .int .i64 n, .int .i64 s, .int .i64 r] 39)).cell? ⟨w.heap.size, 3, none⟩ = some (.int .i64 r)) := by unfold Hid; simp
  have HB0 : Hid (Below w.heap.size w (w.alloc (.cells #[.int .i64 q, .int .i64 n, .int .i64 s, .int .i64 r] 39))) := (Below.refl _ _).alloc (Nat.le_refl _) _
  have hs0x : w.heap.size < (w.alloc (.cells #[.int .i64 q, .int .i64 n, .int .i64 s, .int .i64 r] 39)).heap.size := by simp
  generalize w.alloc (.cells #[.int .i64 q, .int .i64 n, .int .i64 s, .int .i64 r] 39) = W0 at *
  go_loopw [3, 4, 5] (fun v xv iv wr => ∃ k : Nat, k ≤ n ∧ iv = .int .i64 k ∧ xv = .int .i64 (Dom.pt q s r k) ∧ wr.ownsRow W0.heap.size 3 1 v (ls (Dom.pt q s r) k).length ((ls (Dom.pt q s r) k).map (Value.int .i64)) ∧ Below W0.heap.size W0 wr)
    (fun _ _ iv _ => n - (intOf iv).toNat)
  case atStart => exact ⟨0, Nat.zero_le _, rfl, by rw [HP0.out], World.ownsRow_nil _ _ _ _, Below.refl _ _⟩
  case round =>
    obtain ⟨k, hk, rfl, rfl, hown, hbel⟩ := hrel
    have hsz := hbel.size
    have d0 := (hbel.cell (p := ⟨w.heap.size, 0, none⟩) hs0x).trans HC0.out
    have d1 := (hbel.cell (p := ⟨w.heap.size, 1, none⟩) hs0x).trans HC1.out
    have d3 := (hbel.cell (p := ⟨w.heap.size, 3, none⟩) hs0x).trans HC3.out
    by_cases hlt : k < n
    · have hlt2 : (k : Int) < (n : Int) := by omega
      have HLS := hid (ls_succ (Dom.pt q s r) k)
      have HLL := hid (ls_len (Dom.pt q s r) k)
      have hpt := emod_bounds (s * r ^ k) q h3
      rw [show s * r ^ k % (q : Int) = Dom.pt q s r k from rfl] at hpt
      have HM : Hid (∀ w1 : World, Calls Tryz.prog 39 #[.int .i64 q, .int .i64 (Dom.pt q s r k), .int .i64 r] w1 fun e w' => e = .returned (.int .i64 (Dom.pt q s r (k + 1))) ∧ w' = w1) :=
        fun w1 => by rw [← Dom.pt_succ]; exact rmul_any q _ _ w1 h3 h4 (by omega) (by omega) (by omega) (by omega)
      obtain ⟨xn, hxn⟩ : ∃ xn, xn = Dom.pt q s r (k + 1) := ⟨_, rfl⟩
      have HXN := hid hxn
      rw [← hxn] at HM
      clear hxn
      generalize Dom.pt q s r k = x at *
      generalize ls (Dom.pt q s r) k = lk at *
      go_wp2_with (at_builtin; refine wpList_append_own _ rfl _ _ 23 rfl W0.heap.size 3 i0 (.int .i64 0) 1 8 Tryz.underlying23 hi hz0 hz1 hz2 rfl (by decide) _ _ _ rfl (hown.alloc _) ⟨wr.heap.size, 0, none⟩ 1 1 [.int .i64 x] rfl rfl ?c1 ?c2 ?c3 ?c4 ?c5 ?_)
      case c1 =>
        intro j u hj
        match j, hj with
        | 0, hj => simp at hj; subst hj; simp [Addr.add]
      case c2 => intro u hu; simp at hu; subst hu; rfl
      case c3 => have := HLL.out; unfold maxLen; omega
      case c4 => have := HLL.out; omega
      case c5 => simp; omega
      intro v' w5 hown2 hgrow _
      have hown3 := owns_succ hown2
      have HB : Hid (Below W0.heap.size W0 w5) := (hbel.alloc hsz _).grown hgrow (by simp; omega) (fun k hk => (hown.lt k hk).1)
      have HO := hid hown3
      have f0 := (HB.out.cell (p := ⟨w.heap.size, 0, none⟩) hs0x).trans HC0.out
      have f3 := (HB.out.cell (p := ⟨w.heap.size, 3, none⟩) hs0x).trans HC3.out
      clear hown2 hown3 hgrow hown hbel d0 d1 d3
      go_wp2_with fail
      refine (HM.out _).mono ?_
      rintro e w6 ⟨rfl, rfl⟩
      go_wp2_with fail
      go_roundw
      case rel => exact ⟨k + 1, by omega, by go_num, by rw [HXN.out], by rw [HLS.out]; exact HO.out, HB.out⟩
      case measure => simp [intOf]; omega
    · have hlt2 : ¬ (k : Int) < (n : Int) := by omega
      obtain rfl : k = n := by omega
      have hll := ls_len (Dom.pt q s r) k
      obtain ⟨g, N, F, rfl, hg, hri, hnN, hF⟩ := rowIs_of_owns hown (by omega)
      rw [hll] at hnN hF
      have HE : Hid (w.heap.size ≤ g ∧ wr.rowIs g 3 N F ∧ k ≤ N ∧ (∀ j, j < k → F j = .int .i64 (Dom.pt q s r j)) ∧ Below w.heap.size w wr) :=
        ⟨by omega, hri, hnN, fun j hj => by rw [hF j hj, ls_at _ _ _ hj], HB0.out.trans (hbel.mono (by omega))⟩
      rw [hll]
      clear hri hF hown hll
      go_wp2_with fail
      go_ret
      first
        | exact ⟨g, N, F, rfl, HE.out⟩
        | exact ⟨g, N, rfl, HE.out.1, F, HE.out.2⟩


set_option maxRecDepth 100000 in
set_option maxHeartbeats 1000000 in
theorem rvalues_any (q n cap : Nat) (r s : Int) (a : Option Addr) (zs : List Int) (w : World) (h3 : 3 ≤ q) (h4 : q ≤ 2147483647) (hn0 : 0 < n) (hn : n ≤ 65536) (hr0 : 0 ≤ r) (hr1 : r < q) (hs0 : 0 ≤ s) (hs1 : s < q)
    (hlen : zs.length ≤ 281474976710656) (hfit : Fits zs) (hrow : RowB w.heap.size w a zs) :
    Calls Tryz.prog 74 #[.agg #[.int .i64 q, .int .i64 n, .int .i64 s, .int .i64 r], .slice a zs.length cap] w fun e w' => ∃ (g N : Nat) (F : Nat → Value),
      e = .returned (.slice (some ⟨g, 0, none⟩) n N) ∧ w.heap.size ≤ g ∧ w'.rowIs g 3 N F ∧ n ≤ N ∧ (∀ j, j < n → F j = .int .i64 (evz q zs (Dom.pt q s r j))) ∧ Below w.heap.size w w' := by
  have HP : Hid (∀ w1 : World, Calls Tryz.prog 129 #[.agg #[.int .i64 q, .int .i64 n, .int .i64 s, .int .i64 r]] w1 fun e w' => ∃ (g N : Nat) (F : Nat → Value),
      e = .returned (.slice (some ⟨g, 0, none⟩) n N) ∧ w1.heap.size ≤ g ∧ w'.rowIs g 3 N F ∧ n ≤ N ∧ (∀ j, j < n → F j = .int .i64 (Dom.pt q s r j)) ∧ Below w1.heap.size w1 w') := fun w1 => rpoints_any q n r s w1 h3 h4 hn0 hn hr0 hr1 hs0 hs1
  have hmx : Tryz.prog.follows .mixedOrders = true := by kernel_rfl
  have HF := hid hfit
  have HR := hid hrow
  clear hfit hrow
  go_enter Tryz.func74, Tryz.ntmps74
  go_wp2_with fail
  have HC0 : Hid ((w.alloc (.cells #[.int .i64 q, .int .i64 n, .int .i64 s, .int .i64 r] 39)).cell? ⟨w.heap.size, 0, none⟩ = some (.int .i64 q)) := by unfold Hid; simp
  have HB0 : Hid (Below w.heap.size w (w.alloc (.cells #[.int .i64 q, .int .i64 n, .int .i64 s, .int .i64 r] 39))) := (Below.refl _ _).alloc (Nat.le_refl _) _
  have hs0x : w.heap.size < (w.alloc (.cells #[.int .i64 q, .int .i64 n, .int .i64 s, .int .i64 r] 39)).heap.size := by simp
  refine (HP.out _).mono ?_
  generalize w.alloc (.cells #[.int .i64 q, .int .i64 n, .int .i64 s, .int .i64 r] 39) = W0 at *
  rintro e w1 ⟨g, N, F, rfl, hg, hri, hnN, hF, hb1⟩
  have HRI := hid hri
  have HFJ := hid hF
  have HB1 := hid hb1
  clear hri hF hb1 HP
  go_wp2_with fail
  go_loopw [6] (fun iv wr => ∃ (k : Nat) (F' : Nat → Value), k ≤ n ∧ iv = .int .i64 k ∧ Hid (wr.rowIs g 3 N F') ∧ Hid (∀ j, j < k → F' j = .int .i64 (evz q zs (Dom.pt q s r j))) ∧ Hid (∀ j, k ≤ j → j < n → F' j = .int .i64 (Dom.pt q s r j)) ∧ Hid (Below W0.heap.size W0 wr))
    (fun iv _ => n - (intOf iv).toNat)
  case atStart => exact ⟨0, F, Nat.zero_le _, rfl, HRI, fun j hj => by omega, fun j _ hj => HFJ.out j hj, HB1⟩
  case round =>
    obtain ⟨k, F', hk, rfl, hri, hlo, hhi, hbel⟩ := hrel
    have d0 := (hbel.out.cell (p := ⟨w.heap.size, 0, none⟩) hs0x).trans HC0.out
    by_cases hlt : k < n
    · have hlt2 : (k : Int) < (n : Int) := by omega
      have hok := hri.out.cell (i := k) (by omega)
      rw [hhi.out k (Nat.le_refl _) hlt] at hok
      have hos := hri.out.frozen k
      have hpt := emod_bounds (s * r ^ k) q h3
      rw [show s * r ^ k % (q : Int) = Dom.pt q s r k from rfl] at hpt
      have HE : Hid (∀ w1 : World, RowB w.heap.size w1 a zs → Calls Tryz.prog 130 #[.int .i64 q, .slice a zs.length cap, .int .i64 (Dom.pt q s r k)] w1 fun e w' => e = .returned (.int .i64 (evz q zs (Dom.pt q s r k))) ∧ w' = w1) :=
        fun w1 h => reval_any q cap (· < w.heap.size) a zs (Dom.pt q s r k) w1 h3 h4 hlen HF.out (by omega) (by omega) h
      have HRW : Hid (RowB w.heap.size wr a zs) := HR.out.below (HB0.out.trans (hbel.out.mono (by omega)))
      have HRI2 : Hid ((wr.setCell ⟨g, k, none⟩ (.int .i64 (evz q zs (Dom.pt q s r k)))).rowIs g 3 N (fun j => if j = k then .int .i64 (evz q zs (Dom.pt q s r k)) else F' j)) := hri.out.set k _
      have HLO : Hid (∀ j, j < k + 1 → (fun j => if j = k then Value.int .i64 (evz q zs (Dom.pt q s r k)) else F' j) j = .int .i64 (evz q zs (Dom.pt q s r j))) := fun j hj => by
        show (if j = k then _ else _) = _
        by_cases e : j = k
        · rw [if_pos e, e]
        · rw [if_neg e]; exact hlo.out j (by omega)
      have HHI : Hid (∀ j, k + 1 ≤ j → j < n → (fun j => if j = k then Value.int .i64 (evz q zs (Dom.pt q s r k)) else F' j) j = .int .i64 (Dom.pt q s r j)) := fun j h1 h2 => by
        show (if j = k then _ else _) = _
        rw [if_neg (by omega)]; exact hhi.out j (by omega) h2
      have HBN := hid (hbel.out.setCell (p := ⟨g, k, none⟩) hg (.int .i64 (evz q zs (Dom.pt q s r k))))
      clear hri hlo hhi
      obtain ⟨ev, hev⟩ : ∃ ev, ev = evz q zs (Dom.pt q s r k) := ⟨_, rfl⟩
      rw [← hev] at HE HRI2 HLO HHI HBN
      clear hev
      generalize Dom.pt q s r k = x at *
      go_wp2_with fail
      go_still_tail 10, hmx
      still_call (HE.out _ HRW.out)
      refine wpStill_nil ?_
      go_wp2_with fail
      go_roundw
      case rel => exact ⟨k + 1, _, by omega, by go_num, HRI2, HLO, HHI, HBN.out.drew⟩
      case measure => simp [intOf]; omega
    · have hlt2 : ¬ (k : Int) < (n : Int) := by omega
      have HE : Hid (w.heap.size ≤ g ∧ wr.rowIs g 3 N F' ∧ n ≤ N ∧ (∀ j, j < n → F' j = .int .i64 (evz q zs (Dom.pt q s r j))) ∧ Below w.heap.size w wr) :=
        ⟨by omega, hri.out, hnN, fun j hj => hlo.out j (by omega), HB0.out.trans (hbel.out.mono (by omega))⟩
      go_wp2_with fail
      go_ret
      first
        | exact ⟨g, N, F', rfl, HE.out⟩
        | exact ⟨g, N, rfl, HE.out.1, F', HE.out.2⟩

end Go.Proofs.YtmmlphdekeflfaaGreatDoor

namespace Go.Proofs.YtmmlphdekeflfaaGreatDoor
open Go.RowKit

/-- a domain may be made of these -/
structure GoodAt (q k : Nat) (s : Int) : Prop where
  pr : Num.Prime q
  h3 : 3 ≤ q
  h4 : q ≤ 2147483647
  hk : k ≤ 16
  hd : (q - 1) % 2 ^ k = 0
  hs : ¬ s % (q : Int) = 0
theorem two_pow_le {k : Nat} (hk : k ≤ 16) : 2 ^ k ≤ 65536 := Nat.pow_le_pow_right (by decide : 0 < 2) hk

theorem not_dvd_of_emod {p : Nat} {s : Int} (h : ¬ s % (p : Int) = 0) : ¬ (p : Int) ∣ s % (p : Int) := fun hd => h (by
  have := Int.emod_eq_zero_of_dvd hd
  rwa [Int.emod_emod_of_dvd _ (Int.dvd_refl _)] at this)

end Go.Proofs.YtmmlphdekeflfaaGreatDoor

namespace Go.Proofs.YtmmlphdekeflfaaGreatDoor
open Go.RowKit

theorem Pair.grown {g h : Nat} {a w w' : World} {row : Option Nat} (x : Pair g h a w) (hg : w.grownBy w' row) (hr : ∀ k, row = some k → k = g ∨ k = h) : Pair g h a w' :=
  x.trans ⟨hg.os, hg.tape, hg.output, hg.size, fun k hk h1 h2 => hg.block k hk (fun e => by rcases hr k e.symm with e | e <;> omega)⟩

end Go.Proofs.YtmmlphdekeflfaaGreatDoor

namespace Go.Proofs.YtmmlphdekeflfaaGreatDoor
open Go.RowKit

/-- four cells -/
def quad (a b c d : Value) : Nat → Value
  | 0 => a
  | 1 => b
  | 2 => c
  | _ => d
theorem quad_new (w : World) (t : TypeId) (a b c d : Value) : (w.alloc (.cells #[a, b, c, d] t)).rowIs w.heap.size t 4 (quad a b c d) :=
  ⟨#[a, b, c, d], heap_alloc_new w _, rfl, fun i hi => by
    have : i = 0 ∨ i = 1 ∨ i = 2 ∨ i = 3 := by omega
    rcases this with rfl | rfl | rfl | rfl <;> rfl⟩
theorem quad_arr {W : World} {g : Nat} {t : TypeId} {a b c d : Value} (h : W.rowIs g t 4 (quad a b c d)) : W.heap[g]? = some (.cells #[a, b, c, d] t (0, 0)) := by
  obtain ⟨cs, h1, h2, h4⟩ := h
  rw [h1]
  have e : cs = #[a, b, c, d] := by
    apply Array.ext
    · simpa using h2
    · intro i hi hi2
      have h0 : i = 0 ∨ i = 1 ∨ i = 2 ∨ i = 3 := by simp at hi2; omega
      have h5 := h4 i (by omega)
      rw [Array.getElem?_eq_getElem hi] at h5
      have h6 := Option.some.inj h5
      rw [h6]
      rcases h0 with rfl | rfl | rfl | rfl <;> rfl
  rw [e]
theorem quad_set {W : World} {g : Nat} {t : TypeId} {f : Nat → Value} (h : W.rowIs g t 4 f) (a b c d : Value) : ((((W.setCell ⟨g, 0, none⟩ a).setCell ⟨g, 1, none⟩ b).setCell ⟨g, 2, none⟩ c).setCell ⟨g, 3, none⟩ d).rowIs g t 4 (quad a b c d) :=
  ((((h.set 0 a).set 1 b).set 2 c).set 3 d).congr (fun i hi => by
    have : i = 0 ∨ i = 1 ∨ i = 2 ∨ i = 3 := by omega
    rcases this with rfl | rfl | rfl | rfl <;> simp [quad])

theorem DomAt.pair {w w' : World} {g h d b : Nat} {n r s : Int} (x : DomAt w d b n r s) (e : Pair g h w w') (hl : d < w.heap.size) (hg : d ≠ g) (hh : d ≠ h) : DomAt w' d b n r s :=
  ⟨(e.cell (p := ⟨d, 0, none⟩) hl hg hh).trans x.f, (e.cell (p := ⟨d, 1, none⟩) hl hg hh).trans x.n, (e.cell (p := ⟨d, 2, none⟩) hl hg hh).trans x.r, (e.cell (p := ⟨d, 3, none⟩) hl hg hh).trans x.s⟩

end Go.Proofs.YtmmlphdekeflfaaGreatDoor
