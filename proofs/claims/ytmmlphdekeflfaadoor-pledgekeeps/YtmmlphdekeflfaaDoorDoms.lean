/- Package domain's own numbers: which sizes have one bit alone; the last bits of a place. Package domain: mayBeSize and New. Package domain: Field, Size, Point, Points, Half. Package domain: Point and Half. Package domain: spread, the transform by halves. Package domain: wrapped and Values. Package domain: Values. slices.Clone of a list of numbers that is not empty. Package domain: Coefficients. Plain facts on what Values and Coefficients answer: the values of a product, the sum of all values, the way back; an element of the order of a size. What package attestref2 answers of domains: Fault, New, Points, Values, Half. attestlaw2's plain and lives: a domain without the chapter's answer; chapter 3's example. attestsame.Spoil writes to its own list alone: no other block that was there turns. attestlaw2's made: a domain on both sides, or none on both. -/
import Derived.Test.YtmmlphdekeflfaaDoorFld
import Derived.Test.YtmmlphdekeflfaaDoorPlain
import Derived.Laws.Bits64b
import Derived.KernelRfl
import Derived.RegionTactic
import Derived.Deep.QuietTactic
import Derived.BigQuiet
import Derived.Test.YtmmlphdekeflfaaDoorHeldS
import Derived.StillTailTactics
import Derived.BigRegion
import Derived.Deep.RegionWith
import Derived.Test.YtmmlphdekeflfaaDoorPls
import Derived.Lib.SliceRun
import Derived.OwnWalk
namespace Go.Proofs.YtmmlphdekeflfaaDoor
open Go.RowKit

/-- the last k bits -/
theorem andn_i64 (k : Nat) (n : Int) (hk : k ≤ 62) (m : Int) (hm : m = ((2 ^ k - 1 : Nat) : Int)) : bits .and .i64 n m = n % ((2 ^ k : Nat) : Int) := by
  have hle : 2 ^ k ≤ 2 ^ 62 := Nat.pow_le_pow_right (by decide) hk
  have hpos : 0 < 2 ^ k := Nat.pow_pos (by decide)
  have h1 : (BitVec.ofInt 64 m).toNat = 2 ^ k - 1 := by
    rw [hm, BitVec.ofInt_natCast, BitVec.toNat_ofNat]; exact Nat.mod_eq_of_lt (by omega)
  have key : (BitVec.ofInt 64 n &&& BitVec.ofInt 64 m).toNat = (n % ((2 ^ 64 : Nat) : Int)).toNat % 2 ^ k := by
    rw [BitVec.toNat_and, BitVec.toNat_ofInt, h1, Nat.and_two_pow_sub_one_eq_mod]
  have hlt := Nat.mod_lt (n % ((2 ^ 64 : Nat) : Int)).toNat hpos
  have hd : ((2 ^ k : Nat) : Int) ∣ ((2 ^ 64 : Nat) : Int) := Int.ofNat_dvd.2 (Nat.pow_dvd_pow 2 (by omega))
  have e : (((n % ((2 ^ 64 : Nat) : Int)).toNat % 2 ^ k : Nat) : Int) = n % ((2 ^ k : Nat) : Int) := by
    rw [Int.natCast_emod, Int.toNat_of_nonneg (Int.emod_nonneg _ (by decide)), Int.emod_emod_of_dvd _ hd]
  show IntKind.i64.wrap ((BitVec.ofInt 64 n &&& BitVec.ofInt 64 m).toNat : Nat) = _
  rw [key, IntKind.wrap_i64, ← e]
  omega

/-! ## bits.OnesCount at small numbers -/
def oa1 (x : Int) : Int := IntKind.u64.wrap (bits .and .u64 (x / 2) 6148914691236517205 + bits .and .u64 x 6148914691236517205)
def oa2 (x : Int) : Int := IntKind.u64.wrap (bits .and .u64 (x / 4) 3689348814741910323 + bits .and .u64 x 3689348814741910323)
def oa3 (x : Int) : Int := bits .and .u64 (IntKind.u64.wrap (x / 16 + x)) 1085102592571150095
def oa4 (x : Int) : Int := IntKind.u64.wrap (x + x / 256)
def oa5 (x : Int) : Int := IntKind.u64.wrap (x + x / 65536)
def oa6 (x : Int) : Int := IntKind.u64.wrap (x + x / 4294967296)
def oaz (x : Int) : Int := bits .and .i64 (wrap64 (oa6 (oa5 (oa4 (oa3 (oa2 (oa1 x))))))) 127

def pn1 (n : Nat) : Nat := ((n / 2 &&& 6148914691236517205) + (n &&& 6148914691236517205)) % 18446744073709551616
def pn2 (n : Nat) : Nat := ((n / 4 &&& 3689348814741910323) + (n &&& 3689348814741910323)) % 18446744073709551616
def pn3 (n : Nat) : Nat := ((n / 16 + n) % 18446744073709551616) &&& 1085102592571150095
def pn4 (n : Nat) : Nat := (n + n / 256) % 18446744073709551616
def pn5 (n : Nat) : Nat := (n + n / 65536) % 18446744073709551616
def pn6 (n : Nat) : Nat := (n + n / 4294967296) % 18446744073709551616
def pnz (n : Nat) : Nat := pn6 (pn5 (pn4 (pn3 (pn2 (pn1 n))))) % 128

theorem oa1_nat (n : Nat) (h : n < 18446744073709551616) : oa1 (n : Int) = (pn1 n : Int) := by
  unfold oa1 pn1
  have e1 : ((n : Int) / 2) = ((n / 2 : Nat) : Int) := by omega
  have e2 := bits_and_u64_nat (n / 2) 6148914691236517205 (by omega) (by decide)
  have e3 := bits_and_u64_nat n 6148914691236517205 h (by decide)
  rw [e1, show (6148914691236517205 : Int) = ((6148914691236517205 : Nat) : Int) from rfl, e2, e3, IntKind.wrap_u64]
  omega
theorem oa2_nat (n : Nat) (h : n < 18446744073709551616) : oa2 (n : Int) = (pn2 n : Int) := by
  unfold oa2 pn2
  have e1 : ((n : Int) / 4) = ((n / 4 : Nat) : Int) := by omega
  have e2 := bits_and_u64_nat (n / 4) 3689348814741910323 (by omega) (by decide)
  have e3 := bits_and_u64_nat n 3689348814741910323 h (by decide)
  rw [e1, show (3689348814741910323 : Int) = ((3689348814741910323 : Nat) : Int) from rfl, e2, e3, IntKind.wrap_u64]
  omega
theorem oa3_nat (n : Nat) (_h : n < 18446744073709551616) : oa3 (n : Int) = (pn3 n : Int) := by
  unfold oa3 pn3
  rw [IntKind.wrap_u64, show ((n : Int) / 16 + n) % 18446744073709551616 = (((n / 16 + n) % 18446744073709551616 : Nat) : Int) from by omega,
    show (1085102592571150095 : Int) = ((1085102592571150095 : Nat) : Int) from rfl, bits_and_u64_nat _ _ (Nat.mod_lt _ (by decide)) (by decide)]
theorem oa4_nat (n : Nat) : oa4 (n : Int) = (pn4 n : Int) := by unfold oa4 pn4; rw [IntKind.wrap_u64]; omega
theorem oa5_nat (n : Nat) : oa5 (n : Int) = (pn5 n : Int) := by unfold oa5 pn5; rw [IntKind.wrap_u64]; omega
theorem oa6_nat (n : Nat) : oa6 (n : Int) = (pn6 n : Int) := by unfold oa6 pn6; rw [IntKind.wrap_u64]; omega
theorem oaz_nat (n : Nat) (h : n < 18446744073709551616) : oaz (n : Int) = (pnz n : Int) := by
  unfold oaz pnz
  rw [oa1_nat n h, oa2_nat (pn1 n) (Nat.mod_lt _ (by decide)), oa3_nat (pn2 (pn1 n)) (Nat.mod_lt _ (by decide)), oa4_nat, oa5_nat, oa6_nat]
  generalize pn6 (pn5 (pn4 (pn3 (pn2 (pn1 n))))) = m
  rw [andn_i64 7 _ (by decide) 127 rfl, wrap64]
  omega

/-- one of the 17 sizes -/
def isP2 (n : Nat) : Bool := n == 1 || n == 2 || n == 4 || n == 8 || n == 16 || n == 32 || n == 64 || n == 128 || n == 256 || n == 512 || n == 1024 || n == 2048 || n == 4096 || n == 8192 || n == 16384 || n == 32768 || n == 65536
def okP2 (n : Nat) : Bool := !(Nat.beq (pnz n) 1) || isP2 n
def all2 : Nat → Nat → Bool
  | 0, b => okP2 b
  | k + 1, b => all2 k b && all2 k (b + 2 ^ k)
theorem all2_spec : ∀ (k b n : Nat), all2 k b = true → b ≤ n → n < b + 2 ^ k → okP2 n = true
  | 0, b, n, h, h1, h2 => by
    obtain rfl : n = b := by simp at h2; omega
    exact h
  | k + 1, b, n, h, h1, h2 => by
    rw [all2, Bool.and_eq_true] at h
    by_cases g : n < b + 2 ^ k
    · exact all2_spec k b n h.1 h1 g
    · exact all2_spec k (b + 2 ^ k) n h.2 (by omega) (by rw [Nat.pow_succ] at h2; omega)
theorem all2_ok : all2 16 0 = true := by kernel_rfl

theorem pnz_no (n : Nat) (h : n < 65536) (h1 : pnz n = 1) : isP2 n = true := by
  have := all2_spec 16 0 n all2_ok (Nat.zero_le _) (by omega)
  unfold okP2 at this
  rw [h1] at this
  simpa using this
theorem isP2_pow {n : Nat} (h : isP2 n = true) : ∃ k, k ≤ 16 ∧ n = 2 ^ k := by
  simp only [isP2, Bool.or_eq_true, beq_iff_eq] at h
  rcases h with (((((((((((((((h | h) | h) | h) | h) | h) | h) | h) | h) | h) | h) | h) | h) | h) | h) | h) | h
  · exact ⟨0, by decide, h⟩
  · exact ⟨1, by decide, h⟩
  · exact ⟨2, by decide, h⟩
  · exact ⟨3, by decide, h⟩
  · exact ⟨4, by decide, h⟩
  · exact ⟨5, by decide, h⟩
  · exact ⟨6, by decide, h⟩
  · exact ⟨7, by decide, h⟩
  · exact ⟨8, by decide, h⟩
  · exact ⟨9, by decide, h⟩
  · exact ⟨10, by decide, h⟩
  · exact ⟨11, by decide, h⟩
  · exact ⟨12, by decide, h⟩
  · exact ⟨13, by decide, h⟩
  · exact ⟨14, by decide, h⟩
  · exact ⟨15, by decide, h⟩
  · exact ⟨16, by decide, h⟩
theorem pnz_pow : ∀ k : Fin 17, pnz (2 ^ k.val) = 1 := by decide +kernel
theorem pnz_one {n : Nat} (h : n ≤ 65536) : pnz n = 1 ↔ ∃ k, k ≤ 16 ∧ n = 2 ^ k := by
  constructor
  · intro h1
    by_cases e : n = 65536
    · exact ⟨16, by decide, e⟩
    · exact isP2_pow (pnz_no n (by omega) h1)
  · rintro ⟨k, hk, rfl⟩
    exact pnz_pow ⟨k, by omega⟩

theorem ones64_any (n : Nat) (w : World) (h1 : n ≤ 65536) :
    Calls Tryd.prog 57 #[.int .u64 n] w fun e w' => e = .returned (.int .i64 (pnz n)) ∧ w' = w := by
  have HZ := hid (oaz_nat n (by omega))
  go_enter Tryd.func57, Tryd.ntmps57
  go_wp2
  go_ret
  exact ⟨ret_int HZ.out, rfl⟩

theorem ones_any (n : Nat) (w : World) (h1 : n ≤ 65536) :
    Calls Tryd.prog 45 #[.int .u64 n] w fun e w' => e = .returned (.int .i64 (pnz n)) ∧ w' = w := by
  have H := hid (ones64_any n w h1)
  go_enter Tryd.func45, Tryd.ntmps45
  go_wp2_with fail
  refine H.out.mono ?_
  rintro e w1 ⟨rfl, rfl⟩
  go_wp2_with fail
  go_ret
  exact ⟨rfl, rfl⟩

/-- so many points may be -/
def SizeOk (p : Nat) (n : Int) : Prop := ∃ k : Nat, k ≤ 16 ∧ n = ((2 ^ k : Nat) : Int) ∧ (((p - 1) % 2 ^ k : Nat) = 0)

end Go.Proofs.YtmmlphdekeflfaaDoor

namespace Go.Proofs.YtmmlphdekeflfaaDoor
open Go.RowKit

theorem sizeOk_nat {p k : Nat} (h3 : 3 ≤ p) (h : (p - 1) % 2 ^ k = 0) : ((p : Int) - 1) % ((2 ^ k : Nat) : Int) = 0 := by
  rw [show (p : Int) - 1 = ((p - 1 : Nat) : Int) from by omega, ← Int.natCast_emod, h]; rfl

set_option maxRecDepth 100000 in
theorem may_yes (p b k : Nat) (w : World) (h3 : 3 ≤ p) (hm : p ≤ 2147483647) (hp : w.cell? ⟨b, 0, none⟩ = some (.int .i64 p)) (hk : k ≤ 16) (hd : (p - 1) % 2 ^ k = 0) :
    Calls Tryd.prog 21 #[.pointer (some ⟨b, 0, none⟩), .int .i64 ((2 ^ k : Nat) : Int)] w fun e w' => e = .returned (.bool true) ∧ w' = w := by
  have hd2 : (((p : Int) - 1) % ((2 ^ k : Nat) : Int) == 0) = true := by rw [sizeOk_nat h3 hd]; rfl
  have hlt : 2 ^ k ≤ 65536 := Nat.pow_le_pow_right (by decide : 0 < 2) hk
  have hpos : 1 ≤ 2 ^ k := Nat.pow_pos (by decide)
  have HO := hid (ones_any (2 ^ k) w hlt)
  rw [(pnz_one hlt).2 ⟨k, hk, rfl⟩] at HO
  have HP := hid (p_any p b w hp)
  clear hd
  generalize 2 ^ k = n at *
  go_enter Tryd.func21, Tryd.ntmps21
  go_wp2_with fail
  refine HO.out.mono ?_
  rintro e w1 ⟨rfl, rfl⟩
  go_wp2_with fail
  refine HP.out.mono ?_
  rintro e w1 ⟨rfl, rfl⟩
  go_wp2_with fail
  go_ret
  exact ⟨rfl, rfl⟩

set_option maxRecDepth 100000 in
theorem may_no (p b : Nat) (n : Int) (w : World) (h3 : 3 ≤ p) (hm : p ≤ 2147483647) (hp : w.cell? ⟨b, 0, none⟩ = some (.int .i64 p)) (hno : ¬ SizeOk p n) (hn1 : -9223372036854775808 ≤ n) (hn2 : n ≤ 9223372036854775807) :
    Calls Tryd.prog 21 #[.pointer (some ⟨b, 0, none⟩), .int .i64 n] w fun e w' => e = .returned (.bool false) ∧ w' = w := by
  by_cases h1 : n < 1
  · have h1b : ¬ 1 ≤ n := by omega
    clear hno
    go_enter Tryd.func21, Tryd.ntmps21
    go_wp2_with fail
    go_ret
    exact ⟨rfl, rfl⟩
  · by_cases h2 : 65536 < n
    · have h2b : ¬ n ≤ 65536 := by omega
      clear hno
      go_enter Tryd.func21, Tryd.ntmps21
      go_wp2_with fail
      go_ret
      exact ⟨rfl, rfl⟩
    · obtain ⟨m, rfl⟩ := Int.eq_ofNat_of_zero_le (show 0 ≤ n by omega)
      have HO := hid (ones_any m w (by omega))
      have HP := hid (p_any p b w hp)
      by_cases ho : pnz m = 1
      · obtain ⟨k, hk, rfl⟩ := (pnz_one (by omega)).1 ho
        have hd : ¬ (p - 1) % 2 ^ k = 0 := fun h => hno ⟨k, hk, rfl, h⟩
        have hd2 : (((p : Int) - 1) % ((2 ^ k : Nat) : Int) == 0) = false := by
          rw [beq_eq_false_iff_ne]
          intro h
          rw [show (p : Int) - 1 = ((p - 1 : Nat) : Int) from by omega, ← Int.natCast_emod] at h
          omega
        rw [ho] at HO
        clear hno hd ho
        generalize 2 ^ k = n at *
        go_enter Tryd.func21, Tryd.ntmps21
        go_wp2_with fail
        refine HO.out.mono ?_
        rintro e w1 ⟨rfl, rfl⟩
        go_wp2_with fail
        refine HP.out.mono ?_
        rintro e w1 ⟨rfl, rfl⟩
        go_wp2_with fail
        go_ret
        exact ⟨rfl, rfl⟩
      · have hb : ((pnz m : Int) == 1) = false := by rw [beq_eq_false_iff_ne]; omega
        clear hno ho
        generalize pnz m = c at *
        go_enter Tryd.func21, Tryd.ntmps21
        go_wp2_with fail
        refine HO.out.mono ?_
        rintro e w1 ⟨rfl, rfl⟩
        go_wp2_with fail
        go_ret
        exact ⟨rfl, rfl⟩

/-- a domain in memory -/
structure DomAt (w : World) (d b : Nat) (n r s : Int) : Prop where
  f : w.cell? ⟨d, 0, none⟩ = some (.pointer (some ⟨b, 0, none⟩))
  n : w.cell? ⟨d, 1, none⟩ = some (.int .i64 n)
  r : w.cell? ⟨d, 2, none⟩ = some (.int .i64 r)
  s : w.cell? ⟨d, 3, none⟩ = some (.int .i64 s)
theorem DomAt.lt {w : World} {d b : Nat} {n r s : Int} (h : DomAt w d b n r s) : d < w.heap.size := by
  rcases Nat.lt_or_ge d w.heap.size with g | g
  · exact g
  · have := h.f; simp [World.cell?, Array.getElem?_eq_none g] at this
theorem DomAt.below {w w' : World} {d b n0 : Nat} {n r s : Int} (h : DomAt w d b n r s) (e : Below n0 w w') (hd : d < n0) : DomAt w' d b n r s :=
  ⟨(e.cell (p := ⟨d, 0, none⟩) hd).trans h.f, (e.cell (p := ⟨d, 1, none⟩) hd).trans h.n, (e.cell (p := ⟨d, 2, none⟩) hd).trans h.r, (e.cell (p := ⟨d, 3, none⟩) hd).trans h.s⟩

set_option maxRecDepth 100000 in
theorem dnew_size (p b : Nat) (n s : Int) (w : World) (h3 : 3 ≤ p) (hm : p ≤ 2147483647) (hp : w.cell? ⟨b, 0, none⟩ = some (.int .i64 p)) (hno : ¬ SizeOk p n) (hn1 : -9223372036854775808 ≤ n) (hn2 : n ≤ 9223372036854775807) :
    Calls Tryd.prog 9 #[.pointer (some ⟨b, 0, none⟩), .int .i64 n, .int .i64 s] w fun e w' => e = .returned (.tuple #[.pointer none, .iface 43 (.int .i64 2)]) ∧ w' = w := by
  have HM := hid (may_no p b n w h3 hm hp hno hn1 hn2)
  clear hno
  go_enter Tryd.func9, Tryd.ntmps9
  go_wp2_with fail
  refine HM.out.mono ?_
  rintro e w1 ⟨rfl, rfl⟩
  go_wp2_with fail
  go_ret2
  exact ⟨rfl, rfl⟩

set_option maxRecDepth 100000 in
theorem dnew_range (p b k : Nat) (s : Int) (w : World) (h3 : 3 ≤ p) (hm : p ≤ 2147483647) (hp : w.cell? ⟨b, 0, none⟩ = some (.int .i64 p)) (hk : k ≤ 16) (hd : (p - 1) % 2 ^ k = 0)
    (hs1 : -9223372036854775808 ≤ s) (hs2 : s ≤ 9223372036854775807) (hs : s % (p : Int) = 0) :
    Calls Tryd.prog 9 #[.pointer (some ⟨b, 0, none⟩), .int .i64 ((2 ^ k : Nat) : Int), .int .i64 s] w fun e w' => e = .returned (.tuple #[.pointer none, .iface 43 (.int .i64 3)]) ∧ w' = w := by
  have HM := hid (may_yes p b k w h3 hm hp hk hd)
  have HO := hid (of_any p b s w h3 hm hp hs1 hs2)
  rw [hs] at HO
  clear hd hs
  generalize 2 ^ k = n at *
  go_enter Tryd.func9, Tryd.ntmps9
  go_wp2_with fail
  refine HM.out.mono ?_
  rintro e w1 ⟨rfl, rfl⟩
  go_wp2_with fail
  refine HO.out.mono ?_
  rintro e w1 ⟨rfl, rfl⟩
  go_wp2_with fail
  go_ret2
  exact ⟨rfl, rfl⟩

set_option maxRecDepth 100000 in
set_option maxHeartbeats 1000000 in
theorem dnew_ok (p b k : Nat) (s : Int) (w : World) (hpr : Num.Prime p) (h3 : 3 ≤ p) (hm : p ≤ 2147483647) (hp : w.cell? ⟨b, 0, none⟩ = some (.int .i64 p)) (hk : k ≤ 16) (hd : (p - 1) % 2 ^ k = 0)
    (hs1 : -9223372036854775808 ≤ s) (hs2 : s ≤ 9223372036854775807) (hs : ¬ s % (p : Int) = 0) :
    Calls Tryd.prog 9 #[.pointer (some ⟨b, 0, none⟩), .int .i64 ((2 ^ k : Nat) : Int), .int .i64 s] w fun e w' =>
      ∃ (d r : Nat), e = .returned (.tuple #[.pointer (some ⟨d, 0, none⟩), .nilIface]) ∧ w.heap.size ≤ d ∧ RootIs p ((2 ^ k : Nat) : Int) r ∧ DomAt w' d b ((2 ^ k : Nat) : Int) r (s % (p : Int)) ∧ Below w.heap.size w w' := by
  have hbl : b < w.heap.size := by
    rcases Nat.lt_or_ge b w.heap.size with g | g
    · exact g
    · simp [World.cell?, Array.getElem?_eq_none g] at hp
  have hlt : 2 ^ k ≤ 65536 := Nat.pow_le_pow_right (by decide : 0 < 2) hk
  have HM := hid (may_yes p b k w h3 hm hp hk hd)
  have HO : Hid (∀ w1 : World, w1.cell? ⟨b, 0, none⟩ = some (.int .i64 p) → Calls Tryd.prog 22 #[.pointer (some ⟨b, 0, none⟩), .int .i64 s] w1 fun e w' => e = .returned (.int .i64 (s % p)) ∧ w' = w1) := fun w1 h => of_any p b s w1 h3 hm h hs1 hs2
  have HR : Hid (∀ w1 : World, w1.cell? ⟨b, 0, none⟩ = some (.int .i64 p) → b < w1.heap.size → Calls Tryd.prog 23 #[.pointer (some ⟨b, 0, none⟩), .int .i64 ((2 ^ k : Nat) : Int)] w1 fun e w' => ∃ r : Nat, e = .returned (.int .i64 r) ∧ RootIs p ((2 ^ k : Nat) : Int) r ∧ Below w1.heap.size w1 w') :=
    fun w1 h hb => root_any p b _ w1 hpr h3 hm h hb (by omega) (by omega)
  have hsb : (s % (p : Int) == 0) = false := by rw [beq_eq_false_iff_ne]; exact hs
  clear hd hs
  generalize 2 ^ k = n at *
  generalize s % (p : Int) = t at *
  go_enter Tryd.func9, Tryd.ntmps9
  go_wp2_with fail
  refine HM.out.mono ?_
  rintro e w1 ⟨rfl, rfl⟩
  go_wp2_with fail
  refine (HO.out _ hp).mono ?_
  rintro e w1 ⟨rfl, rfl⟩
  go_wp2_with fail
  refine (HR.out _ hp hbl).mono ?_
  rintro e w2 ⟨r, rfl, hg, hbel⟩
  have hp1 := (hbel.cell (p := ⟨b, 0, none⟩) hbl).trans hp
  have HG := hid hg
  have HB := hid hbel
  have hsz := hbel.size
  clear hg hbel
  go_wp2_with fail
  refine (HO.out _ hp1).mono ?_
  rintro e w3 ⟨rfl, rfl⟩
  go_wp2_with fail
  go_ret2
  exact ⟨_, r, rfl, by simpa using hsz, HG.out, ⟨by simp, by simp, by simp, by simp⟩, (HB.out.alloc hsz _)⟩

end Go.Proofs.YtmmlphdekeflfaaDoor

namespace Go.Proofs.YtmmlphdekeflfaaDoor
open Go.RowKit

theorem size_any (d b : Nat) (n r s : Int) (w : World) (h : DomAt w d b n r s) :
    Calls Tryd.prog 31 #[.pointer (some ⟨d, 0, none⟩)] w fun e w' => e = .returned (.int .i64 n) ∧ w' = w := by
  obtain ⟨c0, c1, c2, c3⟩ := h
  go_enter Tryd.func31, Tryd.ntmps31
  go_wp2_with fail
  go_ret
  exact ⟨rfl, rfl⟩

theorem dfield_any (d b : Nat) (n r s : Int) (w : World) (h : DomAt w d b n r s) :
    Calls Tryd.prog 18 #[.pointer (some ⟨d, 0, none⟩)] w fun e w' => e = .returned (.pointer (some ⟨b, 0, none⟩)) ∧ w' = w := by
  obtain ⟨c0, c1, c2, c3⟩ := h
  go_enter Tryd.func18, Tryd.ntmps18
  go_wp2_with fail
  go_ret
  exact ⟨rfl, rfl⟩

end Go.Proofs.YtmmlphdekeflfaaDoor

namespace Go.Proofs.YtmmlphdekeflfaaDoor
open Go.RowKit

end Go.Proofs.YtmmlphdekeflfaaDoor

namespace Go.Proofs.YtmmlphdekeflfaaDoor
open Go.RowKit

/-- of the blocks that were there, two alone have turned -/
structure Pair (g h : Nat) (w w' : World) : Prop where
  os : w'.os = w.os
  tape : w'.tape = w.tape
  output : w'.output = w.output
  size : w.heap.size ≤ w'.heap.size
  block : ∀ k, k < w.heap.size → k ≠ g → k ≠ h → w'.heap[k]? = w.heap[k]?
theorem Pair.refl (g h : Nat) (w : World) : Pair g h w w := ⟨rfl, rfl, rfl, Nat.le_refl _, fun _ _ _ _ => rfl⟩
theorem Pair.trans {g h : Nat} {a b c : World} (x : Pair g h a b) (y : Pair g h b c) : Pair g h a c :=
  ⟨y.os.trans x.os, y.tape.trans x.tape, y.output.trans x.output, Nat.le_trans x.size y.size, fun i h0 h1 h2 => (y.block i (Nat.lt_of_lt_of_le h0 x.size) h1 h2).trans (x.block i h0 h1 h2)⟩
theorem Pair.symm {g h : Nat} {a b : World} (x : Pair g h a b) : Pair h g a b := ⟨x.os, x.tape, x.output, x.size, fun i h0 h1 h2 => x.block i h0 h2 h1⟩
theorem Pair.drewN {g h : Nat} {a w : World} (x : Pair g h a w) (n : Nat) : Pair g h a (w.drewN n) := x.trans ⟨rfl, rfl, rfl, Nat.le_refl _, fun _ _ _ _ => rfl⟩
theorem Pair.drew {g h : Nat} {a w : World} (x : Pair g h a w) : Pair g h a w.drew := x.trans ⟨rfl, rfl, rfl, Nat.le_refl _, fun _ _ _ _ => rfl⟩
theorem Pair.drew2 {g h : Nat} {a w : World} (x : Pair g h a.drew w) : Pair g h a w := ⟨x.os, x.tape, x.output, x.size, x.block⟩
theorem Pair.setCell {g h : Nat} {a w : World} (x : Pair g h a w) {p : Addr} (hp : p.block = g ∨ p.block = h) (u : Value) : Pair g h a (w.setCell p u) :=
  x.trans ⟨rfl, rfl, rfl, by simp [World.setCell], fun k _ h1 h2 => Below.heap_setCell _ _ _ _ (by rcases hp with e | e <;> omega)⟩
theorem Pair.cell {g h : Nat} {w w' : World} (x : Pair g h w w') {p : Addr} (h0 : p.block < w.heap.size) (h1 : p.block ≠ g) (h2 : p.block ≠ h) : w'.cell? p = w.cell? p := World.cell?_of_block (w := w) (x.block p.block h0 h1 h2)
theorem Pair.alloc {g h : Nat} {a w : World} (x : Pair g h a w) (o : Obj) : Pair g h a (w.alloc o) :=
  x.trans ⟨rfl, rfl, rfl, by simp, fun k h0 _ _ => Go.Deep.blk_alloc_lt _ _ _ h0⟩
theorem Pair.below {g h n0 : Nat} {w w' : World} (x : Pair g h w w') (h0 : n0 ≤ w.heap.size) (hg : n0 ≤ g) (hh : n0 ≤ h) : Below n0 w w' :=
  ⟨x.os, x.tape, x.output, x.size, fun k hk => x.block k (by omega) (by omega) (by omega)⟩

/-- what spread does to lists of this length -/
def SpreadAt (p b n : Nat) : Prop :=
  ∀ (a1 a2 r : Int) (g h o q N1 N2 c1 c2 : Nat) (F G : Nat → Value) (f : Nat → Int) (w : World), w.cell? ⟨b, 0, none⟩ = some (.int .i64 p) → b ≠ g → b ≠ h → g ≠ h →
    w.rowIs g 3 N1 F → w.rowIs h 3 N2 G → o + n ≤ N1 → q + n ≤ N2 → n ≤ c1 → n ≤ c2 → 0 ≤ r → r < p → Dom.Ord p r n →
    (∀ j, j < n → F (o + j) = .int .i64 (f j)) → (∀ j, j < n → -9223372036854775808 ≤ f j ∧ f j ≤ 9223372036854775807) →
    Calls Tryd.prog 33 #[.agg #[.pointer (some ⟨b, 0, none⟩), .int .i64 a1, .int .i64 a2], .slice (some ⟨g, o, none⟩) n c1, .slice (some ⟨h, q, none⟩) n c2, .int .i64 r] w fun e w' =>
      e = .returned (.tuple #[]) ∧ Pair g h w w' ∧ ∃ F' G', w'.rowIs g 3 N1 F' ∧ w'.rowIs h 3 N2 G' ∧
        (∀ j, j < n → F' (o + j) = .int .i64 (Dom.ft p f r n j)) ∧ (∀ j, j < o ∨ o + n ≤ j → F' j = F j) ∧ (∀ j, j < q ∨ q + n ≤ j → G' j = G j)

theorem spread_one (p b : Nat) : SpreadAt p b 1 := by
  intro a1 a2 r g h o q N1 N2 c1 c2 F G f w hp hbg hbh hgh hF hG ho hq hc1 hc2 hr0 hr1 hord hf hfit
  have HF := hid hF
  have HG := hid hG
  have HV := hid hf
  clear hF hG hf hfit hord
  go_enter Tryd.func33, Tryd.ntmps33
  go_wp2_with fail
  refine bodyPost_ret (results_none rfl _ _ _) rfl ?_
  exact ⟨rfl, (Pair.refl _ _ _).alloc _, F, G, HF.out.alloc _, HG.out.alloc _, fun j hj => by rw [HV.out j hj, Dom.ft_one], fun _ _ => rfl, fun _ _ => rfl⟩

theorem ft_fits {p : Nat} (h3 : 3 ≤ p) (hm : p ≤ 2147483647) {f : Nat → Int} {r : Int} {n : Nat} (h : ∀ j, j < n → -9223372036854775808 ≤ f j ∧ f j ≤ 9223372036854775807) :
    ∀ j, j < n → -9223372036854775808 ≤ Dom.ft p f r n j ∧ Dom.ft p f r n j ≤ 9223372036854775807 := fun j hj => by
  by_cases e : n = 1
  · subst e; rw [Dom.ft_one]; exact h j hj
  · have := Dom.ft_bounds (p := p) (by omega) f r e j
    omega

/-- two places turned -/
def up2 (F : Nat → Value) (i : Nat) (x : Value) (j : Nat) (y : Value) : Nat → Value := fun t => if t = j then y else if t = i then x else F t
theorem rowIs_two {w : World} {g N : Nat} {t : TypeId} {F : Nat → Value} (h : w.rowIs g t N F) (i j : Nat) (x y : Value) : ((w.setCell ⟨g, i, none⟩ x).setCell ⟨g, j, none⟩ y).rowIs g t N (up2 F i x j y) :=
  ((h.set i x).set j y).congr (fun _ _ => rfl)

set_option maxRecDepth 1000000 in
set_option maxHeartbeats 4000000 in
theorem spread_step (p b m : Nat) (hpr : Num.Prime p) (h3 : 3 ≤ p) (hm : p ≤ 2147483647) (h0 : 0 < m) (hmm : m ≤ 65536) (ih : SpreadAt p b m) : SpreadAt p b (2 * m) := by
  intro a1 a2 r g h o q N1 N2 c1 c2 F G f w hp hbg hbh hgh hF hG ho hq hc1 hc2 hr0 hr1 hord hf hfit
  have hgl := hF.lt
  have hhl := hG.lt
  have hbl : b < w.heap.size := by
    rcases Nat.lt_or_ge b w.heap.size with g | g
    · exact g
    · simp [World.cell?, Array.getElem?_eq_none g] at hp
  have HF := hid hF
  have HG := hid hG
  have HV := hid hf
  have HFT := hid hfit
  have HO := hid hord
  have HI := hid ih
  have e1 : ((2 * m : Nat) : Int) / 2 = (m : Int) := by omega
  have e2 : ((m : Int) == 0) = false := by rw [beq_eq_false_iff_ne]; omega
  have e3 : 2 * m - m = m := by omega
  have sl1 : m ≤ c1 := by omega
  have sl2 : (m : Int) ≤ 2 * (m : Int) := by omega
  have sl3 : ¬ c1 = m := by omega
  have hmx : Tryd.prog.follows .mixedOrders = true := by kernel_rfl
  clear hF hG hf hfit hord ih
  go_enter Tryd.func33, Tryd.ntmps33
  go_wp2_with fail
  go_quiet (fail)
  go_wp2_with fail
  have HF0 : Hid (((w.alloc (.cells #[.pointer (some ⟨b, 0, none⟩), .int .i64 a1, .int .i64 a2] 63)).drewN nq).rowIs g 3 N1 F) := HF.out.alloc _
  have HG0 : Hid (((w.alloc (.cells #[.pointer (some ⟨b, 0, none⟩), .int .i64 a1, .int .i64 a2] 63)).drewN nq).rowIs h 3 N2 G) := HG.out.alloc _
  have HP0 : Hid (Pair g h w ((w.alloc (.cells #[.pointer (some ⟨b, 0, none⟩), .int .i64 a1, .int .i64 a2] 63)).drewN nq)) := ((Pair.refl _ _ _).alloc _).drewN _
  have HC0 : Hid (((w.alloc (.cells #[.pointer (some ⟨b, 0, none⟩), .int .i64 a1, .int .i64 a2] 63)).drewN nq).cell? ⟨w.heap.size, 0, none⟩ = some (.pointer (some ⟨b, 0, none⟩))) := by
    show (w.alloc (.cells #[.pointer (some ⟨b, 0, none⟩), .int .i64 a1, .int .i64 a2] 63)).cell? ⟨w.heap.size, 0, none⟩ = _
    simp
  have HC1 : Hid (((w.alloc (.cells #[.pointer (some ⟨b, 0, none⟩), .int .i64 a1, .int .i64 a2] 63)).drewN nq).cell? ⟨w.heap.size, 1, none⟩ = some (.int .i64 a1)) := by
    show (w.alloc (.cells #[.pointer (some ⟨b, 0, none⟩), .int .i64 a1, .int .i64 a2] 63)).cell? ⟨w.heap.size, 1, none⟩ = _
    simp
  have HC2 : Hid (((w.alloc (.cells #[.pointer (some ⟨b, 0, none⟩), .int .i64 a1, .int .i64 a2] 63)).drewN nq).cell? ⟨w.heap.size, 2, none⟩ = some (.int .i64 a2)) := by
    show (w.alloc (.cells #[.pointer (some ⟨b, 0, none⟩), .int .i64 a1, .int .i64 a2] 63)).cell? ⟨w.heap.size, 2, none⟩ = _
    simp
  have hs0 : w.heap.size < ((w.alloc (.cells #[.pointer (some ⟨b, 0, none⟩), .int .i64 a1, .int .i64 a2] 63)).drewN nq).heap.size := by
    show _ < (w.alloc (.cells #[.pointer (some ⟨b, 0, none⟩), .int .i64 a1, .int .i64 a2] 63)).heap.size
    simp
  generalize (w.alloc (.cells #[.pointer (some ⟨b, 0, none⟩), .int .i64 a1, .int .i64 a2] 63)).drewN nq = W0 at *
  go_loopw [28] (fun iv wr => ∃ (k : Nat) (G' : Nat → Value), k ≤ m ∧ iv = .int .i64 k ∧ Hid (wr.rowIs g 3 N1 F) ∧ Hid (wr.rowIs h 3 N2 G') ∧ Hid (∀ j, j < k → G' (q + j) = .int .i64 (f (2 * j))) ∧ Hid (∀ j, j < k → G' (q + m + j) = .int .i64 (f (2 * j + 1)))
      ∧ Hid (∀ j, j < q ∨ q + 2 * m ≤ j → G' j = G j) ∧ Hid (Pair g h W0 wr))
    (fun iv _ => m - (intOf iv).toNat)
  case atStart => exact ⟨0, G, Nat.zero_le _, rfl, HF0, HG0, fun j hj => by omega, fun j hj => by omega, fun _ _ => rfl, Pair.refl _ _ _⟩
  case round =>
    obtain ⟨k, G', hk, rfl, hF1, hG1, hev, hod, hout, hpair⟩ := hrel
    by_cases hlt : k < m
    · have hlt2 : (k : Int) < (m : Int) := by omega
      have i1 : (2 * (k : Int)).toNat = 2 * k := by omega
      have i2 : (2 * (k : Int) + 1).toNat = 2 * k + 1 := by omega
      have b1 : 2 * (k : Int) < ((2 * m : Nat) : Int) := by omega
      have b2 : 2 * (k : Int) + 1 < ((2 * m : Nat) : Int) := by omega
      have r1 := hF1.out.cell (i := o + 2 * k) (by omega)
      rw [HV.out (2 * k) (by omega)] at r1
      have r2 := hF1.out.cell (i := o + (2 * k + 1)) (by omega)
      rw [HV.out (2 * k + 1) (by omega)] at r2
      have s1 := hG1.out.cell (i := q + k) (by omega)
      have s2 := hG1.out.cell (i := q + m + k) (by omega)
      have t1 := hG1.out.frozen (q + k)
      have t2 := hG1.out.frozen (q + m + k)
      have hne : ¬ q + m + k = q + k := by omega
      have HN := hid (rowIs_two hG1.out (q + k) (q + m + k) (.int .i64 (f (2 * k))) (.int .i64 (f (2 * k + 1))))
      have HEV : Hid (∀ j, j < k + 1 → up2 G' (q + k) (.int .i64 (f (2 * k))) (q + m + k) (.int .i64 (f (2 * k + 1))) (q + j) = .int .i64 (f (2 * j))) := fun j hj => by
        unfold up2
        rw [if_neg (by omega)]
        by_cases e : j = k
        · rw [if_pos (by omega), e]
        · rw [if_neg (by omega)]; exact hev.out j (by omega)
      have HOD : Hid (∀ j, j < k + 1 → up2 G' (q + k) (.int .i64 (f (2 * k))) (q + m + k) (.int .i64 (f (2 * k + 1))) (q + m + j) = .int .i64 (f (2 * j + 1))) := fun j hj => by
        unfold up2
        by_cases e : j = k
        · rw [if_pos (by omega), e]
        · rw [if_neg (by omega), if_neg (by omega)]; exact hod.out j (by omega)
      have HOU : Hid (∀ j, j < q ∨ q + 2 * m ≤ j → up2 G' (q + k) (.int .i64 (f (2 * k))) (q + m + k) (.int .i64 (f (2 * k + 1))) j = G j) := fun j hj => by
        unfold up2
        rw [if_neg (by omega), if_neg (by omega)]; exact hout.out j hj
      have HPA : Hid (Pair g h W0 ((wr.setCell ⟨h, q + k, none⟩ (.int .i64 (f (2 * k)))).setCell ⟨h, q + m + k, none⟩ (.int .i64 (f (2 * k + 1))))) := (hpair.out.setCell (.inr rfl) _).setCell (.inr rfl) _
      have HFN : Hid (((wr.setCell ⟨h, q + k, none⟩ (.int .i64 (f (2 * k)))).setCell ⟨h, q + m + k, none⟩ (.int .i64 (f (2 * k + 1)))).rowIs g 3 N1 F) := (hF1.out.setOther (a := ⟨h, q + k, none⟩) hgh _).setOther (a := ⟨h, q + m + k, none⟩) hgh _
      generalize f (2 * k) = x at *
      generalize f (2 * k + 1) = y at *
      generalize G' (q + k) = u at *
      generalize G' (q + m + k) = v at *
      clear hF1 hG1 hpair hev hod hout
      go_wp2_with fail
      go_region
      all_goals
        go_wp2_with fail
        go_roundw
        case rel => exact ⟨k + 1, _, by omega, by go_num, HFN.out.drew, HN.out.drew, HEV, HOD, HOU, HPA.out.drew⟩
        case measure => simp [intOf]; omega
    · have hlt2 : ¬ (k : Int) < (m : Int) := by omega
      have hp0 := (HP0.out.cell (p := ⟨b, 0, none⟩) hbl hbg hbh).trans hp
      have hpc := (hpair.out.cell (p := ⟨b, 0, none⟩) (Nat.lt_trans hbl hs0) hbg hbh).trans hp0
      have n1 : w.heap.size ≠ g := by omega
      have n2 : w.heap.size ≠ h := by omega
      have cc0 := (hpair.out.cell (p := ⟨w.heap.size, 0, none⟩) hs0 n1 n2).trans HC0.out
      have cc1 := (hpair.out.cell (p := ⟨w.heap.size, 1, none⟩) hs0 n1 n2).trans HC1.out
      have cc2 := (hpair.out.cell (p := ⟨w.heap.size, 2, none⟩) hs0 n1 n2).trans HC2.out
      have hsq := emod_bounds (r * r) p h3
      have HORD := hid HO.out.sqm
      have HM := hid (mul_any p b r r wr h3 hm hpc (by omega) (by omega) (by omega) (by omega))
      have HS1 : Hid (∀ w1 : World, w1.cell? ⟨b, 0, none⟩ = some (.int .i64 p) → w1.rowIs h 3 N2 G' → w1.rowIs g 3 N1 F →
          Calls Tryd.prog 33 #[.agg #[.pointer (some ⟨b, 0, none⟩), .int .i64 a1, .int .i64 a2], .slice (some ⟨h, q, none⟩) m c2, .slice (some ⟨g, o, none⟩) m c1, .int .i64 (r * r % (p : Int))] w1 fun e w' =>
            e = .returned (.tuple #[]) ∧ Pair h g w1 w' ∧ ∃ G1 F1, w'.rowIs h 3 N2 G1 ∧ w'.rowIs g 3 N1 F1 ∧
              (∀ j, j < m → G1 (q + j) = .int .i64 (Dom.ft p (Dom.ev f) (r * r % (p : Int)) m j)) ∧ (∀ j, j < q ∨ q + m ≤ j → G1 j = G' j) ∧ (∀ j, j < o ∨ o + m ≤ j → F1 j = F j)) :=
        fun w1 z1 z2 z3 => HI.out a1 a2 (r * r % (p : Int)) h g q o N2 N1 c2 c1 G' F (Dom.ev f) w1 z1 hbh hbg hgh.symm z2 z3 (by omega) (by omega) (by omega) (by omega) hsq.1 hsq.2 HORD.out
          (fun j hj => hev.out j (by omega)) (fun j hj => HFT.out (2 * j) (by omega))
      have HFX : Hid (∀ j, j < m → -9223372036854775808 ≤ Dom.ft p (Dom.ev f) (r * r % (p : Int)) m j ∧ Dom.ft p (Dom.ev f) (r * r % (p : Int)) m j ≤ 9223372036854775807) := ft_fits h3 hm (fun j hj => HFT.out (2 * j) (by omega))
      have HFY : Hid (∀ j, j < m → -9223372036854775808 ≤ Dom.ft p (Dom.od f) (r * r % (p : Int)) m j ∧ Dom.ft p (Dom.od f) (r * r % (p : Int)) m j ≤ 9223372036854775807) := ft_fits h3 hm (fun j hj => HFT.out (2 * j + 1) (by omega))
      have HLOW : Hid (∀ j, j < m → (Dom.ft p (Dom.ev f) (r * r % (p : Int)) m j + (r ^ j % (p : Int)) * Dom.ft p (Dom.od f) (r * r % (p : Int)) m j % (p : Int)) % (p : Int) = Dom.ft p f r (2 * m) j) := fun j hj => Dom.ft_low (by omega) f r hj
      have HHIGH : Hid (∀ j, j < m → (Dom.ft p (Dom.ev f) (r * r % (p : Int)) m j - (r ^ j % (p : Int)) * Dom.ft p (Dom.od f) (r * r % (p : Int)) m j % (p : Int)) % (p : Int) = Dom.ft p f r (2 * m) (m + j)) := fun j hj => Dom.ft_high hpr f HO.out hj
      have HS2 : Hid (∀ (G1 F1 : Nat → Value) (w1 : World), w1.cell? ⟨b, 0, none⟩ = some (.int .i64 p) → w1.rowIs h 3 N2 G1 → w1.rowIs g 3 N1 F1 → (∀ j, j < m → G1 (q + m + j) = .int .i64 (Dom.od f j)) →
          Calls Tryd.prog 33 #[.agg #[.pointer (some ⟨b, 0, none⟩), .int .i64 a1, .int .i64 a2], .slice (some ⟨h, q + m, none⟩) m (c2 - m), .slice (some ⟨g, o + m, none⟩) m (c1 - m), .int .i64 (r * r % (p : Int))] w1 fun e w' =>
            e = .returned (.tuple #[]) ∧ Pair h g w1 w' ∧ ∃ F' G', w'.rowIs h 3 N2 F' ∧ w'.rowIs g 3 N1 G' ∧
              (∀ j, j < m → F' (q + m + j) = .int .i64 (Dom.ft p (Dom.od f) (r * r % (p : Int)) m j)) ∧ (∀ j, j < q + m ∨ q + m + m ≤ j → F' j = G1 j) ∧ (∀ j, j < o + m ∨ o + m + m ≤ j → G' j = F1 j)) :=
        fun G1 F1 w1 z1 z2 z3 z4 => HI.out a1 a2 (r * r % (p : Int)) h g (q + m) (o + m) N2 N1 (c2 - m) (c1 - m) G1 F1 (Dom.od f) w1 z1 hbh hbg hgh.symm z2 z3 (by omega) (by omega) (by omega) (by omega) hsq.1 hsq.2 HORD.out z4 (fun j hj => HFT.out (2 * j + 1) (by omega))
      have HODD : Hid (∀ j, j < m → G' (q + m + j) = .int .i64 (Dom.od f j)) := fun j hj => hod.out j (by omega)
      have HOUT := hout
      have HPR := hpair
      have HG1 := hG1
      have HF1 := hF1
      clear hF1 hG1 hev hod hout hpair HI HF HG
      generalize r * r % (p : Int) = sq at *
      go_wp2_with fail
      refine HM.out.mono ?_
      rintro e w1 ⟨rfl, rfl⟩
      have hs1 := HPR.out.size
      go_wp2_with fail
      go_still_tail 6, hmx
      go_wp2_with fail
      refine (HS1.out _ ?_ ?_ ?_).mono ?_
      · exact hpc
      · exact HG1.out
      · exact HF1.out
      rintro e w2 ⟨rfl, hpa, G1, F1, hg1, hf1, hv1, ho1, ho2⟩
      have HPA1 := hid hpa
      have HG2 := hid hg1
      have HF2 := hid hf1
      have HV1 := hid hv1
      have HO1 := hid ho1
      have HO2 := hid ho2
      have hpc2 := (hpa.cell (p := ⟨b, 0, none⟩) (by show b < w1.heap.size; omega) hbh hbg).trans hpc
      have cd0 := (hpa.cell (p := ⟨w.heap.size, 0, none⟩) (by show w.heap.size < w1.heap.size; omega) n2 n1).trans cc0
      have cd1 := (hpa.cell (p := ⟨w.heap.size, 1, none⟩) (by show w.heap.size < w1.heap.size; omega) n2 n1).trans cc1
      have cd2 := (hpa.cell (p := ⟨w.heap.size, 2, none⟩) (by show w.heap.size < w1.heap.size; omega) n2 n1).trans cc2
      have HOD1 : Hid (∀ j, j < m → G1 (q + m + j) = .int .i64 (Dom.od f j)) := fun j hj => (ho1 (q + m + j) (by omega)).trans (HODD.out j hj)
      have hs2 : w1.heap.size ≤ w2.heap.size := hpa.size
      clear hpa hg1 hf1 hv1 ho1 ho2
      go_wp2_with fail
      go_still_tail 6, hmx
      go_wp2_with fail
      refine (HS2.out G1 F1 _ ?_ ?_ ?_ HOD1.out).mono ?_
      · exact hpc2
      · exact HG2.out
      · exact HF2.out
      rintro e w3 ⟨rfl, hpa, G2, F2, hg1, hf1, hv1, ho1, ho2⟩
      have hs3 : w2.heap.size ≤ w3.heap.size := hpa.size
      have hpc3 := (hpa.cell (p := ⟨b, 0, none⟩) (by show b < w2.heap.size; omega) hbh hbg).trans hpc2
      have ce0 := (hpa.cell (p := ⟨w.heap.size, 0, none⟩) (by show w.heap.size < w2.heap.size; omega) n2 n1).trans cd0
      have HPA2 : Hid (Pair g h w w3) := (HP0.out.trans HPR.out).trans ((HPA1.out.symm.drew2).trans hpa.symm.drew2)
      have HG3 := hid hg1
      have HF3 := hid hf1
      have HX : Hid (∀ j, j < m → G2 (q + j) = .int .i64 (Dom.ft p (Dom.ev f) sq m j)) := fun j hj => (ho1 (q + j) (by omega)).trans (HV1.out j hj)
      have HY : Hid (∀ j, j < m → G2 (q + m + j) = .int .i64 (Dom.ft p (Dom.od f) sq m j)) := hv1
      have HZ : Hid (∀ j, j < q ∨ q + 2 * m ≤ j → G2 j = G j) := fun j hj => (ho1 j (by omega)).trans ((HO1.out j (by omega)).trans (HOUT.out j hj))
      have HW : Hid (∀ j, j < o ∨ o + 2 * m ≤ j → F2 j = F j) := fun j hj => (ho2 j (by omega)).trans (HO2.out j (by omega))
      clear hpa hg1 hf1 hv1 ho1 ho2 cc0 cc1 cc2 cd0 cd1 cd2 hpc hpc2 HS1 HS2 HM HODD HOD1 HV1 HO1 HO2 HPA1 HG2 HF2 HG1 HF1 HPR HOUT HP0 HC0 HC1 HC2 HF0 HG0
      have x0 : (1 : Int) = r ^ 0 % (p : Int) := by rw [Int.pow_zero]; exact (Int.emod_eq_of_lt (by omega) (by omega)).symm
      go_wp2_with fail
      go_loopw [13, 69] (fun xv iv wr => ∃ (k : Nat) (F' : Nat → Value), k ≤ m ∧ iv = .int .i64 k ∧ xv = .int .i64 (r ^ k % (p : Int)) ∧ Hid (wr.rowIs g 3 N1 F') ∧ Hid (wr.rowIs h 3 N2 G2)
          ∧ Hid (∀ j, j < k → F' (o + j) = .int .i64 (Dom.ft p f r (2 * m) j)) ∧ Hid (∀ j, j < k → F' (o + (m + j)) = .int .i64 (Dom.ft p f r (2 * m) (m + j)))
          ∧ Hid (∀ j, j < o ∨ o + 2 * m ≤ j → F' j = F j) ∧ Hid (Pair g h w3 wr))
        (fun _ iv _ => m - (intOf iv).toNat)
      case atStart => exact ⟨0, F2, Nat.zero_le _, rfl, by rw [← x0], HF3, HG3, fun j hj => by omega, fun j hj => by omega, HW.out, Pair.refl _ _ _⟩
      case round =>
        obtain ⟨k, F', hk, rfl, rfl, hF1, hG1, hlo, hhi, hout, hpair⟩ := hrel
        have hpw := (hpair.out.cell (p := ⟨b, 0, none⟩) (by show b < w3.heap.size; omega) hbg hbh).trans hpc3
        have cw0 := (hpair.out.cell (p := ⟨w.heap.size, 0, none⟩) (by show w.heap.size < w3.heap.size; omega) n1 n2).trans ce0
        by_cases hlt : k < m
        · have hlt2 : (k : Int) < (m : Int) := by omega
          have hlt4 : (m : Int) + (k : Int) < 2 * (m : Int) := by omega
          have i3 : ((m : Int) + (k : Int)).toNat = m + k := by omega
          have i4 : IntKind.i64.wrap ((m : Int) + (k : Int)) = (m : Int) + (k : Int) := by rw [IntKind.wrap_i64]; omega
          have i5 : ¬ 2 * (m : Int) ≤ (k : Int) := by omega
          have i6 : ¬ (m : Int) + (k : Int) < 0 := by omega
          have y1 := hG1.out.cell (i := q + k) (by omega)
          rw [HX.out k hlt] at y1
          have y2 := hG1.out.cell (i := q + m + k) (by omega)
          rw [HY.out k hlt] at y2
          have s1 := hF1.out.cell (i := o + k) (by omega)
          have s2 := hF1.out.cell (i := o + (m + k)) (by omega)
          have t1 := hF1.out.frozen (o + k)
          have t2 := hF1.out.frozen (o + (m + k))
          have hne : ¬ o + (m + k) = o + k := by omega
          obtain ⟨xb1, xb2⟩ := emod_bounds (r ^ k) p h3
          have HEX := HFX.out k hlt
          have HOX := HFY.out k hlt
          have HL := hid (HLOW.out k hlt)
          have HH := hid (HHIGH.out k hlt)
          have HXS : Hid (∀ w1 : World, w1.cell? ⟨b, 0, none⟩ = some (.int .i64 p) → Calls Tryd.prog 35 #[.pointer (some ⟨b, 0, none⟩), .int .i64 (r ^ k % (p : Int)), .int .i64 r] w1 fun e w' => e = .returned (.int .i64 (r ^ (k + 1) % (p : Int))) ∧ w' = w1) :=
            fun w1 hc => by
              have := mul_any p b (r ^ k % (p : Int)) r w1 h3 hm hc (by omega) (by omega) (by omega) (by omega)
              rwa [show r ^ k % (p : Int) * r % (p : Int) = r ^ (k + 1) % (p : Int) from by rw [Int.pow_succ, Int.mul_emod, Int.emod_emod_of_dvd _ (Int.dvd_refl _), ← Int.mul_emod]] at this
          obtain ⟨xn, hxn⟩ : ∃ xn, xn = r ^ (k + 1) % (p : Int) := ⟨_, rfl⟩
          have HXN := hid hxn
          rw [← hxn] at HXS
          clear hxn
          generalize r ^ k % (p : Int) = xk at *
          generalize Dom.ft p (Dom.ev f) sq m k = ex at *
          generalize Dom.ft p (Dom.od f) sq m k = ox at *
          have HM2 : Hid (∀ w1 : World, w1.cell? ⟨b, 0, none⟩ = some (.int .i64 p) → Calls Tryd.prog 35 #[.pointer (some ⟨b, 0, none⟩), .int .i64 xk, .int .i64 ox] w1 fun e w' => e = .returned (.int .i64 (xk * ox % (p : Int))) ∧ w' = w1) :=
            fun w1 hc => mul_any p b xk ox w1 h3 hm hc (by omega) (by omega) HOX.1 HOX.2
          obtain ⟨rb1, rb2⟩ := emod_bounds (xk * ox) p h3
          generalize xk * ox % (p : Int) = rest at *
          have HAD : Hid (∀ w1 : World, w1.cell? ⟨b, 0, none⟩ = some (.int .i64 p) → Calls Tryd.prog 51 #[.pointer (some ⟨b, 0, none⟩), .int .i64 ex, .int .i64 rest] w1 fun e w' => e = .returned (.int .i64 ((ex + rest) % (p : Int))) ∧ w' = w1) :=
            fun w1 hc => add_any p b ex rest w1 h3 hm hc HEX.1 HEX.2 (by omega) (by omega)
          have HSU : Hid (∀ w1 : World, w1.cell? ⟨b, 0, none⟩ = some (.int .i64 p) → Calls Tryd.prog 52 #[.pointer (some ⟨b, 0, none⟩), .int .i64 ex, .int .i64 rest] w1 fun e w' => e = .returned (.int .i64 ((ex - rest) % (p : Int))) ∧ w' = w1) :=
            fun w1 hc => sub_any p b ex rest w1 h3 hm hc HEX.1 HEX.2 (by omega) (by omega)
          rw [HL.out] at HAD
          rw [HH.out] at HSU
          go_wp2_with fail
          go_quiet (first
            | (go_at_call 35; exact Calls.quiet_of_same (HM2.out _ hpw)))
          have q1 : (wr.drewN nq).drew.cell? ⟨w.heap.size, 0, none⟩ = some (.pointer (some ⟨b, 0, none⟩)) := cw0
          have q2 : (wr.drewN nq).drew.cell? ⟨h, q + k, none⟩ = some (.int .i64 ex) := y1
          have hpq : (wr.drewN nq).drew.cell? ⟨b, 0, none⟩ = some (.int .i64 p) := hpw
          have v1 : (wr.drewN nq).cell? ⟨g, o + k, none⟩ = some (F' (o + k)) := s1
          have v2 : (wr.drewN nq).cell? ⟨g, o + (m + k), none⟩ = some (F' (o + (m + k))) := s2
          have v3 : (wr.drewN nq).frozen? ⟨g, o + k, none⟩ = false := t1
          have v4 : (wr.drewN nq).frozen? ⟨g, o + (m + k), none⟩ = false := t2
          have HFQ : Hid ((wr.drewN nq).drew.rowIs g 3 N1 F') := hF1
          have HGQ : Hid ((wr.drewN nq).drew.rowIs h 3 N2 G2) := hG1
          have HPQ : Hid (Pair g h w3 (wr.drewN nq).drew) := (hpair.out.drewN nq).drew
          have HLO := hlo
          have HHI := hhi
          have HOU := hout
          generalize F' (o + k) = u1 at v1
          generalize F' (o + (m + k)) = u2 at v2
          clear s1 s2 t1 t2 y1 y2 cw0 hpw hF1 hG1 hpair hlo hhi hout HM2 HL HH
          generalize wr.drewN nq = wq at *
          have hC0 : wq.drew.cell? ⟨w.heap.size, 0, none⟩ = some (.pointer (some ⟨b, 0, none⟩)) ∧ wq.drew.cell? ⟨h, q + k, none⟩ = some (.int .i64 ex) := ⟨q1, q2⟩
          go_wp2_with fail
          refine wp_region_S (C := fun W => W.cell? ⟨w.heap.size, 0, none⟩ = some (.pointer (some ⟨b, 0, none⟩)) ∧ W.cell? ⟨h, q + k, none⟩ = some (.int .i64 ex)) (st := [23, 25]) hmx ?_
          show wpAnyS _ _ _ _ _ _ 26 (Array.replicate 26 false) _ _
          refine wpAnyS_pure (i := 0) (v := .slice (some ⟨g, o, none⟩) (2 * m) c1) rfl (by kernel_rfl) (by kernel_rfl) (by kernel_rfl) (by kernel_rfl) (fun _ _ _ h => h) (Or.inl ⟨by rfl, fun W _ => ?_⟩) (fun _ => hC0) ?_
          · go_simp
          refine wpAnyS_pure (i := 1) (v := .int .i64 k) rfl (by kernel_rfl) (by kernel_rfl) (by kernel_rfl) (by kernel_rfl) (fun _ _ _ h => h) (Or.inl ⟨by rfl, fun W _ => ?_⟩) (fun _ => hC0) ?_
          · go_simp
          refine wpAnyS_pure (i := 2) (v := .slice (some ⟨g, o, none⟩) (2 * m) c1) rfl (by kernel_rfl) (by kernel_rfl) (by kernel_rfl) (by kernel_rfl) (fun _ _ _ h => h) (Or.inl ⟨by rfl, fun W _ => ?_⟩) (fun _ => hC0) ?_
          · go_simp
          refine wpAnyS_pure (i := 3) (v := .int .i64 m) rfl (by kernel_rfl) (by kernel_rfl) (by kernel_rfl) (by kernel_rfl) (fun _ _ _ h => h) (Or.inl ⟨by rfl, fun W _ => ?_⟩) (fun _ => hC0) ?_
          · go_simp
          refine wpAnyS_pure (i := 4) (v := .int .i64 k) rfl (by kernel_rfl) (by kernel_rfl) (by kernel_rfl) (by kernel_rfl) (fun _ _ _ h => h) (Or.inl ⟨by rfl, fun W _ => ?_⟩) (fun _ => hC0) ?_
          · go_simp
          refine wpAnyS_pure (i := 5) (v := .int .i64 ((m : Int) + (k : Int))) rfl (by kernel_rfl) (by kernel_rfl) (by kernel_rfl) (by kernel_rfl) (fun _ _ _ h => h) (Or.inl ⟨by rfl, fun W _ => ?_⟩) (fun _ => hC0) ?_
          · go_simp
          refine wpAnyS_pure (i := 6) (v := .pointer (some ⟨w.heap.size, 0, none⟩)) rfl (by kernel_rfl) (by kernel_rfl) (by kernel_rfl) (by kernel_rfl) (fun _ _ _ h => h) (Or.inl ⟨by rfl, fun W _ => ?_⟩) (fun _ => hC0) ?_
          · go_simp
          refine wpAnyS_take (i := 7) (v := .pointer (some ⟨b, 0, none⟩)) rfl (by kernel_rfl) (by kernel_rfl) (by kernel_rfl) (by kernel_rfl) (by kernel_rfl) (by kernel_rfl) (fun _ _ _ h => h) (Or.inl ⟨by rfl, fun W hC => ?_⟩) hC0 ?_
          · obtain ⟨g1, g2⟩ := hC
            go_simp
          refine wpAnyS_pure (i := 8) (v := .slice (some ⟨h, q, none⟩) m c2) rfl (by kernel_rfl) (by kernel_rfl) (by kernel_rfl) (by kernel_rfl) (fun _ _ _ h => h) (Or.inl ⟨by rfl, fun W _ => ?_⟩) (fun _ => hC0) ?_
          · go_simp
          refine wpAnyS_pure (i := 9) (v := .int .i64 k) rfl (by kernel_rfl) (by kernel_rfl) (by kernel_rfl) (by kernel_rfl) (fun _ _ _ h => h) (Or.inl ⟨by rfl, fun W _ => ?_⟩) (fun _ => hC0) ?_
          · go_simp
          refine wpAnyS_pure (i := 10) (v := .pointer (some ⟨h, q + k, none⟩)) rfl (by kernel_rfl) (by kernel_rfl) (by kernel_rfl) (by kernel_rfl) (fun _ _ _ h => h) (Or.inl ⟨by rfl, fun W _ => ?_⟩) (fun _ => hC0) ?_
          · go_simp
          refine wpAnyS_take (i := 11) (v := .int .i64 ex) rfl (by kernel_rfl) (by kernel_rfl) (by kernel_rfl) (by kernel_rfl) (by kernel_rfl) (by kernel_rfl) (fun _ _ _ h => h) (Or.inl ⟨by rfl, fun W hC => ?_⟩) hC0 ?_
          · obtain ⟨g1, g2⟩ := hC
            go_simp
          refine wpAnyS_pure (i := 12) (v := .int .i64 rest) rfl (by kernel_rfl) (by kernel_rfl) (by kernel_rfl) (by kernel_rfl) (fun _ _ _ h => h) (Or.inl ⟨by rfl, fun W _ => ?_⟩) (fun _ => hC0) ?_
          · go_simp
          refine wpAnyS_pure (i := 14) (v := .pointer (some ⟨w.heap.size, 0, none⟩)) rfl (by kernel_rfl) (by kernel_rfl) (by kernel_rfl) (by kernel_rfl) (fun _ _ _ h => h) (Or.inl ⟨by rfl, fun W _ => ?_⟩) (fun _ => hC0) ?_
          · go_simp
          refine wpAnyS_take (i := 15) (v := .pointer (some ⟨b, 0, none⟩)) rfl (by kernel_rfl) (by kernel_rfl) (by kernel_rfl) (by kernel_rfl) (by kernel_rfl) (by kernel_rfl) (fun _ _ _ h => h) (Or.inl ⟨by rfl, fun W hC => ?_⟩) hC0 ?_
          · obtain ⟨g1, g2⟩ := hC
            go_simp
          refine wpAnyS_pure (i := 16) (v := .slice (some ⟨h, q, none⟩) m c2) rfl (by kernel_rfl) (by kernel_rfl) (by kernel_rfl) (by kernel_rfl) (fun _ _ _ h => h) (Or.inl ⟨by rfl, fun W _ => ?_⟩) (fun _ => hC0) ?_
          · go_simp
          refine wpAnyS_pure (i := 17) (v := .int .i64 k) rfl (by kernel_rfl) (by kernel_rfl) (by kernel_rfl) (by kernel_rfl) (fun _ _ _ h => h) (Or.inl ⟨by rfl, fun W _ => ?_⟩) (fun _ => hC0) ?_
          · go_simp
          refine wpAnyS_pure (i := 18) (v := .pointer (some ⟨h, q + k, none⟩)) rfl (by kernel_rfl) (by kernel_rfl) (by kernel_rfl) (by kernel_rfl) (fun _ _ _ h => h) (Or.inl ⟨by rfl, fun W _ => ?_⟩) (fun _ => hC0) ?_
          · go_simp
          refine wpAnyS_take (i := 19) (v := .int .i64 ex) rfl (by kernel_rfl) (by kernel_rfl) (by kernel_rfl) (by kernel_rfl) (by kernel_rfl) (by kernel_rfl) (fun _ _ _ h => h) (Or.inl ⟨by rfl, fun W hC => ?_⟩) hC0 ?_
          · obtain ⟨g1, g2⟩ := hC
            go_simp
          refine wpAnyS_pure (i := 20) (v := .int .i64 rest) rfl (by kernel_rfl) (by kernel_rfl) (by kernel_rfl) (by kernel_rfl) (fun _ _ _ h => h) (Or.inl ⟨by rfl, fun W _ => ?_⟩) (fun _ => hC0) ?_
          · go_simp
          refine wpAnyS_one (i := 13) (by kernel_rfl) ?_
          refine wpOp_step rfl (fun K' hK' => ?_)
          rw [if_pos (by rfl)]
          go_simp
          refine (HAD.out wq.drew hpq).mono ?_
          rintro e w5 ⟨rfl, rfl⟩
          refine hK' _ _ ⟨fun _ => hC0, ?_⟩
          clear hK' K'
          refine wpAnyS_one (i := 21) (by kernel_rfl) ?_
          refine wpOp_step rfl (fun K' hK' => ?_)
          rw [if_pos (by rfl)]
          go_simp
          refine (HSU.out wq.drew hpq).mono ?_
          rintro e w5 ⟨rfl, rfl⟩
          refine hK' _ _ ⟨fun _ => hC0, ?_⟩
          clear hK' K'
          refine wpAnyS_pure (i := 22) (v := .pointer (some ⟨g, o + k, none⟩)) rfl (by kernel_rfl) (by kernel_rfl) (by kernel_rfl) (by kernel_rfl) (fun _ _ _ h => h) (Or.inl ⟨by rfl, fun W _ => ?_⟩) (fun _ => hC0) ?_
          · go_simp
          refine wpAnyS_one (i := 23) (by kernel_rfl) ?_
          refine wpOp_step rfl (fun K' hK' => ?_)
          rw [if_pos (by rfl)]
          go_simp
          refine hK' _ _ ⟨fun h => absurd (h 23 (by simp)) (by decide), ?_⟩
          clear hK' K'
          refine wpAnyS_pure (i := 24) (v := .pointer (some ⟨g, o + (m + k), none⟩)) rfl (by kernel_rfl) (by kernel_rfl) (by kernel_rfl) (by kernel_rfl) (fun _ _ _ h => h) (Or.inl ⟨by rfl, fun W _ => ?_⟩) (fun h => absurd (h 23 (by simp)) (by decide)) ?_
          · go_simp
          refine wpAnyS_one (i := 25) (by kernel_rfl) ?_
          refine wpOp_step rfl (fun K' hK' => ?_)
          rw [if_pos (by rfl)]
          go_simp
          refine hK' _ _ ⟨fun h => absurd (h 23 (by simp)) (by decide), ?_⟩
          clear hK' K'
          refine wpAnyS_done (by kernel_rfl) ?_ _
          generalize hlok : Dom.ft p f r (2 * m) k = lo at *
          generalize hhik : Dom.ft p f r (2 * m) (m + k) = hi at *
          have HFN : Hid (((wq.setCell ⟨g, o + k, none⟩ (.int .i64 lo)).setCell ⟨g, o + (m + k), none⟩ (.int .i64 hi)).drew.rowIs g 3 N1 (up2 F' (o + k) (.int .i64 lo) (o + (m + k)) (.int .i64 hi))) := rowIs_two (w := wq.drew) HFQ.out _ _ _ _
          have HGN : Hid (((wq.setCell ⟨g, o + k, none⟩ (.int .i64 lo)).setCell ⟨g, o + (m + k), none⟩ (.int .i64 hi)).drew.rowIs h 3 N2 G2) := (HGQ.out.setOther (a := ⟨g, o + k, none⟩) hgh.symm _).setOther (a := ⟨g, o + (m + k), none⟩) hgh.symm _
          have HPN : Hid (Pair g h w3 ((wq.setCell ⟨g, o + k, none⟩ (.int .i64 lo)).setCell ⟨g, o + (m + k), none⟩ (.int .i64 hi)).drew) := (HPQ.out.setCell (p := ⟨g, o + k, none⟩) (.inl rfl) _).setCell (p := ⟨g, o + (m + k), none⟩) (.inl rfl) _
          have HPC : Hid (((wq.setCell ⟨g, o + k, none⟩ (.int .i64 lo)).setCell ⟨g, o + (m + k), none⟩ (.int .i64 hi)).drew.cell? ⟨b, 0, none⟩ = some (.int .i64 p)) := (HPN.out.cell (p := ⟨b, 0, none⟩) (by show b < w3.heap.size; omega) hbg hbh).trans hpc3
          have HCC : ((wq.setCell ⟨g, o + k, none⟩ (.int .i64 lo)).setCell ⟨g, o + (m + k), none⟩ (.int .i64 hi)).cell? ⟨w.heap.size, 0, none⟩ = some (.pointer (some ⟨b, 0, none⟩)) := (HPN.out.cell (p := ⟨w.heap.size, 0, none⟩) (by show w.heap.size < w3.heap.size; omega) n1 n2).trans ce0
          have HLN : Hid (∀ j, j < k + 1 → up2 F' (o + k) (.int .i64 lo) (o + (m + k)) (.int .i64 hi) (o + j) = .int .i64 (Dom.ft p f r (2 * m) j)) := fun j hj => by
            unfold up2
            rw [if_neg (by omega)]
            by_cases e : j = k
            · rw [if_pos (by omega), e, hlok]
            · rw [if_neg (by omega)]; exact HLO.out j (by omega)
          have HHN : Hid (∀ j, j < k + 1 → up2 F' (o + k) (.int .i64 lo) (o + (m + k)) (.int .i64 hi) (o + (m + j)) = .int .i64 (Dom.ft p f r (2 * m) (m + j))) := fun j hj => by
            unfold up2
            by_cases e : j = k
            · rw [if_pos (by omega), e, hhik]
            · rw [if_neg (by omega), if_neg (by omega)]; exact HHI.out j (by omega)
          have HON : Hid (∀ j, j < o ∨ o + 2 * m ≤ j → up2 F' (o + k) (.int .i64 lo) (o + (m + k)) (.int .i64 hi) j = F j) := fun j hj => by
            unfold up2
            rw [if_neg (by omega), if_neg (by omega)]; exact HOU.out j hj
          clear hlok hhik i4 i5 i6 i3
          go_wp2_with fail
          refine (HXS.out _ HPC.out).mono ?_
          rintro e w6 ⟨rfl, rfl⟩
          clear hlt4 HEX HOX xb1 xb2 rb1 rb2 q1 q2 v1 v2 v3 v4 hpq hne sl1 sl2 sl3 x0 e1 e2
          have i7 : IntKind.i64.wrap ((k : Int) + 1) = (k : Int) + 1 := by rw [IntKind.wrap_i64]; omega
          go_wp2_with fail
          go_roundw
          case rel => exact ⟨k + 1, _, by omega, by go_num, by rw [HXN.out], HFN, HGN, HLN, HHN, HON, HPN⟩
          case measure => simp [intOf]; omega
        · have hlt2 : ¬ (k : Int) < (m : Int) := by omega
          have HPE : Hid (Pair g h w wr) := HPA2.out.trans hpair.out
          have HFE : Hid (∀ j, j < 2 * m → F' (o + j) = .int .i64 (Dom.ft p f r (2 * m) j)) := fun j hj => by
            by_cases hjm : j < m
            · exact hlo.out j (by omega)
            · have := hhi.out (j - m) (by omega)
              rwa [show m + (j - m) = j from by omega] at this
          go_wp2_with fail
          go_end0
          exact ⟨rfl, HPE.out, F', hF1.out, G2, hG1.out, HFE.out, hout.out, HZ.out⟩

theorem spread_all (p b : Nat) (hpr : Num.Prime p) (h3 : 3 ≤ p) (hm : p ≤ 2147483647) : ∀ k, k ≤ 16 → SpreadAt p b (2 ^ k)
  | 0, _ => spread_one p b
  | k + 1, hk => by
    have := spread_step p b (2 ^ k) hpr h3 hm (Nat.pow_pos (by decide)) (Nat.le_trans (Nat.pow_le_pow_right (by decide) (show k ≤ 16 by omega)) (by decide)) (spread_all p b hpr h3 hm k (by omega))
    rwa [show 2 ^ (k + 1) = 2 * 2 ^ k from by rw [Nat.pow_succ]; omega]

end Go.Proofs.YtmmlphdekeflfaaDoor

namespace Go.Proofs.YtmmlphdekeflfaaDoor
open Go.RowKit

end Go.Proofs.YtmmlphdekeflfaaDoor

namespace Go.Proofs.YtmmlphdekeflfaaDoor
open Go.RowKit

theorem evz_pt (p : Nat) (hp : 0 < p) (zs : List Int) (s r : Int) (j : Nat) : Pol.ps (zat zs) (s * r ^ j) zs.length % (p : Int) = evz p zs (Dom.pt p s r j) := by
  unfold evz Dom.pt
  rw [Pol.emod_eq_iff hp]
  exact Dom.ps_point (zat zs) (by have := Int.dvd_neg.2 (Pol.emod_dvd p (s * r ^ j)); rwa [Int.neg_sub] at this) _

end Go.Proofs.YtmmlphdekeflfaaDoor

namespace Go.Proofs.YtmmlphdekeflfaaDoor
open Go.RowKit

theorem rowIs_of_owns {w : World} {base : Nat} {v : Value} {zs : List Int} (h : w.ownsRow base 3 1 v zs.length (zs.map (Value.int .i64))) (h0 : 0 < zs.length) :
    ∃ (g N : Nat) (F : Nat → Value), v = .slice (some ⟨g, 0, none⟩) zs.length N ∧ base ≤ g ∧ w.rowIs g 3 N F ∧ zs.length ≤ N ∧ ∀ j, j < zs.length → F j = .int .i64 (zat zs j) := by
  rcases h.2 with ⟨_, h2⟩ | ⟨g, cap, cur, hv, hb, hg, hn, _, hs, ht⟩
  · omega
  · refine ⟨g, cap, fun j => cur.getD j (.int .i64 0), hv, hb, ⟨cur, hg, by omega, fun i hi => ?_⟩, hn, fun j hj => ?_⟩
    · simp [show i < cur.size by omega]
    · have e : (cur.toList.take (zs.length * 1))[j]? = (zs.map (Value.int .i64))[j]? := by rw [ht]
      rw [List.getElem?_take, if_pos (by omega)] at e
      simp [hj, show j < cur.size by omega, zat] at e ⊢
      exact e

set_option maxRecDepth 100000 in
set_option maxHeartbeats 1000000 in
theorem clone_any (a : Option Addr) (cap : Nat) (zs : List Int) (w : World) (h0 : 0 < zs.length) (hlen : zs.length ≤ 17592186044416) (hl : Lst w.heap.size w a cap zs) :
    Calls Tryd.prog 32 #[.slice a zs.length cap] w fun e w' => ∃ (g N : Nat) (F : Nat → Value),
      e = .returned (.slice (some ⟨g, 0, none⟩) zs.length N) ∧ w.heap.size ≤ g ∧ w'.rowIs g 3 N F ∧ zs.length ≤ N ∧ (∀ j, j < zs.length → F j = .int .i64 (zat zs j)) ∧ Below w.heap.size w w' := by
  obtain ⟨i0, hi, hz0, hz1, hz2⟩ := info_parts Tryd.infoInt
  obtain ⟨b, off, rfl, _, _⟩ := hl.row 0 h0
  have HL := hid hl
  have hown : (w.alloc (.cells #[] 3)).ownsRow w.heap.size 3 1 (.slice (some ⟨w.heap.size, 0, none⟩) 0 0) 0 [] := World.ownsRow_made (size := 1) w #[] 0 (Nat.le_refl _) (by unfold maxLen; omega) (by simp)
  have hb0 : Below w.heap.size w (w.alloc (.cells #[] 3)) := (Below.refl _ _).alloc (Nat.le_refl _) _
  have q22 : ∀ (w : World) (a : Option Addr) (n c n' c' : Nat), (binOp .eql 27 (.slice a n c) (.slice none n' c')).run Tryd.prog w = .ok (.bool a.isNone) w := fun w a n c n' c' => Lib.run_eql_slice_nil w _ _ a n c n' c' Tryd.underlying27
  clear hl
  go_enter Tryd.func32, Tryd.ntmps32
  go_wp2_with (at_builtin; refine wpList_append_own _ rfl _ _ 27 rfl w.heap.size 3 i0 (.int .i64 0) 1 8 Tryd.underlying27 hi hz0 hz1 hz2 rfl (by decide) _ _ _ rfl hown ⟨b, off, none⟩ zs.length cap (zs.map (Value.int .i64)) rfl (by simp) ?q1 ?q2 (by unfold maxLen; omega) (by omega) (by simp) ?_)
  case q1 =>
    intro j u hu
    have hj : j < zs.length := by
      rcases Nat.lt_or_ge j zs.length with g | g
      · exact g
      · simp [g] at hu
    obtain ⟨b', off', h1, h2, h5⟩ := HL.out.row j hj
    cases h1
    have hadd : (⟨b, off, none⟩ : Addr).add j = ⟨b, off + j, none⟩ := by unfold Addr.add; split <;> simp_all
    rw [hadd, World.cell?_alloc_lt _ _ ⟨b, off + j, none⟩ h2]
    refine h5.trans ?_
    simp [zat, hj] at hu ⊢
    exact hu
  case q2 => intro u hu; obtain ⟨y, _, rfl⟩ := List.mem_map.1 hu; rfl
  intro v' w2 hown2 hgrow _
  have hb2 : Below w.heap.size w w2 := hb0.grown hgrow (by simp) (fun k hk => (hown.lt k hk).1)
  obtain ⟨g, N, F, rfl, h1, h2, h3, h4⟩ := rowIs_of_owns hown2 h0
  have H1 := hid (And.intro h1 (And.intro h2 (And.intro h3 (And.intro h4 hb2))))
  clear h1 h2 h3 h4 hb2 hown2 hgrow hown hb0
  go_wp2_with fail
  go_ret
  exact ⟨g, N, F, rfl, H1.out.1, H1.out.2.1, H1.out.2.2.1, H1.out.2.2.2.1, H1.out.2.2.2.2⟩

end Go.Proofs.YtmmlphdekeflfaaDoor

namespace Go.Proofs.YtmmlphdekeflfaaDoor
open Go.RowKit

theorem inv_dvd_one {p : Nat} (hp : Num.Prime p) (h3 : 3 ≤ p) {z : Int} (h : ¬ (p : Int) ∣ z) : (p : Int) ∣ (invn p z : Int) * z - 1 := by
  have hz : z % (p : Int) ≠ 0 := fun e => h (Int.dvd_of_emod_eq_zero e)
  have h1 : 0 < el p z := by have := (emod_bounds z p h3).1; unfold el; omega
  have h2 := el_lt p z h3
  have key : invn p z * el p z % p = 1 := by
    unfold invn
    have : el p z = Num.pwm p (el p z) 1 := (Num.pwm_one p _ h2).symm
    rw [show Num.pwm p (el p z) (p - 2) * el p z = Num.pwm p (el p z) (p - 2) * Num.pwm p (el p z) 1 from by rw [← this], Num.pwm_add, show p - 2 + 1 = p - 1 from by omega]
    exact Num.pwm_fermat hp h1 h2
  have e1 := el_cast p z h3
  have d1 : (p : Int) ∣ ((invn p z * el p z : Nat) : Int) - 1 := by
    have hm := Nat.div_add_mod (invn p z * el p z) p
    rw [key] at hm
    obtain ⟨k, hk⟩ : ∃ k, p * k + 1 = invn p z * el p z := ⟨_, hm⟩
    rw [← hk]
    exact ⟨(k : Int), by push_cast; omega⟩
  have d2 : (p : Int) ∣ (invn p z : Int) * (z % (p : Int) - z) := Int.dvd_mul_of_dvd_right (Pol.emod_dvd p z)
  have := Int.dvd_sub d1 d2
  rw [show ((invn p z * el p z : Nat) : Int) - 1 - (invn p z : Int) * (z % (p : Int) - z) = (invn p z : Int) * z - 1 from by push_cast; rw [e1]; grind] at this
  exact this

/-- the polynomial's places ahead of Trim -/
def coefs (p : Nat) (zs : List Int) (n : Nat) (v m t : Int) : Nat → Int := fun j => Dom.ft p (zat zs) v n j * (m * t ^ j % (p : Int)) % (p : Int)

set_option maxRecDepth 1000000 in
set_option maxHeartbeats 1600000 in
theorem coef_any (p b d k n cap : Nat) (r s : Int) (a : Option Addr) (zs : List Int) (w : World) (hpr : Num.Prime p) (h3 : 3 ≤ p) (hm : p ≤ 2147483647) (hp : w.cell? ⟨b, 0, none⟩ = some (.int .i64 p)) (hd : DomAt w d b n r s)
    (hk : k ≤ 16) (hn : n = 2 ^ k) (hr0 : 0 ≤ r) (hr1 : r < p) (hord : Dom.Ord p r n) (hs0 : 0 ≤ s) (hs1 : s < p) (hlen : zs.length = n) (hfit : Fits zs) (hl : Lst w.heap.size w a cap zs) :
    Calls Tryd.prog 16 #[.pointer (some ⟨d, 0, none⟩), .slice a n cap] w fun e w' =>
      ∃ (g c : Nat), e = .returned (.tuple #[.slice (some ⟨g, 0, none⟩) (Pol.trim p (ls (coefs p zs n (invn p r) (invn p n) (invn p s)) n)).length c, .nilIface]) ∧
        Lst w'.heap.size w' (some ⟨g, 0, none⟩) c (Pol.trim p (ls (coefs p zs n (invn p r) (invn p n) (invn p s)) n)) ∧ Below w.heap.size w w' := by
  have hbl : b < w.heap.size := by
    rcases Nat.lt_or_ge b w.heap.size with g | g
    · exact g
    · simp [World.cell?, Array.getElem?_eq_none g] at hp
  have hdl := hd.lt
  have hn0 : 0 < n := hn ▸ Nat.pow_pos (by decide)
  have hn1 : n ≤ 65536 := hn ▸ Nat.le_trans (Nat.pow_le_pow_right (by decide) hk) (by decide)
  have HCL := hid (clone_any a cap zs w (by omega) (by omega) hl)
  have HSP := hid (hn ▸ spread_all p b hpr h3 hm k hk : SpreadAt p b n)
  have HO := hid hord
  have HD := hid hd
  have HF := hid hfit
  have hb : ((n : Int) != (n : Int)) = false := by simp
  rw [hlen] at HCL
  have HLEN := hid hlen
  obtain ⟨c0, c1, c2, c3⟩ := hd
  have hmk := fun n h1 h2 w => run_make_row' (P := Tryd.prog) 27 3 (.int .i64 0) 8 Tryd.underlying27 Tryd.infoInt rfl .i64 .i64 n h1 h2 w
  have hmk2 := hmk n (by omega) (by omega)
  clear hmk hfit hord hn hl hlen
  have hmx : Tryd.prog.follows .mixedOrders = true := by kernel_rfl
  go_enter Tryd.func16, Tryd.ntmps16
  go_wp2_with fail
  refine HCL.out.mono ?_
  rintro e w1 ⟨g, N, F, rfl, hg, hri, hN, hFv, hb1⟩
  have HRI := hid hri
  have HB1 := hid hb1
  have HFV := hid hFv
  have hgl := hri.lt
  have hs1x := hb1.size
  have x0 := (hb1.cell (p := ⟨d, 0, none⟩) hdl).trans c0
  have x1 := (hb1.cell (p := ⟨d, 1, none⟩) hdl).trans c1
  have x2 := (hb1.cell (p := ⟨d, 2, none⟩) hdl).trans c2
  have x3 := (hb1.cell (p := ⟨d, 3, none⟩) hdl).trans c3
  have hpc := (hb1.cell (p := ⟨b, 0, none⟩) hbl).trans hp
  clear hri hb1 hFv
  go_wp2_with fail
  have hC0 : w1.drew.cell? ⟨d, 0, none⟩ = some (.pointer (some ⟨b, 0, none⟩)) ∧ w1.drew.cell? ⟨d, 1, none⟩ = some (.int .i64 n) ∧ w1.drew.cell? ⟨d, 2, none⟩ = some (.int .i64 r) := ⟨x0, x1, x2⟩
  have hBW : Below w1.heap.size w1 (w1.alloc (.cells (madeCells #[.int .i64 0] n) 3)).drew := ((Below.refl _ _).alloc (Nat.le_refl _) _).drew
  have hd1 : d < w1.heap.size := by omega
  have hC1 : (w1.alloc (.cells (madeCells #[.int .i64 0] n) 3)).drew.cell? ⟨d, 0, none⟩ = some (.pointer (some ⟨b, 0, none⟩)) ∧ (w1.alloc (.cells (madeCells #[.int .i64 0] n) 3)).drew.cell? ⟨d, 1, none⟩ = some (.int .i64 n) ∧ (w1.alloc (.cells (madeCells #[.int .i64 0] n) 3)).drew.cell? ⟨d, 2, none⟩ = some (.int .i64 r) :=
    ⟨(hBW.cell (p := ⟨d, 0, none⟩) hd1).trans x0, (hBW.cell (p := ⟨d, 1, none⟩) hd1).trans x1, (hBW.cell (p := ⟨d, 2, none⟩) hd1).trans x2⟩
  have hpW : (w1.alloc (.cells (madeCells #[.int .i64 0] n) 3)).drew.cell? ⟨b, 0, none⟩ = some (.int .i64 p) := (hBW.cell (p := ⟨b, 0, none⟩) (show b < w1.heap.size by omega)).trans hpc
  have hpD : w1.drew.cell? ⟨b, 0, none⟩ = some (.int .i64 p) := hpc
  have hsW : (w1.alloc (.cells (madeCells #[.int .i64 0] n) 3)).drew.heap.size = w1.heap.size + 1 := by
    show (w1.alloc (.cells (madeCells #[.int .i64 0] n) 3)).heap.size = _
    simp
  have HBW := hid hBW
  have HIX : ∀ (x : Int), -9223372036854775808 ≤ x → x ≤ 9223372036854775807 → Hid (∀ w1 : World, w1.cell? ⟨b, 0, none⟩ = some (.int .i64 p) → Calls Tryd.prog 34 #[.pointer (some ⟨b, 0, none⟩), .int .i64 x] w1 fun e w' => e = .returned (.int .i64 (invn p x)) ∧ w' = w1) :=
    fun x h1 h2 w1 hc => by have := inv_any p b x w1 h3 hm hc h1 h2; rwa [inv_ref p x hpr h3] at this
  have HIR := HIX r (by omega) (by omega)
  have HIN := HIX (n : Int) (by omega) (by omega)
  have HIS := HIX s (by omega) (by omega)
  have hvr := invn_lt p r h3
  have hvn := invn_lt p (n : Int) h3
  have hvs := invn_lt p s h3
  have hmade : (w1.alloc (.cells (madeCells #[.int .i64 0] n) 3)).drew.rowIs w1.heap.size 3 n (fun _ => .int .i64 0) := (World.rowIs_made w1 _ n _).drew
  have hcall := HSP.out n r (invn p r) g w1.heap.size 0 0 N n N n F (fun _ => .int .i64 0) (zat zs) (w1.alloc (.cells (madeCells #[.int .i64 0] n) 3)).drew hpW (by omega) (by omega) (by omega) (HRI.out.alloc _).drew hmade (by omega) (by omega) (by omega) (Nat.le_refl _) (by omega) (by omega)
    (HO.out.inv (inv_dvd_one hpr h3 (HO.out.nd hpr))) (fun j hj => by rw [Nat.zero_add]; exact HFV.out j (by have := HLEN.out; omega)) (fun j hj => HF.out j (by have := HLEN.out; omega))
  have HCALL := hid hcall
  clear hcall hmade hBW HIX
  refine wp_region_S (C := fun W => W.cell? ⟨d, 0, none⟩ = some (.pointer (some ⟨b, 0, none⟩)) ∧ W.cell? ⟨d, 1, none⟩ = some (.int .i64 n) ∧ W.cell? ⟨d, 2, none⟩ = some (.int .i64 r)) (st := [22]) hmx ?_
  show wpAnyS _ _ _ _ _ _ 23 (Array.replicate 23 false) _ _
  refine wpAnyS_pure (i := 0) (v := .pointer (some ⟨d, 0, none⟩)) rfl (by kernel_rfl) (by kernel_rfl) (by kernel_rfl) (by kernel_rfl) (fun _ _ _ h => h) (Or.inl ⟨by rfl, fun W _ => ?_⟩) (fun _ => hC0) ?_
  · go_simp
  refine wpAnyS_pure (i := 1) (v := .pointer (some ⟨d, 0, none⟩)) rfl (by kernel_rfl) (by kernel_rfl) (by kernel_rfl) (by kernel_rfl) (fun _ _ _ h => h) (Or.inl ⟨by rfl, fun W _ => ?_⟩) (fun _ => hC0) ?_
  · go_simp
  refine wpAnyS_pure (i := 2) (v := .pointer (some ⟨d, 0, none⟩)) rfl (by kernel_rfl) (by kernel_rfl) (by kernel_rfl) (by kernel_rfl) (fun _ _ _ h => h) (Or.inl ⟨by rfl, fun W _ => ?_⟩) (fun _ => hC0) ?_
  · go_simp
  refine wpAnyS_take (i := 3) (v := .agg #[.pointer (some ⟨b, 0, none⟩), .int .i64 n, .int .i64 r]) rfl (by kernel_rfl) (by kernel_rfl) (by kernel_rfl) (by kernel_rfl) (by kernel_rfl) (by kernel_rfl) (fun _ _ _ h => h) (Or.inl ⟨by rfl, fun W hC => ?_⟩) hC0 ?_
  · obtain ⟨g0, g1, g2⟩ := hC
    go_simp
  refine wpAnyS_pure (i := 4) (v := .slice (some ⟨g, 0, none⟩) n N) rfl (by kernel_rfl) (by kernel_rfl) (by kernel_rfl) (by kernel_rfl) (fun _ _ _ h => h) (Or.inl ⟨by rfl, fun W _ => ?_⟩) (fun _ => hC0) ?_
  · go_simp
  refine wpAnyS_pure (i := 5) (v := .pointer (some ⟨d, 0, none⟩)) rfl (by kernel_rfl) (by kernel_rfl) (by kernel_rfl) (by kernel_rfl) (fun _ _ _ h => h) (Or.inl ⟨by rfl, fun W _ => ?_⟩) (fun _ => hC0) ?_
  · go_simp
  refine wpAnyS_pure (i := 6) (v := .pointer (some ⟨d, 0, none⟩)) rfl (by kernel_rfl) (by kernel_rfl) (by kernel_rfl) (by kernel_rfl) (fun _ _ _ h => h) (Or.inl ⟨by rfl, fun W _ => ?_⟩) (fun _ => hC0) ?_
  · go_simp
  refine wpAnyS_pure (i := 7) (v := .pointer (some ⟨d, 0, none⟩)) rfl (by kernel_rfl) (by kernel_rfl) (by kernel_rfl) (by kernel_rfl) (fun _ _ _ h => h) (Or.inl ⟨by rfl, fun W _ => ?_⟩) (fun _ => hC0) ?_
  · go_simp
  refine wpAnyS_pure (i := 8) (v := .pointer (some ⟨d, 1, none⟩)) rfl (by kernel_rfl) (by kernel_rfl) (by kernel_rfl) (by kernel_rfl) (fun _ _ _ h => h) (Or.inl ⟨by rfl, fun W _ => ?_⟩) (fun _ => hC0) ?_
  · go_simp
  refine wpAnyS_take (i := 9) (v := .int .i64 n) rfl (by kernel_rfl) (by kernel_rfl) (by kernel_rfl) (by kernel_rfl) (by kernel_rfl) (by kernel_rfl) (fun _ _ _ h => h) (Or.inl ⟨by rfl, fun W hC => ?_⟩) hC0 ?_
  · obtain ⟨g0, g1, g2⟩ := hC
    go_simp
  refine wpAnyS_pure (i := 11) (v := .pointer (some ⟨d, 0, none⟩)) rfl (by kernel_rfl) (by kernel_rfl) (by kernel_rfl) (by kernel_rfl) (fun _ _ _ h => h) (Or.inl ⟨by rfl, fun W _ => ?_⟩) (fun _ => hC0) ?_
  · go_simp
  refine wpAnyS_pure (i := 12) (v := .pointer (some ⟨d, 0, none⟩)) rfl (by kernel_rfl) (by kernel_rfl) (by kernel_rfl) (by kernel_rfl) (fun _ _ _ h => h) (Or.inl ⟨by rfl, fun W _ => ?_⟩) (fun _ => hC0) ?_
  · go_simp
  refine wpAnyS_pure (i := 13) (v := .pointer (some ⟨d, 0, none⟩)) rfl (by kernel_rfl) (by kernel_rfl) (by kernel_rfl) (by kernel_rfl) (fun _ _ _ h => h) (Or.inl ⟨by rfl, fun W _ => ?_⟩) (fun _ => hC0) ?_
  · go_simp
  refine wpAnyS_pure (i := 14) (v := .pointer (some ⟨d, 0, none⟩)) rfl (by kernel_rfl) (by kernel_rfl) (by kernel_rfl) (by kernel_rfl) (fun _ _ _ h => h) (Or.inl ⟨by rfl, fun W _ => ?_⟩) (fun _ => hC0) ?_
  · go_simp
  refine wpAnyS_take (i := 15) (v := .pointer (some ⟨b, 0, none⟩)) rfl (by kernel_rfl) (by kernel_rfl) (by kernel_rfl) (by kernel_rfl) (by kernel_rfl) (by kernel_rfl) (fun _ _ _ h => h) (Or.inl ⟨by rfl, fun W hC => ?_⟩) hC0 ?_
  · obtain ⟨g0, g1, g2⟩ := hC
    go_simp
  refine wpAnyS_pure (i := 16) (v := .pointer (some ⟨d, 0, none⟩)) rfl (by kernel_rfl) (by kernel_rfl) (by kernel_rfl) (by kernel_rfl) (fun _ _ _ h => h) (Or.inl ⟨by rfl, fun W _ => ?_⟩) (fun _ => hC0) ?_
  · go_simp
  refine wpAnyS_pure (i := 17) (v := .pointer (some ⟨d, 0, none⟩)) rfl (by kernel_rfl) (by kernel_rfl) (by kernel_rfl) (by kernel_rfl) (fun _ _ _ h => h) (Or.inl ⟨by rfl, fun W _ => ?_⟩) (fun _ => hC0) ?_
  · go_simp
  refine wpAnyS_pure (i := 18) (v := .pointer (some ⟨d, 0, none⟩)) rfl (by kernel_rfl) (by kernel_rfl) (by kernel_rfl) (by kernel_rfl) (fun _ _ _ h => h) (Or.inl ⟨by rfl, fun W _ => ?_⟩) (fun _ => hC0) ?_
  · go_simp
  refine wpAnyS_pure (i := 19) (v := .pointer (some ⟨d, 2, none⟩)) rfl (by kernel_rfl) (by kernel_rfl) (by kernel_rfl) (by kernel_rfl) (fun _ _ _ h => h) (Or.inl ⟨by rfl, fun W _ => ?_⟩) (fun _ => hC0) ?_
  · go_simp
  refine wpAnyS_take (i := 20) (v := .int .i64 r) rfl (by kernel_rfl) (by kernel_rfl) (by kernel_rfl) (by kernel_rfl) (by kernel_rfl) (by kernel_rfl) (fun _ _ _ h => h) (Or.inl ⟨by rfl, fun W hC => ?_⟩) hC0 ?_
  · obtain ⟨g0, g1, g2⟩ := hC
    go_simp
  refine wpAnyS_two (i := 10) (j := 21) (by kernel_rfl) ?one ?two
  case' one =>
    refine wpOp_step rfl (fun K' hK' => ?_)
    rw [if_pos (by rfl)]
    go_simp
    refine hK' _ _ ⟨fun _ => hC1, ?_⟩
    clear hK' K'
    refine wpAnyS_one (i := 21) (by kernel_rfl) ?_
    refine wpOp_step rfl (fun K' hK' => ?_)
    rw [if_pos (by rfl)]
    go_simp
    refine (HIR.out _ hpW).mono ?_
    rintro e w5 ⟨rfl, rfl⟩
    refine hK' _ _ ⟨fun _ => hC1, ?_⟩
    clear hK' K'
  case' two =>
    refine wpOp_step rfl (fun K' hK' => ?_)
    rw [if_pos (by rfl)]
    go_simp
    refine (HIR.out w1.drew hpD).mono ?_
    rintro e w5 ⟨rfl, rfl⟩
    refine hK' _ _ ⟨fun _ => hC0, ?_⟩
    clear hK' K'
    refine wpAnyS_one (i := 10) (by kernel_rfl) ?_
    refine wpOp_step rfl (fun K' hK' => ?_)
    rw [if_pos (by rfl)]
    go_simp
    refine hK' _ _ ⟨fun _ => hC1, ?_⟩
    clear hK' K'
  all_goals
    refine wpAnyS_one (i := 22) (by kernel_rfl) ?_
    refine wpOp_step rfl (fun K' hK' => ?_)
    rw [if_pos (by rfl)]
    go_simp
    refine HCALL.out.mono ?_
    rintro e w3 ⟨rfl, hpa, F', G', hF', hG', hv, _, _⟩
    refine hK' _ _ ⟨fun h => absurd (h 22 (by simp)) (by decide), ?_⟩
    clear hK' K'
    refine wpAnyS_done (by kernel_rfl) ?_ _
    have hsz3 := hpa.size
    rw [hsW] at hsz3
    have HB3 : Hid (Below w.heap.size w w3) := (HB1.out.trans (HBW.out.mono (by omega))).trans (hpa.below (by rw [hsW]; omega) hg (by omega))
    have HF3 := hid hF'
    have HV3 : Hid (∀ j, j < n → F' j = .int .i64 (Dom.ft p (zat zs) (invn p r) n j)) := fun j hj => by have := hv j hj; rwa [Nat.zero_add] at this
    have y0 := (HB3.out.cell (p := ⟨d, 0, none⟩) hdl).trans c0
    have y1 := (HB3.out.cell (p := ⟨d, 1, none⟩) hdl).trans c1
    have y3 := (HB3.out.cell (p := ⟨d, 3, none⟩) hdl).trans c3
    have hpc3 := (HB3.out.cell (p := ⟨b, 0, none⟩) hbl).trans hp
    clear hpa hF' hG' hv HCALL hC0 hC1 x0 x1 x2 x3 hpc hpW hpD HRI HFV HBW HB1
    go_wp2_with fail
    go_quiet (first
      | (go_at_call_of 34 (Value.int IntKind.i64 (n : Int)); exact Calls.quiet_of_same (HIN.out _ hpc3))
      | (go_at_call_of 34 (Value.int IntKind.i64 s); exact Calls.quiet_of_same (HIS.out _ hpc3)))
    go_wp2_with fail
    have HB4 : Hid (Below w.heap.size w (w3.drewN nq)) := below_drewN HB3.out nq
    have HF4 : Hid ((w3.drewN nq).rowIs g 3 N F') := HF3
    have hsc0 : Hid (((invn p (n : Int) : Nat) : Int) = (invn p (n : Int) : Int) * (invn p s : Int) ^ 0 % (p : Int)) := by
      unfold Hid
      rw [Int.pow_zero, Int.mul_one]; exact (Int.emod_eq_of_lt (by omega) (by omega)).symm
    have HVF : Hid (∀ j, j < n → -9223372036854775808 ≤ Dom.ft p (zat zs) (invn p r) n j ∧ Dom.ft p (zat zs) (invn p r) n j ≤ 9223372036854775807) := ft_fits h3 hm (fun j hj => HF.out j (by have := HLEN.out; omega))
    clear HB3 HF3 y0 y1 y3 hpc3 HIR HIN HIS
    generalize w3.drewN nq = W4 at *
    go_loopw [7, 67] (fun xv iv wr => ∃ (i : Nat) (Fi : Nat → Value), i ≤ n ∧ iv = .int .i64 i ∧ xv = .int .i64 ((invn p (n : Int) : Int) * (invn p s : Int) ^ i % (p : Int)) ∧ Hid (wr.rowIs g 3 N Fi)
        ∧ Hid (∀ j, j < i → Fi j = .int .i64 (coefs p zs n (invn p r) (invn p n) (invn p s) j)) ∧ Hid (∀ j, i ≤ j → j < n → Fi j = .int .i64 (Dom.ft p (zat zs) (invn p r) n j)) ∧ Hid (Below w.heap.size w wr))
      (fun _ iv _ => n - (intOf iv).toNat)
    case atStart => exact ⟨0, F', Nat.zero_le _, rfl, by rw [← hsc0.out], HF4, fun j hj => by omega, fun j _ hj => HV3.out j hj, HB4⟩
    case round =>
      obtain ⟨i, Fi, hi, rfl, rfl, hri, hlo, hhi, hbel⟩ := hrel
      have y0 := (hbel.out.cell (p := ⟨d, 0, none⟩) hdl).trans c0
      have hpc := (hbel.out.cell (p := ⟨b, 0, none⟩) hbl).trans hp
      by_cases hlt : i < n
      · have hlt2 : (i : Int) < (n : Int) := by omega
        have hok := hri.out.cell (i := i) (by omega)
        rw [hhi.out i (Nat.le_refl _) hlt] at hok
        have hos := hri.out.frozen i
        obtain ⟨qb1, qb2⟩ := emod_bounds ((invn p (n : Int) : Int) * (invn p s : Int) ^ i) p h3
        have HVI := HVF.out i hlt
        have HC : Hid (Dom.ft p (zat zs) (invn p r) n i * ((invn p (n : Int) : Int) * (invn p s : Int) ^ i % (p : Int)) % (p : Int) = coefs p zs n (invn p r) (invn p n) (invn p s) i) := rfl
        have HM : Hid (∀ w1 : World, w1.cell? ⟨b, 0, none⟩ = some (.int .i64 p) → Calls Tryd.prog 35 #[.pointer (some ⟨b, 0, none⟩), .int .i64 (Dom.ft p (zat zs) (invn p r) n i), .int .i64 ((invn p (n : Int) : Int) * (invn p s : Int) ^ i % (p : Int))] w1 fun e w' => e = .returned (.int .i64 (coefs p zs n (invn p r) (invn p n) (invn p s) i)) ∧ w' = w1) :=
          fun w1 hc => mul_any p b _ _ w1 h3 hm hc HVI.1 HVI.2 (by omega) (by omega)
        have HQ : Hid (∀ w1 : World, w1.cell? ⟨b, 0, none⟩ = some (.int .i64 p) → Calls Tryd.prog 35 #[.pointer (some ⟨b, 0, none⟩), .int .i64 ((invn p (n : Int) : Int) * (invn p s : Int) ^ i % (p : Int)), .int .i64 (invn p s)] w1 fun e w' => e = .returned (.int .i64 ((invn p (n : Int) : Int) * (invn p s : Int) ^ (i + 1) % (p : Int))) ∧ w' = w1) :=
          fun w1 hc => by
            have := mul_any p b ((invn p (n : Int) : Int) * (invn p s : Int) ^ i % (p : Int)) (invn p s) w1 h3 hm hc (by omega) (by omega) (by omega) (by omega)
            rwa [show (invn p (n : Int) : Int) * (invn p s : Int) ^ i % (p : Int) * (invn p s : Int) % (p : Int) = (invn p (n : Int) : Int) * (invn p s : Int) ^ (i + 1) % (p : Int) from Dom.pt_succ p _ _ i] at this
        have HRI : Hid ((wr.setCell ⟨g, i, none⟩ (.int .i64 (coefs p zs n (invn p r) (invn p n) (invn p s) i))).rowIs g 3 N (fun j => if j = i then .int .i64 (coefs p zs n (invn p r) (invn p n) (invn p s) i) else Fi j)) := hri.out.set i _
        have HLO : Hid (∀ j, j < i + 1 → (fun j => if j = i then Value.int .i64 (coefs p zs n (invn p r) (invn p n) (invn p s) i) else Fi j) j = .int .i64 (coefs p zs n (invn p r) (invn p n) (invn p s) j)) := fun j hj => by
          show (if j = i then _ else _) = _
          by_cases e : j = i
          · rw [if_pos e, e]
          · rw [if_neg e]; exact hlo.out j (by omega)
        have HHI : Hid (∀ j, i + 1 ≤ j → j < n → (fun j => if j = i then Value.int .i64 (coefs p zs n (invn p r) (invn p n) (invn p s) i) else Fi j) j = .int .i64 (Dom.ft p (zat zs) (invn p r) n j)) := fun j h1 h2 => by
          show (if j = i then _ else _) = _
          rw [if_neg (by omega)]; exact hhi.out j (by omega) h2
        have HBN := hid (hbel.out.setCell (p := ⟨g, i, none⟩) hg (.int .i64 (coefs p zs n (invn p r) (invn p n) (invn p s) i)))
        obtain ⟨sn, hsn⟩ : ∃ sn, sn = (invn p (n : Int) : Int) * (invn p s : Int) ^ (i + 1) % (p : Int) := ⟨_, rfl⟩
        have HSN := hid hsn
        rw [← hsn] at HQ
        clear hsn HC hri hlo hhi
        generalize (invn p (n : Int) : Int) * (invn p s : Int) ^ i % (p : Int) = si at *
        generalize Dom.ft p (zat zs) (invn p r) n i = fi at *
        obtain ⟨ci, hci⟩ : ∃ ci, ci = coefs p zs n (invn p r) (invn p n) (invn p s) i := ⟨_, rfl⟩
        rw [← hci] at HM HRI HLO HHI HBN
        have hpc2 : Hid ((wr.setCell ⟨g, i, none⟩ (.int .i64 ci)).drew.cell? ⟨b, 0, none⟩ = some (.int .i64 p)) := (HBN.out.cell (p := ⟨b, 0, none⟩) hbl).trans hp
        have z0 : (wr.setCell ⟨g, i, none⟩ (.int .i64 ci)).cell? ⟨d, 0, none⟩ = some (.pointer (some ⟨b, 0, none⟩)) := (HBN.out.cell (p := ⟨d, 0, none⟩) hdl).trans c0
        clear hci
        go_wp2_with fail
        go_still_tail 13, hmx
        still_call (HM.out _ hpc)
        refine wpStill_nil ?_
        go_wp2_with fail
        refine (HQ.out _ hpc2.out).mono ?_
        rintro e w6 ⟨rfl, rfl⟩
        go_wp2_with fail
        go_roundw
        case rel => exact ⟨i + 1, _, by omega, by go_num, by rw [HSN.out], HRI, HLO, HHI, HBN.out.drew⟩
        case measure => simp [intOf]; omega
      · have hlt2 : ¬ (i : Int) < (n : Int) := by omega
        have HLN : Hid (∀ j, j < n → Fi j = .int .i64 (coefs p zs n (invn p r) (invn p n) (invn p s) j)) := fun j hj => hlo.out j (by omega)
        have HDA : Hid (DomAt wr d b n r s) := HD.out.below hbel.out hdl
        have HRW : Hid (RowP (· < wr.heap.size) wr (some ⟨g, 0, none⟩) (ls (coefs p zs n (invn p r) (invn p n) (invn p s)) n)) := fun j hj => by
          rw [ls_len] at hj
          exact ⟨g, 0, rfl, hri.out.lt, by rw [Nat.zero_add, ls_at _ _ _ hj, ← HLN.out j hj]; exact hri.out.cell (by omega)⟩
        have HFT : Hid (Fits (ls (coefs p zs n (invn p r) (invn p n) (invn p s)) n)) := fun j hj => by
          rw [ls_len] at hj
          rw [ls_at _ _ _ hj]
          have := emod_bounds (Dom.ft p (zat zs) (invn p r) n j * ((invn p (n : Int) : Int) * (invn p s : Int) ^ j % (p : Int))) p h3
          unfold coefs
          omega
        have HT := hid (trim_full p b N (· < wr.heap.size) (some ⟨g, 0, none⟩) (ls (coefs p zs n (invn p r) (invn p n) (invn p s)) n) wr h3 hm hpc (by rw [ls_len]; omega) HFT.out HRW.out (fun _ h => h))
        rw [ls_len] at HT
        clear hlo hhi hri HLN HRW HFT
        obtain ⟨ts, hts⟩ : ∃ ts, ts = Pol.trim p (ls (coefs p zs n (invn p r) (invn p n) (invn p s)) n) := ⟨_, rfl⟩
        have HTS := hid hts
        rw [← hts] at HT
        clear hts
        go_wp2_with fail
        refine (dfield_any d b n r s wr HDA.out).mono ?_
        rintro e w5 ⟨rfl, rfl⟩
        go_wp2_with fail
        refine HT.out.mono ?_
        rintro e w6 ⟨rfl, hct, hbt, hst, _⟩
        have HB6 : Hid (Below w.heap.size w w6) := hbel.out.trans (hbt.mono hbel.out.size)
        have HL6 : Hid (Lst w6.heap.size w6 (some ⟨w5.heap.size, 0, none⟩) ts.length ts) := ⟨hct.row (Nat.le_refl _) (fun _ _ => rfl) (by omega), Nat.le_refl _, fun e => by cases e⟩
        clear hct hbt hst
        go_wp2_with fail
        go_ret2
        rw [← HTS.out]
        exact ⟨_, _, rfl, HL6.out, HB6.out⟩

end Go.Proofs.YtmmlphdekeflfaaDoor

namespace Go.Proofs.YtmmlphdekeflfaaDoor
open Go.RowKit

theorem evz_mkn {p : Nat} (hp : 0 < p) (f : Nat → Int) (n : Nat) (h : ∀ j, n ≤ j → f j % (p : Int) = 0) (x : Int) : evz p (Pol.mk p f n) x = Pol.ps f x n % (p : Int) := by
  unfold evz
  rw [Pol.emod_eq_iff hp]
  have hl : (Pol.mk p f n).length ≤ n := by rw [Pol.mk_length]; exact Pol.tp_le _ _ _
  have h1 := Pol.ps_more (p := p) (f := Pol.cf (Pol.mk p f n)) x (Pol.mk p f n).length n hl (fun j hj => by rw [Pol.cf_ge hj]; exact Int.dvd_zero _)
  have h2 := Pol.ps_congr (p := p) x n (fun j _ => Pol.mk_eqp h j)
  have := Int.dvd_sub h2 h1
  rwa [show ∀ a b c : Int, a - b - (a - c) = c - b from fun a b c => by omega] at this
theorem evz_trim {p : Nat} (hp : 0 < p) (zs : List Int) (x : Int) : evz p (Pol.trim p zs) x = evz p zs x := evz_mkn hp (Pol.cf zs) zs.length (Pol.cf_behind p zs) x

theorem two_pow_nd {p : Nat} (hp : Num.Prime p) (h3 : 3 ≤ p) (k : Nat) : ¬ (p : Int) ∣ ((2 ^ k : Nat) : Int) := by
  rw [Int.natCast_pow]
  refine Dom.pow_nd hp (fun h => ?_) k
  have := Int.le_of_dvd (by decide) h
  omega

/-- the way back -/
theorem evz_coefs {p n : Nat} (hp : Num.Prime p) (h3 : 3 ≤ p) {r s : Int} (zs : List Int) (h : Dom.Ord p r n) (hs : ¬ (p : Int) ∣ s) (hn : ¬ (p : Int) ∣ (n : Int)) (j : Nat) (hj : j < n) :
    evz p (Pol.trim p (ls (coefs p zs n (invn p r) (invn p n) (invn p s)) n)) (Dom.pt p s r j) = zat zs j % (p : Int) := by
  have hb := Dom.back hp h (inv_dvd_one hp h3 (h.nd hp)) (inv_dvd_one hp h3 hs) (inv_dvd_one hp h3 hn) (zat zs) (coefs p zs n (invn p r) (invn p n) (invn p s)) (fun j hj => Dom.back_coef (zat zs) _ _ _ hj _ rfl) j hj
  rw [evz_trim (by omega), ← evz_pt p (by omega), ls_len, Pol.emod_eq_iff (by omega)]
  rwa [show Pol.ps (zat (ls (coefs p zs n (invn p r) (invn p n) (invn p s)) n)) (s * r ^ j) n = Pol.ps (coefs p zs n (invn p r) (invn p n) (invn p s)) (s * r ^ j) n from by
    rw [Dom.ps_sm, Dom.ps_sm]; exact Dom.sm_same (fun i hi => by rw [ls_at _ _ _ hi])]

/-- what Root answers for a size that may be -/
theorem root_ord2 {p k r : Nat} (hp : Num.Prime p) (h3 : 3 ≤ p) (hd : (p - 1) % 2 ^ k = 0) (h : RootIs p ((2 ^ k : Nat) : Int) r) : Dom.Ord p (r : Int) (2 ^ k) ∧ r < p := by
  have hpos : 1 ≤ 2 ^ k := Nat.pow_pos (by decide)
  rcases h with ⟨h1, _⟩ | ⟨_, _, g, hg, rfl⟩
  · rcases h1 with h1 | h1
    · omega
    · exact absurd (sizeOk_nat h3 hd) h1
  · obtain ⟨g1, g2, g3⟩ := Num.genIs_some hp h3 hg
    rw [Int.toNat_natCast]
    exact ⟨Num.root_circle hp h3 g1 g2 g3 hpos (Nat.dvd_of_mod_eq_zero hd), Num.pwm_lt _ _ _ (by omega)⟩

end Go.Proofs.YtmmlphdekeflfaaDoor

namespace Go.Proofs.YtmmlphdekeflfaaDoor
open Go.RowKit

/-- one of the first k powers of 2 -/
def twoB (n : Int) : Nat → Bool
  | 0 => false
  | k + 1 => twoB n k || (((2 ^ k : Nat) : Int) == n)
theorem twoB_iff (n : Int) : ∀ k, twoB n k = true ↔ ∃ j, j < k ∧ n = ((2 ^ j : Nat) : Int)
  | 0 => by simp [twoB]
  | k + 1 => by
    rw [twoB, Bool.or_eq_true, beq_iff_eq, twoB_iff n k]
    constructor
    · rintro (⟨j, h1, h2⟩ | h)
      · exact ⟨j, by omega, h2⟩
      · exact ⟨k, by omega, h.symm⟩
    · rintro ⟨j, h1, h2⟩
      by_cases e : j = k
      · subst e; exact Or.inr h2.symm
      · exact Or.inl ⟨j, by omega, h2⟩

/-- what Fault answers -/
def FaultIs (q : Nat) (n s c : Int) : Prop := (¬ SizeOk q n ∧ c = 2) ∨ (SizeOk q n ∧ s % (q : Int) = 0 ∧ c = 3) ∨ (SizeOk q n ∧ ¬ s % (q : Int) = 0 ∧ c = 0)

set_option maxRecDepth 100000 in
set_option maxHeartbeats 1000000 in
theorem fault_any (q : Nat) (n s : Int) (w : World) (h3 : 3 ≤ q) (h4 : q ≤ 2147483647) (hn1 : -9223372036854775808 ≤ n) (hn2 : n ≤ 9223372036854775807) (hs1 : -9223372036854775808 ≤ s) (hs2 : s ≤ 9223372036854775807) :
    Calls Tryd.prog 10 #[.int .i64 q, .int .i64 n, .int .i64 s] w fun e w' => ∃ c : Int, e = .returned (.int .i64 c) ∧ FaultIs q n s c ∧ w' = w := by
  go_enter Tryd.func10, Tryd.ntmps10
  go_wp2_with fail
  go_loop [7, 8] (fun tv nv => ∃ k : Nat, k ≤ 17 ∧ nv = .int .i64 ((2 ^ k : Nat) : Int) ∧ tv = .bool (twoB n k)) (fun _ nv => (131072 - intOf nv).toNat)
  case atStart => exact ⟨0, by decide, rfl, rfl⟩
  case round =>
    obtain ⟨k, hk, rfl, rfl⟩ := hrel
    by_cases hlt : k < 17
    · have hle : 2 ^ k ≤ 65536 := Nat.pow_le_pow_right (by decide : 0 < 2) (show k ≤ 16 by omega)
      have hpos : 1 ≤ 2 ^ k := Nat.pow_pos (by decide)
      have HS : Hid (((2 ^ (k + 1) : Nat) : Int) = ((2 ^ k : Nat) : Int) * 2) := by unfold Hid; rw [Nat.pow_succ]; omega
      have HB : Hid (twoB n (k + 1) = (twoB n k || (((2 ^ k : Nat) : Int) == n))) := rfl
      have hle2 : ((2 ^ k : Nat) : Int) ≤ 65536 := by omega
      have hpos2 : (1 : Int) ≤ ((2 ^ k : Nat) : Int) := by omega
      clear hle hpos
      generalize ((2 ^ k : Nat) : Int) = m at *
      cases hb : twoB n k with
      | true =>
        rw [hb] at HB
        clear hb
        go_wp2_with fail
        go_round
        case rel => exact ⟨k + 1, by omega, by rw [HS.out], by rw [HB.out]; rfl⟩
        case measure => simp [intOf]; omega
      | false =>
        rw [hb] at HB
        clear hb
        by_cases he : m = n
        · have heb : (m == n) = true := by rw [beq_iff_eq]; exact he
          rw [heb] at HB
          clear he
          go_wp2_with fail
          go_round
          case rel => exact ⟨k + 1, by omega, by rw [HS.out], by rw [HB.out]; rfl⟩
          case measure => simp [intOf]; omega
        · have heb : (m == n) = false := by rw [beq_eq_false_iff_ne]; exact he
          rw [heb] at HB
          clear he
          go_wp2_with fail
          go_round
          case rel => exact ⟨k + 1, by omega, by rw [HS.out], by rw [HB.out]; rfl⟩
          case measure => simp [intOf]; omega
    · obtain rfl : k = 17 := by omega
      have e17 : ((2 ^ 17 : Nat) : Int) = 131072 := by decide
      rw [e17]
      clear e17 hlt
      cases hb : twoB n 17 with
      | false =>
        have HN : Hid (¬ SizeOk q n) := fun ⟨j, h1, h2, _⟩ => by
          have := (twoB_iff n 17).2 ⟨j, by omega, h2⟩
          rw [hb] at this; cases this
        clear hb
        go_wp2_with fail
        go_ret
        exact ⟨2, rfl, Or.inl ⟨HN.out, rfl⟩, rfl⟩
      | true =>
        obtain ⟨j, hj, hnj⟩ := (twoB_iff n 17).1 hb
        clear hb
        have hpos : 1 ≤ 2 ^ j := Nat.pow_pos (by decide)
        have hzn : (n == 0) = false := by rw [beq_eq_false_iff_ne]; omega
        have hn0 : 0 < n := by omega
        by_cases hd : (q - 1) % 2 ^ j = 0
        · have hd2 : (((q : Int) - 1) % n != 0) = false := by rw [hnj, sizeOk_nat h3 hd]; rfl
          have HOK : Hid (SizeOk q n) := ⟨j, by omega, hnj, hd⟩
          clear hd hnj hpos
          by_cases hs : s % (q : Int) = 0
          · have HS := hid hs
            have hsb : (s % (q : Int) == 0) = true := by rw [hs]; rfl
            clear hs
            go_wp2_with fail
            refine (rof_any q s w h3 h4 hs1 hs2).mono ?_
            rintro e w1 ⟨rfl, rfl⟩
            go_wp2_with fail
            go_ret
            exact ⟨3, rfl, Or.inr (Or.inl ⟨HOK.out, HS.out, rfl⟩), rfl⟩
          · have HS := hid hs
            have hsb : (s % (q : Int) == 0) = false := by rw [beq_eq_false_iff_ne]; exact hs
            clear hs
            go_wp2_with fail
            refine (rof_any q s w h3 h4 hs1 hs2).mono ?_
            rintro e w1 ⟨rfl, rfl⟩
            go_wp2_with fail
            go_ret
            exact ⟨0, rfl, Or.inr (Or.inr ⟨HOK.out, HS.out, rfl⟩), rfl⟩
        · have hd2 : (((q : Int) - 1) % n != 0) = true := by
            rw [bne_iff_ne, hnj]
            intro h
            rw [show (q : Int) - 1 = ((q - 1 : Nat) : Int) from by omega, ← Int.natCast_emod] at h
            omega
          have HN : Hid (¬ SizeOk q n) := fun ⟨i, h1, h2, h5⟩ => hd (by
            have : 2 ^ j = 2 ^ i := by omega
            rw [this]; exact h5)
          clear hd hnj hpos
          go_wp2_with fail
          go_ret
          exact ⟨2, rfl, Or.inl ⟨HN.out, rfl⟩, rfl⟩

end Go.Proofs.YtmmlphdekeflfaaDoor

namespace Go.Proofs.YtmmlphdekeflfaaDoor
open Go.RowKit

/-- a domain may be made of these -/
structure GoodAt (q k : Nat) (s : Int) : Prop where
  pr : Num.Prime q
  h3 : 3 ≤ q
  h4 : q ≤ 2147483647
  hk : k ≤ 16
  hd : (q - 1) % 2 ^ k = 0
  hs : ¬ s % (q : Int) = 0
theorem two_pow_le {k : Nat} (hk : k ≤ 16) : 2 ^ k ≤ 65536 := Nat.pow_le_pow_right (by decide : 0 < 2) hk

theorem not_dvd_of_emod {p : Nat} {s : Int} (h : ¬ s % (p : Int) = 0) : ¬ (p : Int) ∣ s % (p : Int) := fun hd => h (by
  have := Int.emod_eq_zero_of_dvd hd
  rwa [Int.emod_emod_of_dvd _ (Int.dvd_refl _)] at this)

end Go.Proofs.YtmmlphdekeflfaaDoor

namespace Go.Proofs.YtmmlphdekeflfaaDoor
open Go.RowKit

theorem Pair.grown {g h : Nat} {a w w' : World} {row : Option Nat} (x : Pair g h a w) (hg : w.grownBy w' row) (hr : ∀ k, row = some k → k = g ∨ k = h) : Pair g h a w' :=
  x.trans ⟨hg.os, hg.tape, hg.output, hg.size, fun k hk h1 h2 => hg.block k hk (fun e => by rcases hr k e.symm with e | e <;> omega)⟩

end Go.Proofs.YtmmlphdekeflfaaDoor

namespace Go.Proofs.YtmmlphdekeflfaaDoor
open Go.RowKit

theorem DomAt.pair {w w' : World} {g h d b : Nat} {n r s : Int} (x : DomAt w d b n r s) (e : Pair g h w w') (hl : d < w.heap.size) (hg : d ≠ g) (hh : d ≠ h) : DomAt w' d b n r s :=
  ⟨(e.cell (p := ⟨d, 0, none⟩) hl hg hh).trans x.f, (e.cell (p := ⟨d, 1, none⟩) hl hg hh).trans x.n, (e.cell (p := ⟨d, 2, none⟩) hl hg hh).trans x.r, (e.cell (p := ⟨d, 3, none⟩) hl hg hh).trans x.s⟩

end Go.Proofs.YtmmlphdekeflfaaDoor
