/- Package domain's own numbers: which sizes have one bit alone; the last bits of a place. Package domain: mayBeSize and New. Package domain: Field, Size, Point, Points, Half. Package domain: Point and Half. Package domain: spread, the transform by halves. Package domain: wrapped and Values. Package domain: Values. slices.Clone of a list of numbers that is not empty. Package domain: Coefficients. Plain facts on what Values and Coefficients answer: the values of a product, the sum of all values, the way back; an element of the order of a size. What package attestref2 answers of domains: Fault, New, Points, Values, Half. attestlaw2's plain and lives: a domain without the chapter's answer; chapter 3's example. attestsame.Spoil writes to its own list alone: no other block that was there turns. attestlaw2's made: a domain on both sides, or none on both. -/
import Derived.Test.YtpgnabmkfkcogaaGreatDoorFld
import Derived.Test.YtpgnabmkfkcogaaGreatDoorPlain
import Derived.Laws.Bits64b
import Derived.KernelRfl
import Derived.RegionTactic
import Derived.Deep.QuietTactic
import Derived.BigQuiet
import Derived.Test.YtpgnabmkfkcogaaGreatDoorHeldS
import Derived.StillTailTactics
import Derived.BigRegion
import Derived.Deep.RegionWith
import Derived.Test.YtpgnabmkfkcogaaGreatDoorPls
import Derived.Lib.SliceRun
import Derived.OwnWalk
namespace Go.Proofs.YtpgnabmkfkcogaaGreatDoor
open Go.RowKit

/-- the last k bits -/
theorem andn_i64 (k : Nat) (n : Int) (hk : k ≤ 62) (m : Int) (hm : m = ((2 ^ k - 1 : Nat) : Int)) : bits .and .i64 n m = n % ((2 ^ k : Nat) : Int) := by
  have hle : 2 ^ k ≤ 2 ^ 62 := Nat.pow_le_pow_right (by decide) hk
  have hpos : 0 < 2 ^ k := Nat.pow_pos (by decide)
  have h1 : (BitVec.ofInt 64 m).toNat = 2 ^ k - 1 := by
    rw [hm, BitVec.ofInt_natCast, BitVec.toNat_ofNat]; exact Nat.mod_eq_of_lt (by omega)
  have key : (BitVec.ofInt 64 n &&& BitVec.ofInt 64 m).toNat = (n % ((2 ^ 64 : Nat) : Int)).toNat % 2 ^ k := by
    rw [BitVec.toNat_and, BitVec.toNat_ofInt, h1, Nat.and_two_pow_sub_one_eq_mod]
  have hlt := Nat.mod_lt (n % ((2 ^ 64 : Nat) : Int)).toNat hpos
  have hd : ((2 ^ k : Nat) : Int) ∣ ((2 ^ 64 : Nat) : Int) := Int.ofNat_dvd.2 (Nat.pow_dvd_pow 2 (by omega))
  have e : (((n % ((2 ^ 64 : Nat) : Int)).toNat % 2 ^ k : Nat) : Int) = n % ((2 ^ k : Nat) : Int) := by
    rw [Int.natCast_emod, Int.toNat_of_nonneg (Int.emod_nonneg _ (by decide)), Int.emod_emod_of_dvd _ hd]
  show IntKind.i64.wrap ((BitVec.ofInt 64 n &&& BitVec.ofInt 64 m).toNat : Nat) = _
  rw [key, IntKind.wrap_i64, ← e]
  omega

/-! ## bits.OnesCount at small numbers -/
def oa1 (x : Int) : Int := IntKind.u64.wrap (bits .and .u64 (x / 2) 6148914691236517205 + bits .and .u64 x 6148914691236517205)
def oa2 (x : Int) : Int := IntKind.u64.wrap (bits .and .u64 (x / 4) 3689348814741910323 + bits .and .u64 x 3689348814741910323)
def oa3 (x : Int) : Int := bits .and .u64 (IntKind.u64.wrap (x / 16 + x)) 1085102592571150095
def oa4 (x : Int) : Int := IntKind.u64.wrap (x + x / 256)
def oa5 (x : Int) : Int := IntKind.u64.wrap (x + x / 65536)
def oa6 (x : Int) : Int := IntKind.u64.wrap (x + x / 4294967296)
def oaz (x : Int) : Int := bits .and .i64 (wrap64 (oa6 (oa5 (oa4 (oa3 (oa2 (oa1 x))))))) 127

def pn1 (n : Nat) : Nat := ((n / 2 &&& 6148914691236517205) + (n &&& 6148914691236517205)) % 18446744073709551616
def pn2 (n : Nat) : Nat := ((n / 4 &&& 3689348814741910323) + (n &&& 3689348814741910323)) % 18446744073709551616
def pn3 (n : Nat) : Nat := ((n / 16 + n) % 18446744073709551616) &&& 1085102592571150095
def pn4 (n : Nat) : Nat := (n + n / 256) % 18446744073709551616
def pn5 (n : Nat) : Nat := (n + n / 65536) % 18446744073709551616
def pn6 (n : Nat) : Nat := (n + n / 4294967296) % 18446744073709551616
def pnz (n : Nat) : Nat := pn6 (pn5 (pn4 (pn3 (pn2 (pn1 n))))) % 128

theorem oa1_nat (n : Nat) (h : n < 18446744073709551616) : oa1 (n : Int) = (pn1 n : Int) := by
  unfold oa1 pn1
  have e1 : ((n : Int) / 2) = ((n / 2 : Nat) : Int) := by omega
  have e2 := bits_and_u64_nat (n / 2) 6148914691236517205 (by omega) (by decide)
  have e3 := bits_and_u64_nat n 6148914691236517205 h (by decide)
  rw [e1, show (6148914691236517205 : Int) = ((6148914691236517205 : Nat) : Int) from rfl, e2, e3, IntKind.wrap_u64]
  omega
theorem oa2_nat (n : Nat) (h : n < 18446744073709551616) : oa2 (n : Int) = (pn2 n : Int) := by
  unfold oa2 pn2
  have e1 : ((n : Int) / 4) = ((n / 4 : Nat) : Int) := by omega
  have e2 := bits_and_u64_nat (n / 4) 3689348814741910323 (by omega) (by decide)
  have e3 := bits_and_u64_nat n 3689348814741910323 h (by decide)
  rw [e1, show (3689348814741910323 : Int) = ((3689348814741910323 : Nat) : Int) from rfl, e2, e3, IntKind.wrap_u64]
  omega
theorem oa3_nat (n : Nat) (_h : n < 18446744073709551616) : oa3 (n : Int) = (pn3 n : Int) := by
  unfold oa3 pn3
  rw [IntKind.wrap_u64, show ((n : Int) / 16 + n) % 18446744073709551616 = (((n / 16 + n) % 18446744073709551616 : Nat) : Int) from by omega,
    show (1085102592571150095 : Int) = ((1085102592571150095 : Nat) : Int) from rfl, bits_and_u64_nat _ _ (Nat.mod_lt _ (by decide)) (by decide)]
theorem oa4_nat (n : Nat) : oa4 (n : Int) = (pn4 n : Int) := by unfold oa4 pn4; rw [IntKind.wrap_u64]; omega
theorem oa5_nat (n : Nat) : oa5 (n : Int) = (pn5 n : Int) := by unfold oa5 pn5; rw [IntKind.wrap_u64]; omega
theorem oa6_nat (n : Nat) : oa6 (n : Int) = (pn6 n : Int) := by unfold oa6 pn6; rw [IntKind.wrap_u64]; omega
theorem oaz_nat (n : Nat) (h : n < 18446744073709551616) : oaz (n : Int) = (pnz n : Int) := by
  unfold oaz pnz
  rw [oa1_nat n h, oa2_nat (pn1 n) (Nat.mod_lt _ (by decide)), oa3_nat (pn2 (pn1 n)) (Nat.mod_lt _ (by decide)), oa4_nat, oa5_nat, oa6_nat]
  generalize pn6 (pn5 (pn4 (pn3 (pn2 (pn1 n))))) = m
  rw [andn_i64 7 _ (by decide) 127 rfl, wrap64]
  omega

/-- one of the 17 sizes -/
def isP2 (n : Nat) : Bool := n == 1 || n == 2 || n == 4 || n == 8 || n == 16 || n == 32 || n == 64 || n == 128 || n == 256 || n == 512 || n == 1024 || n == 2048 || n == 4096 || n == 8192 || n == 16384 || n == 32768 || n == 65536
def okP2 (n : Nat) : Bool := !(Nat.beq (pnz n) 1) || isP2 n
def all2 : Nat → Nat → Bool
  | 0, b => okP2 b
  | k + 1, b => all2 k b && all2 k (b + 2 ^ k)
theorem all2_spec : ∀ (k b n : Nat), all2 k b = true → b ≤ n → n < b + 2 ^ k → okP2 n = true
  | 0, b, n, h, h1, h2 => by
    obtain rfl : n = b := by simp at h2; omega
    exact h
  | k + 1, b, n, h, h1, h2 => by
    rw [all2, Bool.and_eq_true] at h
    by_cases g : n < b + 2 ^ k
    · exact all2_spec k b n h.1 h1 g
    · exact all2_spec k (b + 2 ^ k) n h.2 (by omega) (by rw [Nat.pow_succ] at h2; omega)
theorem all2_ok : all2 16 0 = true := by kernel_rfl

theorem pnz_no (n : Nat) (h : n < 65536) (h1 : pnz n = 1) : isP2 n = true := by
  have := all2_spec 16 0 n all2_ok (Nat.zero_le _) (by omega)
  unfold okP2 at this
  rw [h1] at this
  simpa using this
theorem isP2_pow {n : Nat} (h : isP2 n = true) : ∃ k, k ≤ 16 ∧ n = 2 ^ k := by
  simp only [isP2, Bool.or_eq_true, beq_iff_eq] at h
  rcases h with (((((((((((((((h | h) | h) | h) | h) | h) | h) | h) | h) | h) | h) | h) | h) | h) | h) | h) | h
  · exact ⟨0, by decide, h⟩
  · exact ⟨1, by decide, h⟩
  · exact ⟨2, by decide, h⟩
  · exact ⟨3, by decide, h⟩
  · exact ⟨4, by decide, h⟩
  · exact ⟨5, by decide, h⟩
  · exact ⟨6, by decide, h⟩
  · exact ⟨7, by decide, h⟩
  · exact ⟨8, by decide, h⟩
  · exact ⟨9, by decide, h⟩
  · exact ⟨10, by decide, h⟩
  · exact ⟨11, by decide, h⟩
  · exact ⟨12, by decide, h⟩
  · exact ⟨13, by decide, h⟩
  · exact ⟨14, by decide, h⟩
  · exact ⟨15, by decide, h⟩
  · exact ⟨16, by decide, h⟩
theorem pnz_pow : ∀ k : Fin 17, pnz (2 ^ k.val) = 1 := by decide +kernel
theorem pnz_one {n : Nat} (h : n ≤ 65536) : pnz n = 1 ↔ ∃ k, k ≤ 16 ∧ n = 2 ^ k := by
  constructor
  · intro h1
    by_cases e : n = 65536
    · exact ⟨16, by decide, e⟩
    · exact isP2_pow (pnz_no n (by omega) h1)
  · rintro ⟨k, hk, rfl⟩
    exact pnz_pow ⟨k, by omega⟩

theorem ones64_any (n : Nat) (w : World) (h1 : n ≤ 65536) :
    Calls Tryz.prog 173 #[.int .u64 n] w fun e w' => e = .returned (.int .i64 (pnz n)) ∧ w' = w := by
  have HZ := hid (oaz_nat n (by omega))
  go_enter Tryz.func173, Tryz.ntmps173
  go_wp2
  go_ret
  exact ⟨ret_int HZ.out, rfl⟩

theorem ones_any (n : Nat) (w : World) (h1 : n ≤ 65536) :
    Calls Tryz.prog 106 #[.int .u64 n] w fun e w' => e = .returned (.int .i64 (pnz n)) ∧ w' = w := by
  have H := hid (ones64_any n w h1)
  go_enter Tryz.func106, Tryz.ntmps106
  go_wp2_with fail
  refine H.out.mono ?_
  rintro e w1 ⟨rfl, rfl⟩
  go_wp2_with fail
  go_ret
  exact ⟨rfl, rfl⟩

end Go.Proofs.YtpgnabmkfkcogaaGreatDoor

namespace Go.Proofs.YtpgnabmkfkcogaaGreatDoor
open Go.RowKit

/-- a domain in memory -/
structure DomAt (w : World) (d b : Nat) (n r s : Int) : Prop where
  f : w.cell? ⟨d, 0, none⟩ = some (.pointer (some ⟨b, 0, none⟩))
  n : w.cell? ⟨d, 1, none⟩ = some (.int .i64 n)
  r : w.cell? ⟨d, 2, none⟩ = some (.int .i64 r)
  s : w.cell? ⟨d, 3, none⟩ = some (.int .i64 s)
theorem DomAt.lt {w : World} {d b : Nat} {n r s : Int} (h : DomAt w d b n r s) : d < w.heap.size := by
  rcases Nat.lt_or_ge d w.heap.size with g | g
  · exact g
  · have := h.f; simp [World.cell?, Array.getElem?_eq_none g] at this
theorem DomAt.below {w w' : World} {d b n0 : Nat} {n r s : Int} (h : DomAt w d b n r s) (e : Below n0 w w') (hd : d < n0) : DomAt w' d b n r s :=
  ⟨(e.cell (p := ⟨d, 0, none⟩) hd).trans h.f, (e.cell (p := ⟨d, 1, none⟩) hd).trans h.n, (e.cell (p := ⟨d, 2, none⟩) hd).trans h.r, (e.cell (p := ⟨d, 3, none⟩) hd).trans h.s⟩

end Go.Proofs.YtpgnabmkfkcogaaGreatDoor

namespace Go.Proofs.YtpgnabmkfkcogaaGreatDoor
open Go.RowKit

end Go.Proofs.YtpgnabmkfkcogaaGreatDoor

namespace Go.Proofs.YtpgnabmkfkcogaaGreatDoor
open Go.RowKit

end Go.Proofs.YtpgnabmkfkcogaaGreatDoor

namespace Go.Proofs.YtpgnabmkfkcogaaGreatDoor
open Go.RowKit

/-- of the blocks that were there, two alone have turned -/
structure Pair (g h : Nat) (w w' : World) : Prop where
  os : w'.os = w.os
  tape : w'.tape = w.tape
  output : w'.output = w.output
  size : w.heap.size ≤ w'.heap.size
  block : ∀ k, k < w.heap.size → k ≠ g → k ≠ h → w'.heap[k]? = w.heap[k]?
theorem Pair.refl (g h : Nat) (w : World) : Pair g h w w := ⟨rfl, rfl, rfl, Nat.le_refl _, fun _ _ _ _ => rfl⟩
theorem Pair.trans {g h : Nat} {a b c : World} (x : Pair g h a b) (y : Pair g h b c) : Pair g h a c :=
  ⟨y.os.trans x.os, y.tape.trans x.tape, y.output.trans x.output, Nat.le_trans x.size y.size, fun i h0 h1 h2 => (y.block i (Nat.lt_of_lt_of_le h0 x.size) h1 h2).trans (x.block i h0 h1 h2)⟩
theorem Pair.symm {g h : Nat} {a b : World} (x : Pair g h a b) : Pair h g a b := ⟨x.os, x.tape, x.output, x.size, fun i h0 h1 h2 => x.block i h0 h2 h1⟩
theorem Pair.drewN {g h : Nat} {a w : World} (x : Pair g h a w) (n : Nat) : Pair g h a (w.drewN n) := x.trans ⟨rfl, rfl, rfl, Nat.le_refl _, fun _ _ _ _ => rfl⟩
theorem Pair.drew {g h : Nat} {a w : World} (x : Pair g h a w) : Pair g h a w.drew := x.trans ⟨rfl, rfl, rfl, Nat.le_refl _, fun _ _ _ _ => rfl⟩
theorem Pair.setCell {g h : Nat} {a w : World} (x : Pair g h a w) {p : Addr} (hp : p.block = g ∨ p.block = h) (u : Value) : Pair g h a (w.setCell p u) :=
  x.trans ⟨rfl, rfl, rfl, by simp [World.setCell], fun k _ h1 h2 => Below.heap_setCell _ _ _ _ (by rcases hp with e | e <;> omega)⟩
theorem Pair.cell {g h : Nat} {w w' : World} (x : Pair g h w w') {p : Addr} (h0 : p.block < w.heap.size) (h1 : p.block ≠ g) (h2 : p.block ≠ h) : w'.cell? p = w.cell? p := World.cell?_of_block (w := w) (x.block p.block h0 h1 h2)
theorem Pair.alloc {g h : Nat} {a w : World} (x : Pair g h a w) (o : Obj) : Pair g h a (w.alloc o) :=
  x.trans ⟨rfl, rfl, rfl, by simp, fun k h0 _ _ => Go.Deep.blk_alloc_lt _ _ _ h0⟩
theorem Pair.below {g h n0 : Nat} {w w' : World} (x : Pair g h w w') (h0 : n0 ≤ w.heap.size) (hg : n0 ≤ g) (hh : n0 ≤ h) : Below n0 w w' :=
  ⟨x.os, x.tape, x.output, x.size, fun k hk => x.block k (by omega) (by omega) (by omega)⟩

end Go.Proofs.YtpgnabmkfkcogaaGreatDoor

namespace Go.Proofs.YtpgnabmkfkcogaaGreatDoor
open Go.RowKit

end Go.Proofs.YtpgnabmkfkcogaaGreatDoor

namespace Go.Proofs.YtpgnabmkfkcogaaGreatDoor
open Go.RowKit

end Go.Proofs.YtpgnabmkfkcogaaGreatDoor

namespace Go.Proofs.YtpgnabmkfkcogaaGreatDoor
open Go.RowKit

theorem rowIs_of_owns {w : World} {base : Nat} {v : Value} {zs : List Int} (h : w.ownsRow base 3 1 v zs.length (zs.map (Value.int .i64))) (h0 : 0 < zs.length) :
    ∃ (g N : Nat) (F : Nat → Value), v = .slice (some ⟨g, 0, none⟩) zs.length N ∧ base ≤ g ∧ w.rowIs g 3 N F ∧ zs.length ≤ N ∧ ∀ j, j < zs.length → F j = .int .i64 (zat zs j) := by
  rcases h.2 with ⟨_, h2⟩ | ⟨g, cap, cur, hv, hb, hg, hn, _, hs, ht⟩
  · omega
  · refine ⟨g, cap, fun j => cur.getD j (.int .i64 0), hv, hb, ⟨cur, hg, by omega, fun i hi => ?_⟩, hn, fun j hj => ?_⟩
    · simp [show i < cur.size by omega]
    · have e : (cur.toList.take (zs.length * 1))[j]? = (zs.map (Value.int .i64))[j]? := by rw [ht]
      rw [List.getElem?_take, if_pos (by omega)] at e
      simp [hj, show j < cur.size by omega, zat] at e ⊢
      exact e

end Go.Proofs.YtpgnabmkfkcogaaGreatDoor

namespace Go.Proofs.YtpgnabmkfkcogaaGreatDoor
open Go.RowKit

end Go.Proofs.YtpgnabmkfkcogaaGreatDoor

namespace Go.Proofs.YtpgnabmkfkcogaaGreatDoor
open Go.RowKit

end Go.Proofs.YtpgnabmkfkcogaaGreatDoor

namespace Go.Proofs.YtpgnabmkfkcogaaGreatDoor
open Go.RowKit

end Go.Proofs.YtpgnabmkfkcogaaGreatDoor

namespace Go.Proofs.YtpgnabmkfkcogaaGreatDoor
open Go.RowKit

/-- a domain may be made of these -/
structure GoodAt (q k : Nat) (s : Int) : Prop where
  pr : Num.Prime q
  h3 : 3 ≤ q
  h4 : q ≤ 2147483647
  hk : k ≤ 16
  hd : (q - 1) % 2 ^ k = 0
  hs : ¬ s % (q : Int) = 0
end Go.Proofs.YtpgnabmkfkcogaaGreatDoor

namespace Go.Proofs.YtpgnabmkfkcogaaGreatDoor
open Go.RowKit

theorem Pair.grown {g h : Nat} {a w w' : World} {row : Option Nat} (x : Pair g h a w) (hg : w.grownBy w' row) (hr : ∀ k, row = some k → k = g ∨ k = h) : Pair g h a w' :=
  x.trans ⟨hg.os, hg.tape, hg.output, hg.size, fun k hk h1 h2 => hg.block k hk (fun e => by rcases hr k e.symm with e | e <;> omega)⟩

end Go.Proofs.YtpgnabmkfkcogaaGreatDoor

namespace Go.Proofs.YtpgnabmkfkcogaaGreatDoor
open Go.RowKit

end Go.Proofs.YtpgnabmkfkcogaaGreatDoor
