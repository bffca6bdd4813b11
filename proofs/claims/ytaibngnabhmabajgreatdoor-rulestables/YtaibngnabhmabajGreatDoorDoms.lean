/- Package domain's own numbers: which sizes have one bit alone; the last bits of a place. Package domain: mayBeSize and New. Package domain: Field, Size, Point, Points, Half. Package domain: Point and Half. Package domain: spread, the transform by halves. Package domain: wrapped and Values. Package domain: Values. slices.Clone of a list of numbers that is not empty. Package domain: Coefficients. Plain facts on what Values and Coefficients answer: the values of a product, the sum of all values, the way back; an element of the order of a size. What package attestref2 answers of domains: Fault, New, Points, Values, Half. attestlaw2's plain and lives: a domain without the chapter's answer; chapter 3's example. attestsame.Spoil writes to its own list alone: no other block that was there turns. attestlaw2's made: a domain on both sides, or none on both. -/
import Derived.Test.YtaibngnabhmabajGreatDoorFld
import Derived.Test.YtaibngnabhmabajGreatDoorPlain
import Derived.Laws.Bits64b
import Derived.KernelRfl
import Derived.RegionTactic
import Derived.Deep.QuietTactic
import Derived.BigQuiet
import Derived.Test.YtaibngnabhmabajGreatDoorHeldS
import Derived.StillTailTactics
import Derived.BigRegion
import Derived.Deep.RegionWith
import Derived.Test.YtaibngnabhmabajGreatDoorPls
import Derived.Lib.SliceRun
import Derived.OwnWalk
namespace Go.Proofs.YtaibngnabhmabajGreatDoor
open Go.RowKit

/-- the last k bits -/
theorem andn_i64 (k : Nat) (n : Int) (hk : k ≤ 62) (m : Int) (hm : m = ((2 ^ k - 1 : Nat) : Int)) : bits .and .i64 n m = n % ((2 ^ k : Nat) : Int) := by
  have hle : 2 ^ k ≤ 2 ^ 62 := Nat.pow_le_pow_right (by decide) hk
  have hpos : 0 < 2 ^ k := Nat.pow_pos (by decide)
  have h1 : (BitVec.ofInt 64 m).toNat = 2 ^ k - 1 := by
    rw [hm, BitVec.ofInt_natCast, BitVec.toNat_ofNat]; exact Nat.mod_eq_of_lt (by omega)
  have key : (BitVec.ofInt 64 n &&& BitVec.ofInt 64 m).toNat = (n % ((2 ^ 64 : Nat) : Int)).toNat % 2 ^ k := by
    rw [BitVec.toNat_and, BitVec.toNat_ofInt, h1, Nat.and_two_pow_sub_one_eq_mod]
  have hlt := Nat.mod_lt (n % ((2 ^ 64 : Nat) : Int)).toNat hpos
  have hd : ((2 ^ k : Nat) : Int) ∣ ((2 ^ 64 : Nat) : Int) := Int.ofNat_dvd.2 (Nat.pow_dvd_pow 2 (by omega))
  have e : (((n % ((2 ^ 64 : Nat) : Int)).toNat % 2 ^ k : Nat) : Int) = n % ((2 ^ k : Nat) : Int) := by
    rw [Int.natCast_emod, Int.toNat_of_nonneg (Int.emod_nonneg _ (by decide)), Int.emod_emod_of_dvd _ hd]
  show IntKind.i64.wrap ((BitVec.ofInt 64 n &&& BitVec.ofInt 64 m).toNat : Nat) = _
  rw [key, IntKind.wrap_i64, ← e]
  omega

/-! ## bits.OnesCount at small numbers -/
def oa1 (x : Int) : Int := IntKind.u64.wrap (bits .and .u64 (x / 2) 6148914691236517205 + bits .and .u64 x 6148914691236517205)
def oa2 (x : Int) : Int := IntKind.u64.wrap (bits .and .u64 (x / 4) 3689348814741910323 + bits .and .u64 x 3689348814741910323)
def oa3 (x : Int) : Int := bits .and .u64 (IntKind.u64.wrap (x / 16 + x)) 1085102592571150095
def oa4 (x : Int) : Int := IntKind.u64.wrap (x + x / 256)
def oa5 (x : Int) : Int := IntKind.u64.wrap (x + x / 65536)
def oa6 (x : Int) : Int := IntKind.u64.wrap (x + x / 4294967296)
def oaz (x : Int) : Int := bits .and .i64 (wrap64 (oa6 (oa5 (oa4 (oa3 (oa2 (oa1 x))))))) 127

def pn1 (n : Nat) : Nat := ((n / 2 &&& 6148914691236517205) + (n &&& 6148914691236517205)) % 18446744073709551616
def pn2 (n : Nat) : Nat := ((n / 4 &&& 3689348814741910323) + (n &&& 3689348814741910323)) % 18446744073709551616
def pn3 (n : Nat) : Nat := ((n / 16 + n) % 18446744073709551616) &&& 1085102592571150095
def pn4 (n : Nat) : Nat := (n + n / 256) % 18446744073709551616
def pn5 (n : Nat) : Nat := (n + n / 65536) % 18446744073709551616
def pn6 (n : Nat) : Nat := (n + n / 4294967296) % 18446744073709551616
def pnz (n : Nat) : Nat := pn6 (pn5 (pn4 (pn3 (pn2 (pn1 n))))) % 128

theorem oa1_nat (n : Nat) (h : n < 18446744073709551616) : oa1 (n : Int) = (pn1 n : Int) := by
  unfold oa1 pn1
  have e1 : ((n : Int) / 2) = ((n / 2 : Nat) : Int) := by omega
  have e2 := bits_and_u64_nat (n / 2) 6148914691236517205 (by omega) (by decide)
  have e3 := bits_and_u64_nat n 6148914691236517205 h (by decide)
  rw [e1, show (6148914691236517205 : Int) = ((6148914691236517205 : Nat) : Int) from rfl, e2, e3, IntKind.wrap_u64]
  omega
theorem oa2_nat (n : Nat) (h : n < 18446744073709551616) : oa2 (n : Int) = (pn2 n : Int) := by
  unfold oa2 pn2
  have e1 : ((n : Int) / 4) = ((n / 4 : Nat) : Int) := by omega
  have e2 := bits_and_u64_nat (n / 4) 3689348814741910323 (by omega) (by decide)
  have e3 := bits_and_u64_nat n 3689348814741910323 h (by decide)
  rw [e1, show (3689348814741910323 : Int) = ((3689348814741910323 : Nat) : Int) from rfl, e2, e3, IntKind.wrap_u64]
  omega
theorem oa3_nat (n : Nat) (_h : n < 18446744073709551616) : oa3 (n : Int) = (pn3 n : Int) := by
  unfold oa3 pn3
  rw [IntKind.wrap_u64, show ((n : Int) / 16 + n) % 18446744073709551616 = (((n / 16 + n) % 18446744073709551616 : Nat) : Int) from by omega,
    show (1085102592571150095 : Int) = ((1085102592571150095 : Nat) : Int) from rfl, bits_and_u64_nat _ _ (Nat.mod_lt _ (by decide)) (by decide)]
theorem oa4_nat (n : Nat) : oa4 (n : Int) = (pn4 n : Int) := by unfold oa4 pn4; rw [IntKind.wrap_u64]; omega
theorem oa5_nat (n : Nat) : oa5 (n : Int) = (pn5 n : Int) := by unfold oa5 pn5; rw [IntKind.wrap_u64]; omega
theorem oa6_nat (n : Nat) : oa6 (n : Int) = (pn6 n : Int) := by unfold oa6 pn6; rw [IntKind.wrap_u64]; omega
theorem oaz_nat (n : Nat) (h : n < 18446744073709551616) : oaz (n : Int) = (pnz n : Int) := by
  unfold oaz pnz
  rw [oa1_nat n h, oa2_nat (pn1 n) (Nat.mod_lt _ (by decide)), oa3_nat (pn2 (pn1 n)) (Nat.mod_lt _ (by decide)), oa4_nat, oa5_nat, oa6_nat]
  generalize pn6 (pn5 (pn4 (pn3 (pn2 (pn1 n))))) = m
  rw [andn_i64 7 _ (by decide) 127 rfl, wrap64]
  omega

/-- one of the 17 sizes -/
def isP2 (n : Nat) : Bool := n == 1 || n == 2 || n == 4 || n == 8 || n == 16 || n == 32 || n == 64 || n == 128 || n == 256 || n == 512 || n == 1024 || n == 2048 || n == 4096 || n == 8192 || n == 16384 || n == 32768 || n == 65536
def okP2 (n : Nat) : Bool := !(Nat.beq (pnz n) 1) || isP2 n
def all2 : Nat → Nat → Bool
  | 0, b => okP2 b
  | k + 1, b => all2 k b && all2 k (b + 2 ^ k)
theorem all2_spec : ∀ (k b n : Nat), all2 k b = true → b ≤ n → n < b + 2 ^ k → okP2 n = true
  | 0, b, n, h, h1, h2 => by
    obtain rfl : n = b := by simp at h2; omega
    exact h
  | k + 1, b, n, h, h1, h2 => by
    rw [all2, Bool.and_eq_true] at h
    by_cases g : n < b + 2 ^ k
    · exact all2_spec k b n h.1 h1 g
    · exact all2_spec k (b + 2 ^ k) n h.2 (by omega) (by rw [Nat.pow_succ] at h2; omega)
theorem all2_ok : all2 16 0 = true := by kernel_rfl

theorem pnz_no (n : Nat) (h : n < 65536) (h1 : pnz n = 1) : isP2 n = true := by
  have := all2_spec 16 0 n all2_ok (Nat.zero_le _) (by omega)
  unfold okP2 at this
  rw [h1] at this
  simpa using this
theorem isP2_pow {n : Nat} (h : isP2 n = true) : ∃ k, k ≤ 16 ∧ n = 2 ^ k := by
  simp only [isP2, Bool.or_eq_true, beq_iff_eq] at h
  rcases h with (((((((((((((((h | h) | h) | h) | h) | h) | h) | h) | h) | h) | h) | h) | h) | h) | h) | h) | h
  · exact ⟨0, by decide, h⟩
  · exact ⟨1, by decide, h⟩
  · exact ⟨2, by decide, h⟩
  · exact ⟨3, by decide, h⟩
  · exact ⟨4, by decide, h⟩
  · exact ⟨5, by decide, h⟩
  · exact ⟨6, by decide, h⟩
  · exact ⟨7, by decide, h⟩
  · exact ⟨8, by decide, h⟩
  · exact ⟨9, by decide, h⟩
  · exact ⟨10, by decide, h⟩
  · exact ⟨11, by decide, h⟩
  · exact ⟨12, by decide, h⟩
  · exact ⟨13, by decide, h⟩
  · exact ⟨14, by decide, h⟩
  · exact ⟨15, by decide, h⟩
  · exact ⟨16, by decide, h⟩
theorem pnz_pow : ∀ k : Fin 17, pnz (2 ^ k.val) = 1 := by decide +kernel
theorem pnz_one {n : Nat} (h : n ≤ 65536) : pnz n = 1 ↔ ∃ k, k ≤ 16 ∧ n = 2 ^ k := by
  constructor
  · intro h1
    by_cases e : n = 65536
    · exact ⟨16, by decide, e⟩
    · exact isP2_pow (pnz_no n (by omega) h1)
  · rintro ⟨k, hk, rfl⟩
    exact pnz_pow ⟨k, by omega⟩

/-- so many points may be -/
def SizeOk (p : Nat) (n : Int) : Prop := ∃ k : Nat, k ≤ 16 ∧ n = ((2 ^ k : Nat) : Int) ∧ (((p - 1) % 2 ^ k : Nat) = 0)

end Go.Proofs.YtaibngnabhmabajGreatDoor

namespace Go.Proofs.YtaibngnabhmabajGreatDoor
open Go.RowKit

theorem sizeOk_nat {p k : Nat} (h3 : 3 ≤ p) (h : (p - 1) % 2 ^ k = 0) : ((p : Int) - 1) % ((2 ^ k : Nat) : Int) = 0 := by
  rw [show (p : Int) - 1 = ((p - 1 : Nat) : Int) from by omega, ← Int.natCast_emod, h]; rfl

/-- a domain in memory -/
structure DomAt (w : World) (d b : Nat) (n r s : Int) : Prop where
  f : w.cell? ⟨d, 0, none⟩ = some (.pointer (some ⟨b, 0, none⟩))
  n : w.cell? ⟨d, 1, none⟩ = some (.int .i64 n)
  r : w.cell? ⟨d, 2, none⟩ = some (.int .i64 r)
  s : w.cell? ⟨d, 3, none⟩ = some (.int .i64 s)
theorem DomAt.lt {w : World} {d b : Nat} {n r s : Int} (h : DomAt w d b n r s) : d < w.heap.size := by
  rcases Nat.lt_or_ge d w.heap.size with g | g
  · exact g
  · have := h.f; simp [World.cell?, Array.getElem?_eq_none g] at this
theorem DomAt.below {w w' : World} {d b n0 : Nat} {n r s : Int} (h : DomAt w d b n r s) (e : Below n0 w w') (hd : d < n0) : DomAt w' d b n r s :=
  ⟨(e.cell (p := ⟨d, 0, none⟩) hd).trans h.f, (e.cell (p := ⟨d, 1, none⟩) hd).trans h.n, (e.cell (p := ⟨d, 2, none⟩) hd).trans h.r, (e.cell (p := ⟨d, 3, none⟩) hd).trans h.s⟩

end Go.Proofs.YtaibngnabhmabajGreatDoor

namespace Go.Proofs.YtaibngnabhmabajGreatDoor
open Go.RowKit

end Go.Proofs.YtaibngnabhmabajGreatDoor

namespace Go.Proofs.YtaibngnabhmabajGreatDoor
open Go.RowKit

end Go.Proofs.YtaibngnabhmabajGreatDoor

namespace Go.Proofs.YtaibngnabhmabajGreatDoor
open Go.RowKit

/-- of the blocks that were there, two alone have turned -/
structure Pair (g h : Nat) (w w' : World) : Prop where
  os : w'.os = w.os
  tape : w'.tape = w.tape
  output : w'.output = w.output
  size : w.heap.size ≤ w'.heap.size
  block : ∀ k, k < w.heap.size → k ≠ g → k ≠ h → w'.heap[k]? = w.heap[k]?
theorem Pair.refl (g h : Nat) (w : World) : Pair g h w w := ⟨rfl, rfl, rfl, Nat.le_refl _, fun _ _ _ _ => rfl⟩
theorem Pair.trans {g h : Nat} {a b c : World} (x : Pair g h a b) (y : Pair g h b c) : Pair g h a c :=
  ⟨y.os.trans x.os, y.tape.trans x.tape, y.output.trans x.output, Nat.le_trans x.size y.size, fun i h0 h1 h2 => (y.block i (Nat.lt_of_lt_of_le h0 x.size) h1 h2).trans (x.block i h0 h1 h2)⟩
theorem Pair.symm {g h : Nat} {a b : World} (x : Pair g h a b) : Pair h g a b := ⟨x.os, x.tape, x.output, x.size, fun i h0 h1 h2 => x.block i h0 h2 h1⟩
theorem Pair.drewN {g h : Nat} {a w : World} (x : Pair g h a w) (n : Nat) : Pair g h a (w.drewN n) := x.trans ⟨rfl, rfl, rfl, Nat.le_refl _, fun _ _ _ _ => rfl⟩
theorem Pair.drew {g h : Nat} {a w : World} (x : Pair g h a w) : Pair g h a w.drew := x.trans ⟨rfl, rfl, rfl, Nat.le_refl _, fun _ _ _ _ => rfl⟩
theorem Pair.drew2 {g h : Nat} {a w : World} (x : Pair g h a.drew w) : Pair g h a w := ⟨x.os, x.tape, x.output, x.size, x.block⟩
theorem Pair.setCell {g h : Nat} {a w : World} (x : Pair g h a w) {p : Addr} (hp : p.block = g ∨ p.block = h) (u : Value) : Pair g h a (w.setCell p u) :=
  x.trans ⟨rfl, rfl, rfl, by simp [World.setCell], fun k _ h1 h2 => Below.heap_setCell _ _ _ _ (by rcases hp with e | e <;> omega)⟩
theorem Pair.cell {g h : Nat} {w w' : World} (x : Pair g h w w') {p : Addr} (h0 : p.block < w.heap.size) (h1 : p.block ≠ g) (h2 : p.block ≠ h) : w'.cell? p = w.cell? p := World.cell?_of_block (w := w) (x.block p.block h0 h1 h2)
theorem Pair.alloc {g h : Nat} {a w : World} (x : Pair g h a w) (o : Obj) : Pair g h a (w.alloc o) :=
  x.trans ⟨rfl, rfl, rfl, by simp, fun k h0 _ _ => Go.Deep.blk_alloc_lt _ _ _ h0⟩
theorem Pair.below {g h n0 : Nat} {w w' : World} (x : Pair g h w w') (h0 : n0 ≤ w.heap.size) (hg : n0 ≤ g) (hh : n0 ≤ h) : Below n0 w w' :=
  ⟨x.os, x.tape, x.output, x.size, fun k hk => x.block k (by omega) (by omega) (by omega)⟩

theorem ft_fits {p : Nat} (h3 : 3 ≤ p) (hm : p ≤ 2147483647) {f : Nat → Int} {r : Int} {n : Nat} (h : ∀ j, j < n → -9223372036854775808 ≤ f j ∧ f j ≤ 9223372036854775807) :
    ∀ j, j < n → -9223372036854775808 ≤ Dom.ft p f r n j ∧ Dom.ft p f r n j ≤ 9223372036854775807 := fun j hj => by
  by_cases e : n = 1
  · subst e; rw [Dom.ft_one]; exact h j hj
  · have := Dom.ft_bounds (p := p) (by omega) f r e j
    omega

/-- two places turned -/
def up2 (F : Nat → Value) (i : Nat) (x : Value) (j : Nat) (y : Value) : Nat → Value := fun t => if t = j then y else if t = i then x else F t
theorem rowIs_two {w : World} {g N : Nat} {t : TypeId} {F : Nat → Value} (h : w.rowIs g t N F) (i j : Nat) (x y : Value) : ((w.setCell ⟨g, i, none⟩ x).setCell ⟨g, j, none⟩ y).rowIs g t N (up2 F i x j y) :=
  ((h.set i x).set j y).congr (fun _ _ => rfl)

end Go.Proofs.YtaibngnabhmabajGreatDoor

namespace Go.Proofs.YtaibngnabhmabajGreatDoor
open Go.RowKit

end Go.Proofs.YtaibngnabhmabajGreatDoor

namespace Go.Proofs.YtaibngnabhmabajGreatDoor
open Go.RowKit

theorem evz_pt (p : Nat) (hp : 0 < p) (zs : List Int) (s r : Int) (j : Nat) : Pol.ps (zat zs) (s * r ^ j) zs.length % (p : Int) = evz p zs (Dom.pt p s r j) := by
  unfold evz Dom.pt
  rw [Pol.emod_eq_iff hp]
  exact Dom.ps_point (zat zs) (by have := Int.dvd_neg.2 (Pol.emod_dvd p (s * r ^ j)); rwa [Int.neg_sub] at this) _

end Go.Proofs.YtaibngnabhmabajGreatDoor

namespace Go.Proofs.YtaibngnabhmabajGreatDoor
open Go.RowKit

theorem rowIs_of_owns {w : World} {base : Nat} {v : Value} {zs : List Int} (h : w.ownsRow base 3 1 v zs.length (zs.map (Value.int .i64))) (h0 : 0 < zs.length) :
    ∃ (g N : Nat) (F : Nat → Value), v = .slice (some ⟨g, 0, none⟩) zs.length N ∧ base ≤ g ∧ w.rowIs g 3 N F ∧ zs.length ≤ N ∧ ∀ j, j < zs.length → F j = .int .i64 (zat zs j) := by
  rcases h.2 with ⟨_, h2⟩ | ⟨g, cap, cur, hv, hb, hg, hn, _, hs, ht⟩
  · omega
  · refine ⟨g, cap, fun j => cur.getD j (.int .i64 0), hv, hb, ⟨cur, hg, by omega, fun i hi => ?_⟩, hn, fun j hj => ?_⟩
    · simp [show i < cur.size by omega]
    · have e : (cur.toList.take (zs.length * 1))[j]? = (zs.map (Value.int .i64))[j]? := by rw [ht]
      rw [List.getElem?_take, if_pos (by omega)] at e
      simp [hj, show j < cur.size by omega, zat] at e ⊢
      exact e

end Go.Proofs.YtaibngnabhmabajGreatDoor

namespace Go.Proofs.YtaibngnabhmabajGreatDoor
open Go.RowKit

theorem inv_dvd_one {p : Nat} (hp : Num.Prime p) (h3 : 3 ≤ p) {z : Int} (h : ¬ (p : Int) ∣ z) : (p : Int) ∣ (invn p z : Int) * z - 1 := by
  have hz : z % (p : Int) ≠ 0 := fun e => h (Int.dvd_of_emod_eq_zero e)
  have h1 : 0 < el p z := by have := (emod_bounds z p h3).1; unfold el; omega
  have h2 := el_lt p z h3
  have key : invn p z * el p z % p = 1 := by
    unfold invn
    have : el p z = Num.pwm p (el p z) 1 := (Num.pwm_one p _ h2).symm
    rw [show Num.pwm p (el p z) (p - 2) * el p z = Num.pwm p (el p z) (p - 2) * Num.pwm p (el p z) 1 from by rw [← this], Num.pwm_add, show p - 2 + 1 = p - 1 from by omega]
    exact Num.pwm_fermat hp h1 h2
  have e1 := el_cast p z h3
  have d1 : (p : Int) ∣ ((invn p z * el p z : Nat) : Int) - 1 := by
    have hm := Nat.div_add_mod (invn p z * el p z) p
    rw [key] at hm
    obtain ⟨k, hk⟩ : ∃ k, p * k + 1 = invn p z * el p z := ⟨_, hm⟩
    rw [← hk]
    exact ⟨(k : Int), by push_cast; omega⟩
  have d2 : (p : Int) ∣ (invn p z : Int) * (z % (p : Int) - z) := Int.dvd_mul_of_dvd_right (Pol.emod_dvd p z)
  have := Int.dvd_sub d1 d2
  rw [show ((invn p z * el p z : Nat) : Int) - 1 - (invn p z : Int) * (z % (p : Int) - z) = (invn p z : Int) * z - 1 from by push_cast; rw [e1]; grind] at this
  exact this

/-- the polynomial's places ahead of Trim -/
def coefs (p : Nat) (zs : List Int) (n : Nat) (v m t : Int) : Nat → Int := fun j => Dom.ft p (zat zs) v n j * (m * t ^ j % (p : Int)) % (p : Int)

end Go.Proofs.YtaibngnabhmabajGreatDoor

namespace Go.Proofs.YtaibngnabhmabajGreatDoor
open Go.RowKit

theorem evz_mkn {p : Nat} (hp : 0 < p) (f : Nat → Int) (n : Nat) (h : ∀ j, n ≤ j → f j % (p : Int) = 0) (x : Int) : evz p (Pol.mk p f n) x = Pol.ps f x n % (p : Int) := by
  unfold evz
  rw [Pol.emod_eq_iff hp]
  have hl : (Pol.mk p f n).length ≤ n := by rw [Pol.mk_length]; exact Pol.tp_le _ _ _
  have h1 := Pol.ps_more (p := p) (f := Pol.cf (Pol.mk p f n)) x (Pol.mk p f n).length n hl (fun j hj => by rw [Pol.cf_ge hj]; exact Int.dvd_zero _)
  have h2 := Pol.ps_congr (p := p) x n (fun j _ => Pol.mk_eqp h j)
  have := Int.dvd_sub h2 h1
  rwa [show ∀ a b c : Int, a - b - (a - c) = c - b from fun a b c => by omega] at this
theorem evz_trim {p : Nat} (hp : 0 < p) (zs : List Int) (x : Int) : evz p (Pol.trim p zs) x = evz p zs x := evz_mkn hp (Pol.cf zs) zs.length (Pol.cf_behind p zs) x

theorem evz_mul {p : Nat} (hp : 0 < p) (xs ys : List Int) (x : Int) : evz p xs x * evz p ys x % (p : Int) = evz p (Pol.pmul p xs ys) x := by
  rw [Pol.pmul, evz_mkn hp _ _ (Pol.pmul_b p xs ys), Dom.ps_mul (Pol.cf xs) (Pol.cf ys) x xs.length ys.length (fun j hj => Pol.cf_ge hj) (fun j hj => Pol.cf_ge hj)]
  unfold evz
  rw [← Int.mul_emod]
  rfl

theorem two_pow_nd {p : Nat} (hp : Num.Prime p) (h3 : 3 ≤ p) (k : Nat) : ¬ (p : Int) ∣ ((2 ^ k : Nat) : Int) := by
  rw [Int.natCast_pow]
  refine Dom.pow_nd hp (fun h => ?_) k
  have := Int.le_of_dvd (by decide) h
  omega

/-- the way back -/
theorem evz_coefs {p n : Nat} (hp : Num.Prime p) (h3 : 3 ≤ p) {r s : Int} (zs : List Int) (h : Dom.Ord p r n) (hs : ¬ (p : Int) ∣ s) (hn : ¬ (p : Int) ∣ (n : Int)) (j : Nat) (hj : j < n) :
    evz p (Pol.trim p (ls (coefs p zs n (invn p r) (invn p n) (invn p s)) n)) (Dom.pt p s r j) = zat zs j % (p : Int) := by
  have hb := Dom.back hp h (inv_dvd_one hp h3 (h.nd hp)) (inv_dvd_one hp h3 hs) (inv_dvd_one hp h3 hn) (zat zs) (coefs p zs n (invn p r) (invn p n) (invn p s)) (fun j hj => Dom.back_coef (zat zs) _ _ _ hj _ rfl) j hj
  rw [evz_trim (by omega), ← evz_pt p (by omega), ls_len, Pol.emod_eq_iff (by omega)]
  rwa [show Pol.ps (zat (ls (coefs p zs n (invn p r) (invn p n) (invn p s)) n)) (s * r ^ j) n = Pol.ps (coefs p zs n (invn p r) (invn p n) (invn p s)) (s * r ^ j) n from by
    rw [Dom.ps_sm, Dom.ps_sm]; exact Dom.sm_same (fun i hi => by rw [ls_at _ _ _ hi])]

/-- the sum of all values -/
theorem sum_evz {p n : Nat} (hp : Num.Prime p) {r : Int} (s : Int) (zs : List Int) (h : Dom.Ord p r n) (hd : tpn p (zat zs) zs.length ≤ n) :
    Dom.sm (fun i => evz p zs (Dom.pt p s r i)) n % (p : Int) = zat zs 0 * (n : Int) % (p : Int) := by
  have hp0 : 0 < p := by have := hp.1; omega
  have h1 := Dom.sum_values hp h (zat zs) s (zs.length + 1) (by omega) (fun j h1 h2 => by
    by_cases e : j < zs.length
    · exact Pol.emod_zero_iff.1 (Pol.tp_behind p (zat zs) zs.length j (Nat.le_trans hd h1) e)
    · rw [show zat zs j = 0 from by simp [zat, show zs.length ≤ j from by omega]]; exact Int.dvd_zero _)
  rw [Pol.emod_eq_iff hp0]
  have h2 : (p : Int) ∣ Dom.sm (fun i => evz p zs (Dom.pt p s r i)) n - Dom.sm (fun i => Pol.ps (zat zs) (s * r ^ i) (zs.length + 1)) n := by
    refine Dom.sm_congr (fun i _ => ?_)
    rw [← evz_pt p hp0, show Pol.ps (zat zs) (s * r ^ i) (zs.length + 1) = Pol.ps (zat zs) (s * r ^ i) zs.length from by
      rw [Pol.ps, show zat zs zs.length = 0 from by simp [zat]]; simp]
    exact Pol.emod_dvd p _
  have := Int.dvd_add h2 h1
  rwa [show ∀ a b c d : Int, a - b + (b - c * d) = a - d * c from fun a b c d => by grind] at this

/-- what Root answers for a size that may be -/
theorem root_ord2 {p k r : Nat} (hp : Num.Prime p) (h3 : 3 ≤ p) (hd : (p - 1) % 2 ^ k = 0) (h : RootIs p ((2 ^ k : Nat) : Int) r) : Dom.Ord p (r : Int) (2 ^ k) ∧ r < p := by
  have hpos : 1 ≤ 2 ^ k := Nat.pow_pos (by decide)
  rcases h with ⟨h1, _⟩ | ⟨_, _, g, hg, rfl⟩
  · rcases h1 with h1 | h1
    · omega
    · exact absurd (sizeOk_nat h3 hd) h1
  · obtain ⟨g1, g2, g3⟩ := Num.genIs_some hp h3 hg
    rw [Int.toNat_natCast]
    exact ⟨Num.root_circle hp h3 g1 g2 g3 hpos (Nat.dvd_of_mod_eq_zero hd), Num.pwm_lt _ _ _ (by omega)⟩

end Go.Proofs.YtaibngnabhmabajGreatDoor

namespace Go.Proofs.YtaibngnabhmabajGreatDoor
open Go.RowKit

/-- one of the first k powers of 2 -/
def twoB (n : Int) : Nat → Bool
  | 0 => false
  | k + 1 => twoB n k || (((2 ^ k : Nat) : Int) == n)
theorem twoB_iff (n : Int) : ∀ k, twoB n k = true ↔ ∃ j, j < k ∧ n = ((2 ^ j : Nat) : Int)
  | 0 => by simp [twoB]
  | k + 1 => by
    rw [twoB, Bool.or_eq_true, beq_iff_eq, twoB_iff n k]
    constructor
    · rintro (⟨j, h1, h2⟩ | h)
      · exact ⟨j, by omega, h2⟩
      · exact ⟨k, by omega, h.symm⟩
    · rintro ⟨j, h1, h2⟩
      by_cases e : j = k
      · subst e; exact Or.inr h2.symm
      · exact Or.inl ⟨j, by omega, h2⟩

/-- what Fault answers -/
def FaultIs (q : Nat) (n s c : Int) : Prop := (¬ SizeOk q n ∧ c = 2) ∨ (SizeOk q n ∧ s % (q : Int) = 0 ∧ c = 3) ∨ (SizeOk q n ∧ ¬ s % (q : Int) = 0 ∧ c = 0)

end Go.Proofs.YtaibngnabhmabajGreatDoor

namespace Go.Proofs.YtaibngnabhmabajGreatDoor
open Go.RowKit

/-- a domain may be made of these -/
structure GoodAt (q k : Nat) (s : Int) : Prop where
  pr : Num.Prime q
  h3 : 3 ≤ q
  h4 : q ≤ 2147483647
  hk : k ≤ 16
  hd : (q - 1) % 2 ^ k = 0
  hs : ¬ s % (q : Int) = 0
def Good (p n s : Int) : Prop := ∃ q k : Nat, p = (q : Int) ∧ n = ((2 ^ k : Nat) : Int) ∧ GoodAt q k s

theorem two_pow_le {k : Nat} (hk : k ≤ 16) : 2 ^ k ≤ 65536 := Nat.pow_le_pow_right (by decide : 0 < 2) hk

theorem not_dvd_of_emod {p : Nat} {s : Int} (h : ¬ s % (p : Int) = 0) : ¬ (p : Int) ∣ s % (p : Int) := fun hd => h (by
  have := Int.emod_eq_zero_of_dvd hd
  rwa [Int.emod_emod_of_dvd _ (Int.dvd_refl _)] at this)

theorem root17 : RootIs 17 ((2 ^ 2 : Nat) : Int) 13 := Or.inr ⟨by decide, by decide, 3, gen17, by decide⟩

theorem rowB_of_rowIs {w : World} {g n n0 : Nat} {f : Nat → Int} {zs : List Int} (h : w.rowIs g 3 n (fun j => .int .i64 (f j))) (hn : zs.length ≤ n) (hz : ∀ j, j < zs.length → zat zs j = f j) (hg : g < n0) : RowB n0 w (some ⟨g, 0, none⟩) zs :=
  fun k hk => ⟨g, 0, rfl, hg, by rw [Nat.zero_add, hz k hk]; exact h.cell (by omega)⟩

end Go.Proofs.YtaibngnabhmabajGreatDoor

namespace Go.Proofs.YtaibngnabhmabajGreatDoor
open Go.RowKit

theorem Pair.grown {g h : Nat} {a w w' : World} {row : Option Nat} (x : Pair g h a w) (hg : w.grownBy w' row) (hr : ∀ k, row = some k → k = g ∨ k = h) : Pair g h a w' :=
  x.trans ⟨hg.os, hg.tape, hg.output, hg.size, fun k hk h1 h2 => hg.block k hk (fun e => by rcases hr k e.symm with e | e <;> omega)⟩

end Go.Proofs.YtaibngnabhmabajGreatDoor

namespace Go.Proofs.YtaibngnabhmabajGreatDoor
open Go.RowKit

theorem results_tct {P : Program} {fn : Func} {t p u : Tmp} {ty : TypeId} (h : fn.results = #[.tmp t, .cell p ty, .tmp u]) (tmps : Array Value) (w : World) (g : Nat) (tt : TypeId) (cs : Array Value) (fr : Nat × Nat) (d : TypeDesc)
    (hp : tmps.getD p undef = .pointer (some ⟨g, 0, none⟩)) (hg : w.heap[g]? = some (.cells cs tt fr))
    (hu : P.underlying ty = some d) (hd : (match d with | .struct _ | .array _ _ => true | _ => false) = true) (hi : (P.info? ty).map (·.size) = some cs.size) :
    (results fn tmps).run P w = .ok (.tuple #[tmps.getD t undef, .agg cs, tmps.getD u undef]) w := by
  have hp' : tmps[p]?.getD undef = .pointer (some ⟨g, 0, none⟩) := by simpa using hp
  simp [results, h, hp', asAddr, run_loadVar_row w g tt ty cs fr d hg hu hd hi]

/-- four cells -/
def quad (a b c d : Value) : Nat → Value
  | 0 => a
  | 1 => b
  | 2 => c
  | _ => d
theorem quad_new (w : World) (t : TypeId) (a b c d : Value) : (w.alloc (.cells #[a, b, c, d] t)).rowIs w.heap.size t 4 (quad a b c d) :=
  ⟨#[a, b, c, d], heap_alloc_new w _, rfl, fun i hi => by
    have : i = 0 ∨ i = 1 ∨ i = 2 ∨ i = 3 := by omega
    rcases this with rfl | rfl | rfl | rfl <;> rfl⟩
theorem quad_arr {W : World} {g : Nat} {t : TypeId} {a b c d : Value} (h : W.rowIs g t 4 (quad a b c d)) : W.heap[g]? = some (.cells #[a, b, c, d] t (0, 0)) := by
  obtain ⟨cs, h1, h2, h4⟩ := h
  rw [h1]
  have e : cs = #[a, b, c, d] := by
    apply Array.ext
    · simpa using h2
    · intro i hi hi2
      have h0 : i = 0 ∨ i = 1 ∨ i = 2 ∨ i = 3 := by simp at hi2; omega
      have h5 := h4 i (by omega)
      rw [Array.getElem?_eq_getElem hi] at h5
      have h6 := Option.some.inj h5
      rw [h6]
      rcases h0 with rfl | rfl | rfl | rfl <;> rfl
  rw [e]
theorem quad_set {W : World} {g : Nat} {t : TypeId} {f : Nat → Value} (h : W.rowIs g t 4 f) (a b c d : Value) : ((((W.setCell ⟨g, 0, none⟩ a).setCell ⟨g, 1, none⟩ b).setCell ⟨g, 2, none⟩ c).setCell ⟨g, 3, none⟩ d).rowIs g t 4 (quad a b c d) :=
  ((((h.set 0 a).set 1 b).set 2 c).set 3 d).congr (fun i hi => by
    have : i = 0 ∨ i = 1 ∨ i = 2 ∨ i = 3 := by omega
    rcases this with rfl | rfl | rfl | rfl <;> simp [quad])

theorem DomAt.pair {w w' : World} {g h d b : Nat} {n r s : Int} (x : DomAt w d b n r s) (e : Pair g h w w') (hl : d < w.heap.size) (hg : d ≠ g) (hh : d ≠ h) : DomAt w' d b n r s :=
  ⟨(e.cell (p := ⟨d, 0, none⟩) hl hg hh).trans x.f, (e.cell (p := ⟨d, 1, none⟩) hl hg hh).trans x.n, (e.cell (p := ⟨d, 2, none⟩) hl hg hh).trans x.r, (e.cell (p := ⟨d, 3, none⟩) hl hg hh).trans x.s⟩

end Go.Proofs.YtaibngnabhmabajGreatDoor
