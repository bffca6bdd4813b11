/- What remainder, leastDivisor, and the methods Of and Mul of a field do, for every input that the program gives them: the world stays as it is. What bits.Len answers in this program, by the library's own contract: the number of halvings till nothing is left; and that a number is below that power of 2. What the methods Pow and Inv of a field answer: so many equal factors modulo p, the number of factors taken modulo p - 1. What primeDivisors answers: a new list of the primes that divide its number; nothing that was there has turned. What New answers: of a prime that may be a field, of any other number none. What the methods Order, isGenerator and Generator of a field answer. What package attestref1 answers of elements and powers, and what makes 1 of an element. What package attestref1 answers of sums, differences, products and quotients; and the field's methods Add, Sub, Neg, Div. What attestref1.Order, Generator and Root and the field's methods Root and P answer: the same on both sides. What attestref1.Generator and Root and the field's methods Root and P answer. What a walk says of memory: lists that can be read, lists of the call's own, and worlds in which one block alone has turned. attestsame.Ints: whether two lists of numbers are the same, for every two lists that can be read; nothing turns. Lists that are gathered by append: what they hold can be read. errors.As at a target that is a variable of type api.Errno, by the text of the library itself: a nil error is none; an error that is an api.Errno is put into the variable. Then plain.Told and attestsame.Error by it. plain.Told, attestsame.Error, attestref1.Prime and attestsame.Field by their contracts: of a prime that may be there is a field, of any other number there is none, and both sides say so. -/
import Derived.Test.YtmmgkdcojkmlcaaGreatDoorRows
import Derived.Test.YtmmgkdcojkmlcaaGreatDoorPlain
import Derived.KernelRfl
import Derived.WalkKit
import Derived.WalkSpells
import Derived.WalkLawsBesides
import Derived.Shelf.Small.Bits
import Derived.Lib.BitFns
import Derived.Test.YtmmgkdcojkmlcaaGreatDoorProg
import Derived.Deep.RegionWith
import Derived.WalkSmall
import Derived.Deep.QuietTactic
import Derived.BigQuiet
import Derived.Deep.OwnRows
import Derived.LaidEql
import Derived.Stop.Asserts
import Derived.RowKitTokens
namespace Go.Proofs.YtmmgkdcojkmlcaaGreatDoor
open Go.RowKit

theorem hid {p : Prop} (h : p) : Hid p := h

theorem ret_int {k : IntKind} {a b : Int} (h : a = b) : Ending.returned (.int k a) = .returned (.int k b) := by rw [h]

theorem tmod_neg_fix (n m : Int) (hm : 0 < m) (h : n.tmod m < 0) : n.tmod m + m = n % m := by
  have e := Int.tmod_eq_emod (a := n) (b := m)
  have h1 := Int.emod_nonneg n (b := m) (by omega)
  split at e
  · omega
  · have : (m.natAbs : Int) = m := by omega
    omega

theorem tmod_pos_fix (n m : Int) (hm : 0 < m) (h : ¬ n.tmod m < 0) : n.tmod m = n % m := by
  have e := Int.tmod_eq_emod (a := n) (b := m)
  have h2 := Int.emod_lt_of_pos n hm
  split at e
  · omega
  · have : (m.natAbs : Int) = m := by omega
    omega

theorem tmod_bounds (n m : Int) (hm : 0 < m) : -m ≤ n.tmod m ∧ n.tmod m < m := by
  have h1 := Int.emod_nonneg n (b := m) (by omega)
  have h2 := Int.emod_lt_of_pos n hm
  by_cases h : n.tmod m < 0
  · have := tmod_neg_fix n m hm h; omega
  · have := tmod_pos_fix n m hm h; omega

set_option maxHeartbeats 400000 in
theorem rem_any (n m : Int) (w : World) (hm : 0 < m) (hm2 : m ≤ 2147483647) (_hn : -9223372036854775808 ≤ n) (_hn2 : n ≤ 9223372036854775807) :
    Calls Tryz.prog 18 #[.int .i64 n, .int .i64 m] w fun e w' => e = .returned (.int .i64 (n % m)) ∧ w' = w := by
  by_cases h1 : 0 ≤ n
  · by_cases h2 : n < m
    · have he : Hid (n % m = n) := hid (Int.emod_eq_of_lt h1 h2)
      go_enter Tryz.func18, Tryz.ntmps18
      go_wp2
      go_ret
      exact ⟨ret_int he.out.symm, rfl⟩
    · have hb1 := Int.emod_nonneg n (b := m) (by omega)
      go_enter Tryz.func18, Tryz.ntmps18
      go_wp2
      go_ret
      exact ⟨rfl, rfl⟩
  · obtain ⟨hb1, hb2⟩ := tmod_bounds n m hm
    by_cases h2 : n.tmod m < 0
    · have he : Hid (n.tmod m + m = n % m) := hid (tmod_neg_fix n m hm h2)
      have hs1 : 0 ≤ n.tmod m + m := by omega
      go_enter Tryz.func18, Tryz.ntmps18
      go_wp2
      go_ret
      exact ⟨ret_int he.out, rfl⟩
    · have he : Hid (n.tmod m = n % m) := hid (tmod_pos_fix n m hm h2)
      go_enter Tryz.func18, Tryz.ntmps18
      go_wp2
      go_ret
      exact ⟨ret_int he.out, rfl⟩

/-- leastDivisor: the least divisor from 2 on. -/
theorem sq_le (k n : Nat) (h : k * k ≤ n) (hn : n ≤ 2147483647) : k ≤ 46340 := by
  rcases Nat.lt_or_ge 46340 k with g | g
  · have : 46341 * 46341 ≤ k * k := Nat.mul_le_mul g g
    omega
  · exact g

set_option maxHeartbeats 400000 in
theorem least_any (n : Nat) (w : World) (h2 : 2 ≤ n) (hm : n ≤ 2147483647) :
    Calls Tryz.prog 31 #[.int .i64 n] w fun e w' => ∃ d : Nat, e = .returned (.int .i64 d) ∧ Num.Least n d ∧ w' = w := by
  go_enter Tryz.func31, Tryz.ntmps31
  go_wp2
  go_loop [3] (fun i => ∃ k : Nat, 2 ≤ k ∧ k ≤ 46341 ∧ i = .int .i64 k ∧ ∀ e, 2 ≤ e → e < k → ¬ e ∣ n) (fun i => 46341 - (intOf i).toNat)
  case atStart => exact ⟨2, by omega, by omega, rfl, fun e h g => by omega⟩
  case round =>
    obtain ⟨k, hk2, hk, rfl, hno⟩ := hrel
    have HN := hid hno
    clear hno
    have hsq : ((k : Int) * k) = ((k * k : Nat) : Int) := by simp
    have hkk : k * k ≤ 46341 * 46341 := Nat.mul_le_mul hk hk
    have hq1 : 0 ≤ (k : Int) * k := by omega
    have hq2 : (k : Int) * k ≤ 2147488281 := by omega
    by_cases hle : k * k ≤ n
    · have hk3 := sq_le k n hle hm
      have hle2 : (k : Int) * k ≤ n := by omega
      clear hsq hle hkk
      by_cases hd : k ∣ n
      · have hmod : ((n : Int) % (k : Int) == 0) = true := by
          rw [beq_iff_eq]; exact Int.emod_eq_zero_of_dvd (Int.ofNat_dvd.2 hd)
        have HD := hid hd
        clear hd
        go_wp2
        go_ret
        exact ⟨k, rfl, ⟨hk2, HD.out, HN.out⟩, rfl⟩
      · have hmod : ((n : Int) % (k : Int) == 0) = false := by
          rw [beq_eq_false_iff_ne]; intro g; exact hd (Int.ofNat_dvd.1 (Int.dvd_of_emod_eq_zero g))
        have HD := hid hd
        clear hd
        go_wp2
        go_round
        case rel => exact ⟨k + 1, by omega, by omega, by go_num, fun e he hlt hde => by
          by_cases hek : e = k
          · subst hek; exact HD.out hde
          · exact HN.out e he (by omega) hde⟩
        case measure => simp [intOf]; omega
    · have hle2 : ¬ (k : Int) * k ≤ n := by omega
      have HL := hid hle
      clear hsq hle hkk
      go_wp2
      go_ret
      exact ⟨n, rfl, Num.least_self h2 (Nat.lt_of_not_le HL.out) HN.out, rfl⟩

set_option maxHeartbeats 400000 in
theorem of_any (p b : Nat) (n : Int) (w : World) (h3 : 3 ≤ p) (hm : p ≤ 2147483647) (hp : w.cell? ⟨b, 0, none⟩ = some (.int .i64 p))
    (hn : -9223372036854775808 ≤ n) (hn2 : n ≤ 9223372036854775807) :
    Calls Tryz.prog 7 #[.pointer (some ⟨b, 0, none⟩), .int .i64 n] w fun e w' => e = .returned (.int .i64 (n % p)) ∧ w' = w := by
  go_enter Tryz.func7, Tryz.ntmps7
  go_wp2_with (go_at_call 18; refine (rem_any n p w (by omega) (by omega) hn hn2).mono ?_; rintro e w' ⟨rfl, rfl⟩)
  go_ret
  exact ⟨rfl, rfl⟩

end Go.Proofs.YtmmgkdcojkmlcaaGreatDoor

namespace Go.Proofs
open Go.Shelf
end Go.Proofs

namespace Go.Proofs.YtmmgkdcojkmlcaaGreatDoor
open Go.RowKit

/-- the element as a number -/
def el (p : Nat) (a : Int) : Nat := (a % (p : Int)).toNat

end Go.Proofs.YtmmgkdcojkmlcaaGreatDoor

namespace Go.Proofs.YtmmgkdcojkmlcaaGreatDoor
open Go.RowKit

/-- numbers as cells -/
def cellsOf (ds : List Nat) : List Value := ds.map (fun d : Nat => Value.int .i64 d)

end Go.Proofs.YtmmgkdcojkmlcaaGreatDoor

namespace Go.Proofs.YtmmgkdcojkmlcaaGreatDoor
open Go.RowKit

/-- a number that is a prime that may be -/
def okPrime (p : Int) : Prop := 3 ≤ p ∧ p ≤ 2147483647 ∧ Num.Prime p.toNat

set_option maxHeartbeats 400000 in
theorem new_no (p : Int) (w : World) (hno : ¬ okPrime p) (h1 : -9223372036854775808 ≤ p) (h2 : p ≤ 9223372036854775807) :
    Calls Tryz.prog 15 #[.int .i64 p] w fun e w' => e = .returned (.tuple #[.pointer none, .iface 57 (.int .i64 1)]) ∧ w' = w := by
  by_cases h3 : p < 3
  · go_enter Tryz.func15, Tryz.ntmps15
    go_wp2_with fail
    go_ret2
    exact ⟨rfl, rfl⟩
  · by_cases h4 : 2147483647 < p
    · go_enter Tryz.func15, Tryz.ntmps15
      go_wp2_with fail
      go_ret2
      exact ⟨rfl, rfl⟩
    · obtain ⟨q, rfl⟩ := Int.eq_ofNat_of_zero_le (show 0 ≤ p by omega)
      have HN := hid hno
      clear hno
      go_enter Tryz.func15, Tryz.ntmps15
      go_wp2_with fail
      refine (least_any q _ (by omega) (by omega)).mono ?_
      rintro e w1 ⟨d, rfl, hl, rfl⟩
      have hne : ((d : Int) != (q : Int)) = true := by
        rw [bne_iff_ne]; intro g
        have g2 : d = q := by omega
        subst g2
        exact HN.out ⟨by omega, by omega, by rw [Int.toNat_natCast]; exact Num.least_prime hl⟩
      clear hl
      go_wp2_with fail
      go_ret2
      exact ⟨rfl, rfl⟩

end Go.Proofs.YtmmgkdcojkmlcaaGreatDoor

namespace Go.Proofs.YtmmgkdcojkmlcaaGreatDoor
open Go.RowKit

end Go.Proofs.YtmmgkdcojkmlcaaGreatDoor

namespace Go.Proofs.YtmmgkdcojkmlcaaGreatDoor
open Go.RowKit

/-- what makes 1 of an element -/
def invn (p : Nat) (a : Int) : Nat := Num.pwm p (el p a) (p - 2)

end Go.Proofs.YtmmgkdcojkmlcaaGreatDoor

namespace Go.Proofs.YtmmgkdcojkmlcaaGreatDoor
open Go.RowKit

end Go.Proofs.YtmmgkdcojkmlcaaGreatDoor

namespace Go.Proofs.YtmmgkdcojkmlcaaGreatDoor
open Go.RowKit

end Go.Proofs.YtmmgkdcojkmlcaaGreatDoor

namespace Go.Proofs.YtmmgkdcojkmlcaaGreatDoor
open Go.RowKit

end Go.Proofs.YtmmgkdcojkmlcaaGreatDoor

namespace Go.Proofs.YtmmgkdcojkmlcaaGreatDoor
open Go.RowKit

/-- what stands at a place -/
def zat (zs : List Int) (i : Nat) : Int := zs[i]?.getD 0

/-- a list that can be read, in a block of which P holds -/
def RowP (P : Nat → Prop) (w : World) (a : Option Addr) (zs : List Int) : Prop :=
  ∀ k, k < zs.length → ∃ b o, a = some ⟨b, o, none⟩ ∧ P b ∧ w.cell? ⟨b, o + k, none⟩ = some (.int .i64 (zat zs k))
/-- a list that can be read, below n0 -/
def RowB (n0 : Nat) (w : World) (a : Option Addr) (zs : List Int) : Prop :=
  ∀ k, k < zs.length → ∃ b o, a = some ⟨b, o, none⟩ ∧ b < n0 ∧ w.cell? ⟨b, o + k, none⟩ = some (.int .i64 (zat zs k))
theorem RowB.below {n0 : Nat} {A B : World} {a : Option Addr} {zs : List Int} (h : Below n0 A B) (r : RowB n0 A a zs) : RowB n0 B a zs := by
  intro k hk
  obtain ⟨b, o, h1, h2, h3⟩ := r k hk
  exact ⟨b, o, h1, h2, (h.cell (p := ⟨b, o + k, none⟩) h2).trans h3⟩
theorem RowB.mono {n0 n1 : Nat} {A : World} {a : Option Addr} {zs : List Int} (h : n0 ≤ n1) (r : RowB n0 A a zs) : RowB n1 A a zs := by
  intro k hk
  obtain ⟨b, o, h1, h2, h3⟩ := r k hk
  exact ⟨b, o, h1, by omega, h3⟩
theorem RowB.p {n0 : Nat} {P : Nat → Prop} {A : World} {a : Option Addr} {zs : List Int} (h : ∀ b, b < n0 → P b) (r : RowB n0 A a zs) : RowP P A a zs := by
  intro k hk
  obtain ⟨b, o, h1, h2, h3⟩ := r k hk
  exact ⟨b, o, h1, h b h2, h3⟩

/-- block g alone has turned, and there is no new one -/
structure Only (g : Nat) (w w' : World) : Prop where
  os : w'.os = w.os
  tape : w'.tape = w.tape
  output : w'.output = w.output
  size : w'.heap.size = w.heap.size
  block : ∀ k, k ≠ g → w'.heap[k]? = w.heap[k]?

theorem Only.refl (g : Nat) (w : World) : Only g w w := ⟨rfl, rfl, rfl, rfl, fun _ _ => rfl⟩
theorem Only.trans {g : Nat} {a b c : World} (h : Only g a b) (k : Only g b c) : Only g a c :=
  ⟨k.os.trans h.os, k.tape.trans h.tape, k.output.trans h.output, k.size.trans h.size, fun i hi => (k.block i hi).trans (h.block i hi)⟩
theorem Only.drew {g : Nat} {a w : World} (h : Only g a w) : Only g a w.drew := ⟨h.os, h.tape, h.output, h.size, h.block⟩
theorem Only.drewN {g : Nat} {a w : World} (h : Only g a w) (n : Nat) : Only g a (w.drewN n) := h.trans ⟨rfl, rfl, rfl, rfl, fun _ _ => rfl⟩
theorem Only.setCell {g : Nat} {a w : World} (h : Only g a w) {p : Addr} (hp : p.block = g) (u : Value) : Only g a (w.setCell p u) :=
  h.trans ⟨rfl, rfl, rfl, by simp [World.setCell], fun k hk => Below.heap_setCell _ _ _ _ (by omega)⟩
theorem Only.cell {g : Nat} {w w' : World} (h : Only g w w') {p : Addr} (hp : p.block ≠ g) : w'.cell? p = w.cell? p := World.cell?_of_block (w := w) (h.block p.block hp)
theorem Only.frozen {g : Nat} {w w' : World} (h : Only g w w') {p : Addr} (hp : p.block ≠ g) : w'.frozen? p = w.frozen? p := World.frozen?_of_block (w := w) (h.block p.block hp)
theorem Only.below {g n0 : Nat} {w w' : World} (h : Only g w w') (hg : n0 ≤ g) : Below n0 w w' :=
  ⟨h.os, h.tape, h.output, by rw [h.size]; exact Nat.le_refl _, fun k hk => h.block k (by omega)⟩
theorem RowP.only {g : Nat} {P : Nat → Prop} {A B : World} {a : Option Addr} {zs : List Int} (h : Only g A B) (hP : ∀ b, P b → b ≠ g) (r : RowP P A a zs) : RowP P B a zs := by
  intro k hk
  obtain ⟨b, o, h1, h2, h3⟩ := r k hk
  exact ⟨b, o, h1, h2, (h.cell (p := ⟨b, o + k, none⟩) (hP b h2)).trans h3⟩

/-- one place turned -/
def up (f : Nat → Int) (i : Nat) (x : Int) : Nat → Int := fun j => if j = i then x else f j

/-- n cells of the call's own, from o on in block g -/
structure Cells (g o n : Nat) (f : Nat → Int) (W : World) : Prop where
  cells : ∀ j, j < n → W.cell? ⟨g, o + j, none⟩ = some (.int .i64 (f j))
  soft : ∀ j, j < n → W.frozen? ⟨g, o + j, none⟩ = false

theorem Cells.set {g o n : Nat} {f : Nat → Int} {W : World} (h : Cells g o n f W) {i : Nat} (x : Int) (hi : i < n) : Cells g o n (up f i x) (W.setCell ⟨g, o + i, none⟩ (.int .i64 x)) := by
  refine ⟨fun j hj => ?_, fun j hj => by rw [World.frozen?_setCell]; exact h.soft j hj⟩
  unfold up
  by_cases hji : j = i
  · subst hji; rw [if_pos rfl]; exact World.cell?_setCell_same _ _ _ (h.cells j hj)
  · rw [if_neg hji, World.cell?_setCell_other _ _ _ _ (by intro e; injection e with _ h2 _; omega)]; exact h.cells j hj
theorem Cells.congr {g o n : Nat} {f f' : Nat → Int} {W : World} (h : Cells g o n f W) (e : ∀ j, j < n → f j = f' j) : Cells g o n f' W :=
  ⟨fun j hj => by rw [← e j hj]; exact h.cells j hj, h.soft⟩
theorem Cells.block {g o n : Nat} {f : Nat → Int} {W W' : World} (h : Cells g o n f W) (e : W'.heap[g]? = W.heap[g]?) : Cells g o n f W' :=
  ⟨fun j hj => (World.cell?_of_block (w := W) (a := ⟨g, o + j, none⟩) e).trans (h.cells j hj), fun j hj => (World.frozen?_of_block (w := W) (a := ⟨g, o + j, none⟩) e).trans (h.soft j hj)⟩
theorem Cells.only {g g' o n : Nat} {f : Nat → Int} {W W' : World} (h : Cells g o n f W) (e : Only g' W W') (hg : g ≠ g') : Cells g o n f W' := h.block (e.block g hg)
theorem Cells.below {g o n n0 : Nat} {f : Nat → Int} {W W' : World} (h : Cells g o n f W) (e : Below n0 W W') (hg : g < n0) : Cells g o n f W' := h.block (e.block g hg)
theorem Cells.drew {g o n : Nat} {f : Nat → Int} {W : World} (h : Cells g o n f W) : Cells g o n f W.drew := ⟨h.cells, h.soft⟩
theorem Cells.less {g o n m : Nat} {f : Nat → Int} {W : World} (h : Cells g o n f W) (e : m ≤ n) : Cells g o m f W := ⟨fun j hj => h.cells j (by omega), fun j hj => h.soft j (by omega)⟩
theorem Cells.row {g n : Nat} {f : Nat → Int} {W : World} (h : Cells g 0 n f W) {zs : List Int} (hn : zs.length ≤ n) (hz : ∀ j, j < zs.length → zat zs j = f j) {n0 : Nat} (hg : g < n0) : RowB n0 W (some ⟨g, 0, none⟩) zs :=
  fun k hk => ⟨g, 0, rfl, hg, by rw [hz k hk]; exact h.cells k (by omega)⟩

/-- a list in a block from n0 on -/
def NewR (n0 : Nat) (w : World) (a : Option Addr) (zs : List Int) : Prop := RowP (fun b => n0 ≤ b ∧ b < w.heap.size) w a zs
theorem NewR.row {n0 : Nat} {w : World} {a : Option Addr} {zs : List Int} (h : NewR n0 w a zs) : RowB w.heap.size w a zs := fun k hk => by
  obtain ⟨b, o, h1, h2, h3⟩ := h k hk
  exact ⟨b, o, h1, h2.2, h3⟩
theorem NewR.below {n0 : Nat} {w w' : World} {a : Option Addr} {zs : List Int} (h : NewR n0 w a zs) (e : Below w.heap.size w w') : NewR n0 w' a zs := fun k hk => by
  obtain ⟨b, o, h1, h2, h3⟩ := h k hk
  exact ⟨b, o, h1, ⟨h2.1, Nat.lt_of_lt_of_le h2.2 e.size⟩, (e.cell (p := ⟨b, o + k, none⟩) h2.2).trans h3⟩
/-- numbers that an int holds -/
def Fits (zs : List Int) : Prop := ∀ j, j < zs.length → -9223372036854775808 ≤ zat zs j ∧ zat zs j ≤ 9223372036854775807
theorem Fits.all {zs : List Int} (h : Fits zs) (j : Nat) : -9223372036854775808 ≤ zat zs j ∧ zat zs j ≤ 9223372036854775807 := by
  by_cases hj : j < zs.length
  · exact h j hj
  · simp [zat, show zs.length ≤ j from by omega]

end Go.Proofs.YtmmgkdcojkmlcaaGreatDoor

namespace Go.Proofs.YtmmgkdcojkmlcaaGreatDoor
open Go.RowKit

end Go.Proofs.YtmmgkdcojkmlcaaGreatDoor

namespace Go.Proofs.YtmmgkdcojkmlcaaGreatDoor
open Go.RowKit

/-- a list that can be read, with its room -/
structure Lst (n0 : Nat) (w : World) (a : Option Addr) (cap : Nat) (zs : List Int) : Prop where
  row : RowB n0 w a zs
  room : zs.length ≤ cap
  nil : a = none → cap = 0

theorem Lst.below {n0 : Nat} {A B : World} {a : Option Addr} {cap : Nat} {zs : List Int} (h : Below n0 A B) (r : Lst n0 A a cap zs) : Lst n0 B a cap zs := ⟨r.row.below h, r.room, r.nil⟩
theorem Lst.mono {n0 n1 : Nat} {A : World} {a : Option Addr} {cap : Nat} {zs : List Int} (h : n0 ≤ n1) (r : Lst n0 A a cap zs) : Lst n1 A a cap zs := ⟨r.row.mono h, r.room, r.nil⟩
theorem Lst.none (n0 : Nat) (w : World) : Lst n0 w none 0 [] := ⟨fun k hk => by simp at hk, by simp, fun _ => rfl⟩

end Go.Proofs.YtmmgkdcojkmlcaaGreatDoor

namespace Go.Proofs.YtmmgkdcojkmlcaaGreatDoor
open Go.RowKit Go.Extern.Stop Go.Stop Go.Extern

theorem as_valueP (t : Addr) (w : World) : (ReflectliteValue.unpack (.iface 99 (.pointer (some t)))).run Tryz.prog w
    = .ok (.agg #[.pointer (some ⟨7, 99, none⟩), .pointer (some ⟨w.heap.size, 0, none⟩), .int .u64 150]) (w.alloc (.cells #[.pointer (some t)] 99)) := by kernel_rfl
theorem as_typeP (a : Addr) (w : World) : (ReflectliteValue.methodAny (ReflectliteValue.valueError "reflectlite.Value.Type" 0) (fun t _ _ _ => ReflectliteType.toType t) #[.agg #[.pointer (some ⟨7, 99, none⟩), .pointer (some a), .int .u64 150]]).run Tryz.prog w
    = .ok (.iface 158 (.agg #[.pointer (some ⟨7, 99, none⟩)])) w := by kernel_rfl
theorem as_mKind (h : Value) (w : World) : (Go.method 368 158 (.agg #[h]) "Kind").run Tryz.prog w = .ok (162, h) w := by kernel_rfl
theorem as_kindP (w : World) : ((ReflectliteType.abiMethod fun t => (fun a : Nat => Value.int IntKind.u8 (a : Int)) <$> Rtype.kind t) #[.pointer (some ⟨7, 99, none⟩)]).run Tryz.prog w = .ok (.int .u8 22) w := by kernel_rfl
theorem as_kindE (w : World) : ((ReflectliteType.abiMethod fun t => (fun a : Nat => Value.int IntKind.u8 (a : Int)) <$> Rtype.kind t) #[.pointer (some ⟨7, 57, none⟩)]).run Tryz.prog w = .ok (.int .u8 2) w := by kernel_rfl
theorem as_rlm (z : Sem Value) (f : TypeId → Addr → Nat → Nat → Sem Value) (v : Value) :
    ReflectliteValue.method z f #[v] = (do match ← ReflectliteValue.parts v with | none => z | some (t, a, fl) => f t a fl (fl % 32)) := rfl
theorem as_partsP (a : Addr) (w : World) : (ReflectliteValue.parts (.agg #[.pointer (some ⟨7, 99, none⟩), .pointer (some a), .int .u64 150])).run Tryz.prog w = .ok (some (99, a, 150)) w := by kernel_rfl
theorem as_isNilP (a p : Addr) (W : World) (ha : W.cell? a = some (.pointer (some p))) :
    (ReflectliteValue.method (ReflectliteValue.valueError "reflectlite.Value.IsNil" 0) ReflectliteValue.isNil #[.agg #[.pointer (some ⟨7, 99, none⟩), .pointer (some a), .int .u64 150]]).run Tryz.prog W = .ok (.bool false) W := by
  rw [as_rlm]
  simp only [Sem.run_bind, as_partsP, Result.andThen]
  simp [ReflectliteValue.isNil, loadVar, isAgg, underlying, Tryz.underlying99, ha, Result.andThen]
theorem as_mElem (h : Value) (w : World) : (Go.method 368 158 (.agg #[h]) "Elem").run Tryz.prog w = .ok (174, .agg #[h]) w := by kernel_rfl
theorem as_mImpl (h : Value) (w : World) : (Go.method 368 158 (.agg #[h]) "Implements").run Tryz.prog w = .ok (175, .agg #[h]) w := by kernel_rfl
theorem as_mAssign (h : Value) (w : World) : (Go.method 368 158 (.agg #[h]) "AssignableTo").run Tryz.prog w = .ok (172, .agg #[h]) w := by kernel_rfl
theorem as_elemP (w : World) : (ReflectliteType.method ReflectliteType.elem #[.agg #[.pointer (some ⟨7, 99, none⟩)]]).run Tryz.prog w = .ok (.iface 158 (.agg #[.pointer (some ⟨7, 57, none⟩)])) w := by kernel_rfl
theorem as_implE (w : World) : (ReflectliteType.relation "Implements" ReflectliteType.implements_ #[.agg #[.pointer (some ⟨7, 57, none⟩)], .iface 158 (.agg #[.pointer (some ⟨7, 31, none⟩)])]).run Tryz.prog w = .ok (.bool true) w := by kernel_rfl
theorem as_typeOfE (v : Value) (w : World) : (ReflectliteType.typeOf #[.iface 57 v]).run Tryz.prog w = .ok (.iface 158 (.agg #[.pointer (some ⟨7, 57, none⟩)])) w := by kernel_rfl
theorem as_assignE (w : World) : (ReflectliteType.relation "AssignableTo" ReflectliteType.assignableTo #[.agg #[.pointer (some ⟨7, 57, none⟩)], .iface 158 (.agg #[.pointer (some ⟨7, 57, none⟩)])]).run Tryz.prog w = .ok (.bool true) w := by kernel_rfl
theorem as_valueE (n : Int) (w : World) : (ReflectliteValue.unpack (.iface 57 (.int .i64 n))).run Tryz.prog w
    = .ok (.agg #[.pointer (some ⟨7, 57, none⟩), .pointer (some ⟨w.heap.size, 0, none⟩), .int .u64 130]) (w.alloc (.cells #[.int .i64 n] 57)) := by kernel_rfl
theorem as_elemTypeP (w : World) : (Rtype.elem? 99).run Tryz.prog w = .ok (some 57) w := by kernel_rfl
theorem as_mkE (p : Addr) (w : World) : (ReflectliteValue.mk 57 p ReflectliteValue.flagAddr).run Tryz.prog w = .ok (.agg #[.pointer (some ⟨7, 57, none⟩), .pointer (some p), .int .u64 386]) w := by kernel_rfl
theorem as_elemVP (a p : Addr) (W : World) (ha : W.cell? a = some (.pointer (some p))) :
    (ReflectliteValue.method (ReflectliteValue.valueError "reflectlite.Value.Elem" 0) ReflectliteValue.elem #[.agg #[.pointer (some ⟨7, 99, none⟩), .pointer (some a), .int .u64 150]]).run Tryz.prog W
      = .ok (.agg #[.pointer (some ⟨7, 57, none⟩), .pointer (some p), .int .u64 386]) W := by
  rw [as_rlm]
  simp only [Sem.run_bind, as_partsP, Result.andThen]
  simp [ReflectliteValue.elem, loadVar, isAgg, underlying, Tryz.underlying99, ha, Result.andThen, as_elemTypeP, as_mkE]
theorem as_partsEa (a : Addr) (w : World) : (ReflectliteValue.parts (.agg #[.pointer (some ⟨7, 57, none⟩), .pointer (some a), .int .u64 386])).run Tryz.prog w = .ok (some (57, a, 386)) w := by kernel_rfl
theorem as_partsE (a : Addr) (w : World) : (ReflectliteValue.parts (.agg #[.pointer (some ⟨7, 57, none⟩), .pointer (some a), .int .u64 130])).run Tryz.prog w = .ok (some (57, a, 130)) w := by kernel_rfl
theorem as_directE (w : World) : (Rtype.directlyAssignable 57 57).run Tryz.prog w = .ok true w := by kernel_rfl
theorem as_set_match (v x : Value) (f : Value → Value → Sem Value) (g : Array Value → Sem Value) : ReflectliteValue.set.match_3 (fun _ => Sem Value) #[v, x] f g = f v x := rfl
theorem as_setE (ta b : Addr) (n : Int) (old : Value) (W : World) (hb : W.cell? b = some (.int .i64 n)) (ht : W.cell? ta = some old) (hf : W.frozen? ta = false) :
    (ReflectliteValue.set #[.agg #[.pointer (some ⟨7, 57, none⟩), .pointer (some ta), .int .u64 386], .agg #[.pointer (some ⟨7, 57, none⟩), .pointer (some b), .int .u64 130]]).run Tryz.prog W
      = .ok (.tuple #[]) (W.setCell ta (.int .i64 n)) := by
  delta ReflectliteValue.set
  rw [as_set_match]
  simp only [Sem.run_bind, as_partsEa, as_partsE, Result.andThen]
  simp [ReflectliteValue.flagAddr, loadVar, isAgg, underlying, Tryz.underlying57, hb, Result.andThen, as_directE, storeVar, Value.cells, storeCells, Addr.add]
  rw [run_store Tryz.prog W ta _ _ (by rfl)]
  simp [ht, hf]

set_option maxHeartbeats 4000000 in
theorem as_hit (n : Int) (t : Addr) (old : Value) (w : World) (hg : w.cell? ⟨0, 0, none⟩ = some (.iface 158 (.agg #[.pointer (some ⟨7, 31, none⟩)]))) (ht0 : w.cell? t = some old) (hf0 : w.frozen? t = false) :
    Calls Tryz.prog 32 #[.iface 57 (.int .i64 n), .iface 99 (.pointer (some t))] w fun ev w' => ev = .returned (.bool true) ∧ w' = ((((w.alloc (.cells #[.pointer (some t)] 99)).alloc (.cells #[.pointer (some ⟨7, 99, none⟩), .pointer (some ⟨w.heap.size, 0, none⟩), .int .u64 150] 130)).alloc (.cells #[.pointer (some ⟨7, 99, none⟩), .pointer (some ⟨w.heap.size, 0, none⟩), .int .u64 150] 130)).alloc (.cells #[.int .i64 n] 57)).setCell t (.int .i64 n) := by
  have h6 := @run_callFunc_extern Tryz.prog 51 _ (fun args => ReflectliteValue.unpack (args.getD 0 (.tuple #[]))) Tryz.func51 (by kernel_rfl) (by kernel_rfl) (by kernel_rfl) (by kernel_rfl)
  have h7 := @run_callFunc_extern Tryz.prog 52 _ (ReflectliteValue.methodAny (ReflectliteValue.valueError "reflectlite.Value.Type" 0) (fun t _ _ _ => ReflectliteType.toType t)) Tryz.func52 (by kernel_rfl) (by kernel_rfl) (by kernel_rfl) (by kernel_rfl)
  have h8 := @run_callFunc_extern Tryz.prog 53 _ (ReflectliteValue.method (ReflectliteValue.valueError "reflectlite.Value.IsNil" 0) ReflectliteValue.isNil) Tryz.func53 (by kernel_rfl) (by kernel_rfl) (by kernel_rfl) (by kernel_rfl)
  have h27 := @run_callFunc_extern Tryz.prog 162 _ (ReflectliteType.abiMethod fun t => do pure (.int .u8 (← Rtype.kind t))) Tryz.func162 (by kernel_rfl) (by kernel_rfl) (by kernel_rfl) (by kernel_rfl)
  have h37 := @run_callFunc_extern Tryz.prog 174 _ (ReflectliteType.method ReflectliteType.elem) Tryz.func174 (by kernel_rfl) (by kernel_rfl) (by kernel_rfl) (by kernel_rfl)
  have h38 := @run_callFunc_extern Tryz.prog 175 _ (ReflectliteType.relation "Implements" ReflectliteType.implements_) Tryz.func175 (by kernel_rfl) (by kernel_rfl) (by kernel_rfl) (by kernel_rfl)
  have h10 := @run_callFunc_extern Tryz.prog 71 _ ReflectliteType.typeOf Tryz.func71 (by kernel_rfl) (by kernel_rfl) (by kernel_rfl) (by kernel_rfl)
  have h35 := @run_callFunc_extern Tryz.prog 172 _ (ReflectliteType.relation "AssignableTo" ReflectliteType.assignableTo) Tryz.func172 (by kernel_rfl) (by kernel_rfl) (by kernel_rfl) (by kernel_rfl)
  have h11 := @run_callFunc_extern Tryz.prog 72 _ (ReflectliteValue.method (ReflectliteValue.valueError "reflectlite.Value.Elem" 0) ReflectliteValue.elem) Tryz.func72 (by kernel_rfl) (by kernel_rfl) (by kernel_rfl) (by kernel_rfl)
  have h12 := @run_callFunc_extern Tryz.prog 73 _ ReflectliteValue.set Tryz.func73 (by kernel_rfl) (by kernel_rfl) (by kernel_rfl) (by kernel_rfl)
  have tO := as_typeOfE
  have mA := as_mAssign
  have a25 := as_assignE
  have v25 := as_valueE
  have f6 := as_valueP
  have f7 := as_typeP
  have mK := as_mKind
  have mE := as_mElem
  have mI := as_mImpl
  have k27 := as_kindP
  have k25 := as_kindE
  have e27 := as_elemP
  have i25 := as_implE
  have n8 := as_isNilP ⟨w.heap.size, 0, none⟩ t ((w.alloc (.cells #[.pointer (some t)] 99)).alloc (.cells #[.pointer (some ⟨7, 99, none⟩), .pointer (some ⟨w.heap.size, 0, none⟩), .int .u64 150] 130)) (by simp)
  have hlt : 0 < w.heap.size := by
    rcases Nat.lt_or_ge 0 w.heap.size with h | h
    · exact h
    · simp [World.cell?, Array.getElem?_eq_none h] at hg
  have hg2 : ((w.alloc (.cells #[.pointer (some t)] 99)).alloc (.cells #[.pointer (some ⟨7, 99, none⟩), .pointer (some ⟨w.heap.size, 0, none⟩), .int .u64 150] 130)).cell? ⟨0, 0, none⟩ = some (.iface 158 (.agg #[.pointer (some ⟨7, 31, none⟩)])) := by
    rw [World.cell?_alloc_lt _ _ ⟨0, 0, none⟩ (by simp <;> omega), World.cell?_alloc_lt _ _ ⟨0, 0, none⟩ hlt]; exact hg
  have htl : t.block < w.heap.size := by
    rcases Nat.lt_or_ge t.block w.heap.size with h | h
    · exact h
    · simp [World.cell?, Array.getElem?_eq_none h] at ht0
  have el := as_elemVP ⟨w.heap.size, 0, none⟩ t (((w.alloc (.cells #[.pointer (some t)] 99)).alloc (.cells #[.pointer (some ⟨7, 99, none⟩), .pointer (some ⟨w.heap.size, 0, none⟩), .int .u64 150] 130)).alloc (.cells #[.pointer (some ⟨7, 99, none⟩), .pointer (some ⟨w.heap.size, 0, none⟩), .int .u64 150] 130)) (by rw [World.cell?_alloc_lt _ _ ⟨w.heap.size, 0, none⟩ (by simp; omega)]; simp)
  have st := as_setE t ⟨w.heap.size + 1 + 1 + 1, 0, none⟩ n old ((((w.alloc (.cells #[.pointer (some t)] 99)).alloc (.cells #[.pointer (some ⟨7, 99, none⟩), .pointer (some ⟨w.heap.size, 0, none⟩), .int .u64 150] 130)).alloc (.cells #[.pointer (some ⟨7, 99, none⟩), .pointer (some ⟨w.heap.size, 0, none⟩), .int .u64 150] 130)).alloc (.cells #[.int .i64 n] 57))
    (by rw [World.cell?_alloc_at _ _ _ _ (by simp)]; rfl)
    (by rw [World.cell?_alloc_lt _ _ t (by simp; omega), World.cell?_alloc_lt _ _ t (by simp; omega), World.cell?_alloc_lt _ _ t (by simp; omega), World.cell?_alloc_lt _ _ t htl]; exact ht0)
    (by rw [World.frozen?_alloc_old _ _ t (by simp; omega), World.frozen?_alloc_old _ _ t (by simp; omega), World.frozen?_alloc_old _ _ t (by simp; omega), World.frozen?_alloc_old _ _ t (Nat.ne_of_lt htl)]; exact hf0)
  go_enter Tryz.func32, Tryz.ntmps32
  go_wp2
  refine wp_loop_rounds 1 ?_
  rw [rounds_succ]
  go_wp2
  go_ret
  exact ⟨rfl, rfl⟩
end Go.Proofs.YtmmgkdcojkmlcaaGreatDoor

namespace Go.Proofs.YtmmgkdcojkmlcaaGreatDoor
open Go.RowKit

/-- package errors' own variable holds what its text lays -/
def Laid (w : World) : Prop := w.cell? ⟨0, 0, none⟩ = some (.iface 158 (.agg #[.pointer (some ⟨7, 31, none⟩)]))

theorem cell_lt {w : World} {a : Addr} {v : Value} (h : w.cell? a = some v) : a.block < w.heap.size := by
  rcases Nat.lt_or_ge a.block w.heap.size with g | g
  · exact g
  · simp [World.cell?, Array.getElem?_eq_none g] at h

theorem Laid.lt {w : World} (h : Laid w) : 0 < w.heap.size := cell_lt (a := ⟨0, 0, none⟩) h
theorem Laid.below {w w' : World} (h : Laid w) (hb : Below w.heap.size w w') : Laid w' := (hb.cell (p := ⟨0, 0, none⟩) h.lt).trans h

theorem told_nil (w : World) : Calls Tryz.prog 19 #[.nilIface] w fun e w' => e = .returned (.int .i64 0) ∧ w' = w := by
  go_enter Tryz.func19, Tryz.ntmps19
  go_wp2
  go_ret
  exact ⟨rfl, rfl⟩

set_option maxHeartbeats 400000 in
theorem told_hit (n : Int) (w : World) (hL : Laid w) :
    Calls Tryz.prog 19 #[.iface 57 (.int .i64 n)] w fun e w' => e = .returned (.int .i64 n) ∧ Below w.heap.size w w' := by
  have hlt := hL.lt
  have hg : Hid ((w.alloc (.cells #[.int .i64 0] 57)).cell? ⟨0, 0, none⟩ = some (.iface 158 (.agg #[.pointer (some ⟨7, 31, none⟩)]))) := by
    unfold Hid
    rw [World.cell?_alloc_lt _ _ ⟨0, 0, none⟩ hlt]; exact hL
  have ht : Hid ((w.alloc (.cells #[.int .i64 0] 57)).cell? ⟨w.heap.size, 0, none⟩ = some (.int .i64 0)) := by unfold Hid; simp
  have hf : Hid ((w.alloc (.cells #[.int .i64 0] 57)).frozen? ⟨w.heap.size, 0, none⟩ = false) := by unfold Hid; simp
  have has := hid (as_hit n ⟨w.heap.size, 0, none⟩ (.int .i64 0) _ hg.out ht.out hf.out)
  clear hg ht hf
  go_enter Tryz.func19, Tryz.ntmps19
  go_wp2_with fail
  refine has.out.mono ?_
  rintro e w' ⟨rfl, rfl⟩
  go_wp2_with fail
  go_ret
  refine ⟨rfl, ?_⟩
  exact (((((Below.refl _ _).alloc (Nat.le_refl _) _).alloc (by simp) _).alloc (by simp <;> omega) _).alloc (by simp <;> omega) _).alloc (by simp <;> omega) _

theorem error_nil (k : Int) (w : World) : Calls Tryz.prog 8 #[.nilIface, .int .i64 k] w fun e w' => e = .returned (.bool ((0 : Int) == k)) ∧ w' = w := by
  go_enter Tryz.func8, Tryz.ntmps8
  go_wp2_with fail
  refine (told_nil w).mono ?_
  rintro e w' ⟨rfl, rfl⟩
  go_wp2_with fail
  go_ret
  exact ⟨rfl, rfl⟩

theorem error_hit (n k : Int) (w : World) (hL : Laid w) : Calls Tryz.prog 8 #[.iface 57 (.int .i64 n), .int .i64 k] w fun e w' => e = .returned (.bool (n == k)) ∧ Below w.heap.size w w' := by
  have ht := hid (told_hit n w hL)
  clear hL
  go_enter Tryz.func8, Tryz.ntmps8
  go_wp2_with fail
  refine ht.out.mono ?_
  rintro e w' ⟨rfl, hb⟩
  go_wp2_with fail
  go_ret
  exact ⟨rfl, hb⟩

/-- what attestref1.Prime answers -/
def SaysPrime (n : Nat) (e : Ending) : Prop := (e = .returned (.bool false) ∧ ¬ Num.Prime n) ∨ (e = .returned (.bool true) ∧ Num.Prime n)

set_option maxHeartbeats 400000 in
theorem prime_loop (n : Nat) (w : World) (h3 : 3 ≤ n) (hm : n ≤ 2147483647) :
    Calls Tryz.prog 16 #[.int .i64 n] w fun e w' => SaysPrime n e ∧ w' = w := by
  have h32 : ¬ (n : Int) < 3 := by omega
  have hm2 : ¬ (2147483647 : Int) < (n : Int) := by omega
  go_enter Tryz.func16, Tryz.ntmps16
  go_wp2_with fail
  go_loop [3] (fun i => ∃ k : Nat, 2 ≤ k ∧ k ≤ 46341 ∧ i = .int .i64 k ∧ Hid (∀ e, 2 ≤ e → e < k → ¬ e ∣ n)) (fun i => 46341 - (intOf i).toNat)
  case atStart => exact ⟨2, by omega, by omega, rfl, hid (fun e h g => by omega)⟩
  case round =>
    obtain ⟨k, hk2, hk, rfl, HN⟩ := hrel
    have hsq : ((k : Int) * k) = ((k * k : Nat) : Int) := by simp
    have hkk : k * k ≤ 46341 * 46341 := Nat.mul_le_mul hk hk
    have hq1 : 0 ≤ (k : Int) * k := by omega
    have hq2 : (k : Int) * k ≤ 2147488281 := by omega
    by_cases hle : k * k ≤ n
    · have hk3 := sq_le k n hle hm
      have hle2 : (k : Int) * k ≤ n := by omega
      have HL := hid hle
      clear hsq hle hkk
      by_cases hd : k ∣ n
      · have hmod : ((n : Int) % (k : Int) == 0) = true := by
          rw [beq_iff_eq]; exact Int.emod_eq_zero_of_dvd (Int.ofNat_dvd.2 hd)
        have HD := hid hd
        clear hd
        go_wp2_with fail
        go_ret
        refine ⟨Or.inl ⟨rfl, fun hp => ?_⟩, rfl⟩
        rcases hp.2 k HD.out with g | g
        · omega
        · have h1 := HL.out
          have h2 : k * 2 ≤ k * k := Nat.mul_le_mul_left k hk2
          omega
      · have hmod : ((n : Int) % (k : Int) == 0) = false := by
          rw [beq_eq_false_iff_ne]; intro g; exact hd (Int.ofNat_dvd.1 (Int.dvd_of_emod_eq_zero g))
        have HD := hid hd
        clear hd
        go_wp2_with fail
        go_round
        case rel => exact ⟨k + 1, by omega, by omega, by go_num, fun e he hlt hde => by
          by_cases hek : e = k
          · subst hek; exact HD.out hde
          · exact HN.out e he (by omega) hde⟩
        case measure => simp [intOf]; omega
    · have hle2 : ¬ (k : Int) * k ≤ n := by omega
      have HL := hid hle
      clear hsq hle hkk
      go_wp2_with fail
      go_ret
      exact ⟨Or.inr ⟨rfl, Num.least_prime (Num.least_self (by omega) (Nat.lt_of_not_le HL.out) HN.out)⟩, rfl⟩

theorem prime_yes (n : Nat) (w : World) (h3 : 3 ≤ n) (hm : n ≤ 2147483647) (hp : Num.Prime n) :
    Calls Tryz.prog 16 #[.int .i64 n] w fun e w' => e = .returned (.bool true) ∧ w' = w :=
  (prime_loop n w h3 hm).mono fun e w' ⟨he, hw⟩ => ⟨by
    rcases he with ⟨_, hn⟩ | ⟨he, _⟩
    · exact absurd hp hn
    · exact he, hw⟩

theorem prime_no (p : Int) (w : World) (hno : ¬ okPrime p) :
    Calls Tryz.prog 16 #[.int .i64 p] w fun e w' => e = .returned (.bool false) ∧ w' = w := by
  by_cases h3 : p < 3
  · go_enter Tryz.func16, Tryz.ntmps16
    go_wp2_with fail
    go_ret
    exact ⟨rfl, rfl⟩
  · by_cases h4 : 2147483647 < p
    · go_enter Tryz.func16, Tryz.ntmps16
      go_wp2_with fail
      go_ret
      exact ⟨rfl, rfl⟩
    · obtain ⟨q, rfl⟩ := Int.eq_ofNat_of_zero_le (show 0 ≤ p by omega)
      refine (prime_loop q w (by omega) (by omega)).mono fun e w' ⟨he, hw⟩ => ⟨?_, hw⟩
      rcases he with ⟨he, _⟩ | ⟨_, hp⟩
      · exact he
      · exact absurd ⟨by omega, by omega, by rw [Int.toNat_natCast]; exact hp⟩ hno

set_option maxHeartbeats 400000 in
theorem field_no (p : Int) (w : World) (hL : Laid w) (hno : ¬ okPrime p) (h1 : -9223372036854775808 ≤ p) (h2 : p ≤ 9223372036854775807) :
    Calls Tryz.prog 4 #[.int .i64 p] w fun e w' => e = .returned (.tuple #[.pointer none, .bool true]) ∧ Below w.heap.size w w' := by
  have hn := hid (new_no p w hno h1 h2)
  have hpn := hid (prime_no p w hno)
  have hee := hid (error_hit 1 1 w hL)
  clear hno hL
  go_enter Tryz.func4, Tryz.ntmps4
  go_wp2_with fail
  refine hn.out.mono ?_
  rintro e w1 ⟨rfl, rfl⟩
  go_wp2_with fail
  refine hpn.out.mono ?_
  rintro e w2 ⟨rfl, rfl⟩
  go_wp2_with fail
  refine hee.out.mono ?_
  rintro e w3 ⟨rfl, hb⟩
  have HB := hid hb
  clear hb
  go_wp2_with fail
  go_ret2
  exact ⟨rfl, HB.out⟩

end Go.Proofs.YtmmgkdcojkmlcaaGreatDoor
