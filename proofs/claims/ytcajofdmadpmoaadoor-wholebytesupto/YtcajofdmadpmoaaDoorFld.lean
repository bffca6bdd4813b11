/- What remainder, leastDivisor, and the methods Of and Mul of a field do, for every input that the program gives them: the world stays as it is. What bits.Len answers in this program, by the library's own contract: the number of halvings till nothing is left; and that a number is below that power of 2. What the methods Pow and Inv of a field answer: so many equal factors modulo p, the number of factors taken modulo p - 1. What primeDivisors answers: a new list of the primes that divide its number; nothing that was there has turned. What New answers: of a prime that may be a field, of any other number none. What the methods Order, isGenerator and Generator of a field answer. What package attestref1 answers of elements and powers, and what makes 1 of an element. What package attestref1 answers of sums, differences, products and quotients; and the field's methods Add, Sub, Neg, Div. What attestref1.Order, Generator and Root and the field's methods Root and P answer: the same on both sides. What attestref1.Generator and Root and the field's methods Root and P answer. What a walk says of memory: lists that can be read, lists of the call's own, and worlds in which one block alone has turned. attestsame.Ints: whether two lists of numbers are the same, for every two lists that can be read; nothing turns. Lists that are gathered by append: what they hold can be read. errors.As at a target that is a variable of type api.Errno, by the text of the library itself: a nil error is none; an error that is an api.Errno is put into the variable. Then plain.Told and attestsame.Error by it. plain.Told, attestsame.Error, attestref1.Prime and attestsame.Field by their contracts: of a prime that may be there is a field, of any other number there is none, and both sides say so. -/
import Derived.Test.YtcajofdmadpmoaaDoorRows
import Derived.Test.YtcajofdmadpmoaaDoorPlain
import Derived.KernelRfl
import Derived.WalkKit
import Derived.WalkSpells
import Derived.WalkLawsBesides
import Derived.Shelf.Small.Bits
import Derived.Lib.BitFns
import Derived.Test.YtcajofdmadpmoaaDoorProg
import Derived.Deep.RegionWith
import Derived.WalkSmall
import Derived.Deep.QuietTactic
import Derived.BigQuiet
import Derived.Deep.OwnRows
import Derived.LaidEql
import Derived.Stop.Asserts
import Derived.RowKitTokens
namespace Go.Proofs.YtcajofdmadpmoaaDoor
open Go.RowKit

theorem Tryd.infoInt : (Tryd.prog.info? 3).map (fun i => (i.zero, i.size, i.bytes)) = some (some (.int .i64 0), 1, 8) := by kernel_rfl

theorem hid {p : Prop} (h : p) : Hid p := h

theorem ret_bool {a b : Bool} (h : a = b) : Ending.returned (.bool a) = .returned (.bool b) := by rw [h]

theorem emod_bounds (n : Int) (p : Nat) (h3 : 3 ≤ p) : 0 ≤ n % (p : Int) ∧ n % (p : Int) < p :=
  ⟨Int.emod_nonneg _ (by omega), Int.emod_lt_of_pos _ (by omega)⟩

end Go.Proofs.YtcajofdmadpmoaaDoor

namespace Go.Proofs
open Go.Shelf
end Go.Proofs

namespace Go.Proofs.YtcajofdmadpmoaaDoor
open Go.RowKit

/-- the element as a number -/
def el (p : Nat) (a : Int) : Nat := (a % (p : Int)).toNat

end Go.Proofs.YtcajofdmadpmoaaDoor

namespace Go.Proofs.YtcajofdmadpmoaaDoor
open Go.RowKit

/-- numbers as cells -/
def cellsOf (ds : List Nat) : List Value := ds.map (fun d : Nat => Value.int .i64 d)

end Go.Proofs.YtcajofdmadpmoaaDoor

namespace Go.Proofs.YtcajofdmadpmoaaDoor
open Go.RowKit

end Go.Proofs.YtcajofdmadpmoaaDoor

namespace Go.Proofs.YtcajofdmadpmoaaDoor
open Go.RowKit

/-- a list that can be read -/
def Row (w : World) (v : Value) (ds : List Nat) : Prop :=
  (v = .slice none 0 0 ∧ ds = []) ∨ ∃ g cap, v = .slice (some ⟨g, 0, none⟩) ds.length cap ∧ ∀ k, k < ds.length → w.cell? ⟨g, k, none⟩ = some (.int .i64 ((ds.getD k 0 : Nat) : Int))

end Go.Proofs.YtcajofdmadpmoaaDoor

namespace Go.Proofs.YtcajofdmadpmoaaDoor
open Go.RowKit

theorem el_cast (p : Nat) (a : Int) (h3 : 3 ≤ p) : ((el p a : Nat) : Int) = a % p := by
  have := (emod_bounds a p h3).1; unfold el; omega
theorem el_lt (p : Nat) (a : Int) (h3 : 3 ≤ p) : el p a < p := by
  have := emod_bounds a p h3; unfold el; omega
/-- what makes 1 of an element -/
def invn (p : Nat) (a : Int) : Nat := Num.pwm p (el p a) (p - 2)

end Go.Proofs.YtcajofdmadpmoaaDoor

namespace Go.Proofs.YtcajofdmadpmoaaDoor
open Go.RowKit

end Go.Proofs.YtcajofdmadpmoaaDoor

namespace Go.Proofs.YtcajofdmadpmoaaDoor
open Go.RowKit

end Go.Proofs.YtcajofdmadpmoaaDoor

namespace Go.Proofs.YtcajofdmadpmoaaDoor
open Go.RowKit

end Go.Proofs.YtcajofdmadpmoaaDoor

namespace Go.Proofs.YtcajofdmadpmoaaDoor
open Go.RowKit

/-- what stands at a place -/
def zat (zs : List Int) (i : Nat) : Int := zs[i]?.getD 0

/-- a list that can be read, in a block of which P holds -/
def RowP (P : Nat → Prop) (w : World) (a : Option Addr) (zs : List Int) : Prop :=
  ∀ k, k < zs.length → ∃ b o, a = some ⟨b, o, none⟩ ∧ P b ∧ w.cell? ⟨b, o + k, none⟩ = some (.int .i64 (zat zs k))
/-- a list that can be read, below n0 -/
def RowB (n0 : Nat) (w : World) (a : Option Addr) (zs : List Int) : Prop :=
  ∀ k, k < zs.length → ∃ b o, a = some ⟨b, o, none⟩ ∧ b < n0 ∧ w.cell? ⟨b, o + k, none⟩ = some (.int .i64 (zat zs k))
theorem RowB.below {n0 : Nat} {A B : World} {a : Option Addr} {zs : List Int} (h : Below n0 A B) (r : RowB n0 A a zs) : RowB n0 B a zs := by
  intro k hk
  obtain ⟨b, o, h1, h2, h3⟩ := r k hk
  exact ⟨b, o, h1, h2, (h.cell (p := ⟨b, o + k, none⟩) h2).trans h3⟩
theorem RowB.mono {n0 n1 : Nat} {A : World} {a : Option Addr} {zs : List Int} (h : n0 ≤ n1) (r : RowB n0 A a zs) : RowB n1 A a zs := by
  intro k hk
  obtain ⟨b, o, h1, h2, h3⟩ := r k hk
  exact ⟨b, o, h1, by omega, h3⟩
theorem RowB.p {n0 : Nat} {P : Nat → Prop} {A : World} {a : Option Addr} {zs : List Int} (h : ∀ b, b < n0 → P b) (r : RowB n0 A a zs) : RowP P A a zs := by
  intro k hk
  obtain ⟨b, o, h1, h2, h3⟩ := r k hk
  exact ⟨b, o, h1, h b h2, h3⟩

/-- block g alone has turned, and there is no new one -/
structure Only (g : Nat) (w w' : World) : Prop where
  os : w'.os = w.os
  tape : w'.tape = w.tape
  output : w'.output = w.output
  size : w'.heap.size = w.heap.size
  block : ∀ k, k ≠ g → w'.heap[k]? = w.heap[k]?

theorem Only.refl (g : Nat) (w : World) : Only g w w := ⟨rfl, rfl, rfl, rfl, fun _ _ => rfl⟩
theorem Only.trans {g : Nat} {a b c : World} (h : Only g a b) (k : Only g b c) : Only g a c :=
  ⟨k.os.trans h.os, k.tape.trans h.tape, k.output.trans h.output, k.size.trans h.size, fun i hi => (k.block i hi).trans (h.block i hi)⟩
theorem Only.drew {g : Nat} {a w : World} (h : Only g a w) : Only g a w.drew := ⟨h.os, h.tape, h.output, h.size, h.block⟩
theorem Only.drewN {g : Nat} {a w : World} (h : Only g a w) (n : Nat) : Only g a (w.drewN n) := h.trans ⟨rfl, rfl, rfl, rfl, fun _ _ => rfl⟩
theorem Only.setCell {g : Nat} {a w : World} (h : Only g a w) {p : Addr} (hp : p.block = g) (u : Value) : Only g a (w.setCell p u) :=
  h.trans ⟨rfl, rfl, rfl, by simp [World.setCell], fun k hk => Below.heap_setCell _ _ _ _ (by omega)⟩
theorem Only.cell {g : Nat} {w w' : World} (h : Only g w w') {p : Addr} (hp : p.block ≠ g) : w'.cell? p = w.cell? p := World.cell?_of_block (w := w) (h.block p.block hp)
theorem Only.frozen {g : Nat} {w w' : World} (h : Only g w w') {p : Addr} (hp : p.block ≠ g) : w'.frozen? p = w.frozen? p := World.frozen?_of_block (w := w) (h.block p.block hp)
theorem Only.below {g n0 : Nat} {w w' : World} (h : Only g w w') (hg : n0 ≤ g) : Below n0 w w' :=
  ⟨h.os, h.tape, h.output, by rw [h.size]; exact Nat.le_refl _, fun k hk => h.block k (by omega)⟩
theorem RowP.only {g : Nat} {P : Nat → Prop} {A B : World} {a : Option Addr} {zs : List Int} (h : Only g A B) (hP : ∀ b, P b → b ≠ g) (r : RowP P A a zs) : RowP P B a zs := by
  intro k hk
  obtain ⟨b, o, h1, h2, h3⟩ := r k hk
  exact ⟨b, o, h1, h2, (h.cell (p := ⟨b, o + k, none⟩) (hP b h2)).trans h3⟩

/-- one place turned -/
def up (f : Nat → Int) (i : Nat) (x : Int) : Nat → Int := fun j => if j = i then x else f j

/-- n cells of the call's own, from o on in block g -/
structure Cells (g o n : Nat) (f : Nat → Int) (W : World) : Prop where
  cells : ∀ j, j < n → W.cell? ⟨g, o + j, none⟩ = some (.int .i64 (f j))
  soft : ∀ j, j < n → W.frozen? ⟨g, o + j, none⟩ = false

theorem Cells.set {g o n : Nat} {f : Nat → Int} {W : World} (h : Cells g o n f W) {i : Nat} (x : Int) (hi : i < n) : Cells g o n (up f i x) (W.setCell ⟨g, o + i, none⟩ (.int .i64 x)) := by
  refine ⟨fun j hj => ?_, fun j hj => by rw [World.frozen?_setCell]; exact h.soft j hj⟩
  unfold up
  by_cases hji : j = i
  · subst hji; rw [if_pos rfl]; exact World.cell?_setCell_same _ _ _ (h.cells j hj)
  · rw [if_neg hji, World.cell?_setCell_other _ _ _ _ (by intro e; injection e with _ h2 _; omega)]; exact h.cells j hj
theorem Cells.congr {g o n : Nat} {f f' : Nat → Int} {W : World} (h : Cells g o n f W) (e : ∀ j, j < n → f j = f' j) : Cells g o n f' W :=
  ⟨fun j hj => by rw [← e j hj]; exact h.cells j hj, h.soft⟩
theorem Cells.block {g o n : Nat} {f : Nat → Int} {W W' : World} (h : Cells g o n f W) (e : W'.heap[g]? = W.heap[g]?) : Cells g o n f W' :=
  ⟨fun j hj => (World.cell?_of_block (w := W) (a := ⟨g, o + j, none⟩) e).trans (h.cells j hj), fun j hj => (World.frozen?_of_block (w := W) (a := ⟨g, o + j, none⟩) e).trans (h.soft j hj)⟩
theorem Cells.only {g g' o n : Nat} {f : Nat → Int} {W W' : World} (h : Cells g o n f W) (e : Only g' W W') (hg : g ≠ g') : Cells g o n f W' := h.block (e.block g hg)
theorem Cells.below {g o n n0 : Nat} {f : Nat → Int} {W W' : World} (h : Cells g o n f W) (e : Below n0 W W') (hg : g < n0) : Cells g o n f W' := h.block (e.block g hg)
theorem Cells.drew {g o n : Nat} {f : Nat → Int} {W : World} (h : Cells g o n f W) : Cells g o n f W.drew := ⟨h.cells, h.soft⟩
theorem Cells.row {g n : Nat} {f : Nat → Int} {W : World} (h : Cells g 0 n f W) {zs : List Int} (hn : zs.length ≤ n) (hz : ∀ j, j < zs.length → zat zs j = f j) {n0 : Nat} (hg : g < n0) : RowB n0 W (some ⟨g, 0, none⟩) zs :=
  fun k hk => ⟨g, 0, rfl, hg, by rw [hz k hk]; exact h.cells k (by omega)⟩

/-- a list in a block from n0 on -/
def NewR (n0 : Nat) (w : World) (a : Option Addr) (zs : List Int) : Prop := RowP (fun b => n0 ≤ b ∧ b < w.heap.size) w a zs
theorem NewR.row {n0 : Nat} {w : World} {a : Option Addr} {zs : List Int} (h : NewR n0 w a zs) : RowB w.heap.size w a zs := fun k hk => by
  obtain ⟨b, o, h1, h2, h3⟩ := h k hk
  exact ⟨b, o, h1, h2.2, h3⟩
theorem NewR.below {n0 : Nat} {w w' : World} {a : Option Addr} {zs : List Int} (h : NewR n0 w a zs) (e : Below w.heap.size w w') : NewR n0 w' a zs := fun k hk => by
  obtain ⟨b, o, h1, h2, h3⟩ := h k hk
  exact ⟨b, o, h1, ⟨h2.1, Nat.lt_of_lt_of_le h2.2 e.size⟩, (e.cell (p := ⟨b, o + k, none⟩) h2.2).trans h3⟩
/-- numbers that an int holds -/
def Fits (zs : List Int) : Prop := ∀ j, j < zs.length → -9223372036854775808 ≤ zat zs j ∧ zat zs j ≤ 9223372036854775807
theorem Fits.all {zs : List Int} (h : Fits zs) (j : Nat) : -9223372036854775808 ≤ zat zs j ∧ zat zs j ≤ 9223372036854775807 := by
  by_cases hj : j < zs.length
  · exact h j hj
  · simp [zat, show zs.length ≤ j from by omega]

end Go.Proofs.YtcajofdmadpmoaaDoor

namespace Go.Proofs.YtcajofdmadpmoaaDoor
open Go.RowKit

/-- a list of numbers that can be read -/
def RowZ (w : World) (v : Value) (xs : List Int) : Prop :=
  ∃ a cap, v = .slice a xs.length cap ∧ ∀ k, k < xs.length → ∃ b o, a = some ⟨b, o, none⟩ ∧ w.cell? ⟨b, o + k, none⟩ = some (.int .i64 (xs.getD k 0))

theorem take_eq_succ {xs ys : List Int} {k : Nat} (hx : k < xs.length) (hy : k < ys.length) (h : xs.take k = ys.take k) (hk : xs.getD k 0 = ys.getD k 0) : xs.take (k + 1) = ys.take (k + 1) := by
  rw [List.take_succ_eq_append_getElem hx, List.take_succ_eq_append_getElem hy, h]
  have : xs[k] = ys[k] := by simpa [hx, hy] using hk
  rw [this]

set_option maxHeartbeats 400000 in
theorem ints_any (xs ys : List Int) (va vb : Value) (w : World) (ha : RowZ w va xs) (hb : RowZ w vb ys) (hx : xs.length ≤ 9223372036854775807) (_hy : ys.length ≤ 9223372036854775807) :
    Calls Tryd.prog 22 #[va, vb] w fun e w' => e = .returned (.bool (decide (xs = ys))) ∧ ∃ n, w' = w.drewN n := by
  obtain ⟨a, ca, rfl, hca⟩ := ha
  obtain ⟨b, cb, rfl, hcb⟩ := hb
  have HA := hid hca
  have HB := hid hcb
  clear hca hcb
  by_cases hl : xs.length = ys.length
  · have HL := hid hl
    rw [← hl]
    clear hl
    go_enter Tryd.func22, Tryd.ntmps22
    go_wp2_with fail
    go_loopw [5] (fun i wr => ∃ k n : Nat, k ≤ xs.length ∧ i = .int .i64 k ∧ Hid (xs.take k = ys.take k) ∧ wr = w.drewN n) (fun i _ => xs.length - (intOf i).toNat)
    case atStart => exact ⟨0, 0, Nat.zero_le _, rfl, hid rfl, rfl⟩
    case round =>
      obtain ⟨k, n, hk, rfl, hT, rfl⟩ := hrel
      by_cases hlt : k < xs.length
      · have hlt2 : (k : Int) < (xs.length : Int) := by omega
        obtain ⟨b1, o1, rfl, hc1⟩ := HA.out k hlt
        obtain ⟨b2, o2, rfl, hc2⟩ := HB.out k (by have := HL.out; omega)
        have HS := hid (fun h => take_eq_succ hlt (show k < ys.length by have := HL.out; omega) hT.out h)
        have HNE : Hid (xs.getD k 0 ≠ ys.getD k 0 → ¬ xs = ys) := fun h e => h (by rw [e])
        generalize xs.getD k 0 = x at *
        generalize ys.getD k 0 = y at *
        by_cases hxy : x = y
        · have hb : (x != y) = false := by rw [bne_eq_false_iff_eq]; exact hxy
          have HS2 := hid (HS.out hxy)
          clear hxy HS HNE
          go_wp2_with fail
          go_quiet (fail)
          go_wp2_with fail
          go_roundw
          case rel => exact ⟨k + 1, _, by omega, by go_num, HS2, rfl⟩
          case measure => simp [intOf]; omega
        · have hb : (x != y) = true := by rw [bne_iff_ne]; exact hxy
          have HE := hid (HNE.out hxy)
          clear hxy HS HNE
          go_wp2_with fail
          go_quiet (fail)
          go_wp2_with fail
          go_ret
          exact ⟨ret_bool (decide_eq_false HE.out).symm, _, World.drewN_drewN _ _ _⟩
      · have hlt2 : ¬ (k : Int) < (xs.length : Int) := by omega
        have HE : Hid (xs = ys) := by
          unfold Hid
          have h1 := hT.out
          have h2 := HL.out
          rw [List.take_of_length_le (by omega), List.take_of_length_le (by omega)] at h1
          exact h1
        go_wp2_with fail
        go_ret
        exact ⟨ret_bool (decide_eq_true HE.out).symm, n, rfl⟩
  · have hne : ((xs.length : Int) != (ys.length : Int)) = true := by rw [bne_iff_ne]; omega
    have HE : Hid (¬ xs = ys) := fun h => hl (by rw [h])
    clear hl
    go_enter Tryd.func22, Tryd.ntmps22
    go_wp2_with fail
    go_ret
    exact ⟨ret_bool (decide_eq_false HE.out).symm, 0, rfl⟩

end Go.Proofs.YtcajofdmadpmoaaDoor

namespace Go.Proofs.YtcajofdmadpmoaaDoor
open Go.RowKit

theorem rowZ_of_B {n0 : Nat} {w : World} {a : Option Addr} {zs : List Int} (cap : Nat) (h : RowB n0 w a zs) : RowZ w (.slice a zs.length cap) zs :=
  ⟨a, cap, rfl, fun k hk => by
    obtain ⟨b, o, h1, _, h3⟩ := h k hk
    exact ⟨b, o, h1, h3⟩⟩

/-- a new list that is owned can be read -/
theorem rowB_of_owns {w : World} {base : Nat} {v : Value} {zs : List Int} (h : w.ownsRow base 3 1 v zs.length (zs.map (Value.int .i64))) : ∃ a cap, v = .slice a zs.length cap ∧ RowB w.heap.size w a zs := by
  rcases h.2 with ⟨h1, h2⟩ | ⟨g, cap, cur, hv, _, hg, _⟩
  · refine ⟨none, 0, by rw [h1, h2], fun k hk => by omega⟩
  · refine ⟨some ⟨g, 0, none⟩, cap, hv, fun k hk => ⟨g, 0, rfl, (Array.getElem?_eq_some_iff.1 hg).1, ?_⟩⟩
    have := h.cells (g := g) (by rw [hv]; rfl) k (.int .i64 (zat zs k)) (by simp [zat, hk])
    have hadd : (⟨g, 0, none⟩ : Addr).add k = ⟨g, k, none⟩ := by unfold Addr.add; split <;> simp_all
    rw [hadd] at this
    rw [Nat.zero_add]
    exact this

/-- a list that can be read, with its room -/
structure Lst (n0 : Nat) (w : World) (a : Option Addr) (cap : Nat) (zs : List Int) : Prop where
  row : RowB n0 w a zs
  room : zs.length ≤ cap
  nil : a = none → cap = 0

theorem Lst.below {n0 : Nat} {A B : World} {a : Option Addr} {cap : Nat} {zs : List Int} (h : Below n0 A B) (r : Lst n0 A a cap zs) : Lst n0 B a cap zs := ⟨r.row.below h, r.room, r.nil⟩
theorem Lst.mono {n0 n1 : Nat} {A : World} {a : Option Addr} {cap : Nat} {zs : List Int} (h : n0 ≤ n1) (r : Lst n0 A a cap zs) : Lst n1 A a cap zs := ⟨r.row.mono h, r.room, r.nil⟩
theorem Lst.none (n0 : Nat) (w : World) : Lst n0 w none 0 [] := ⟨fun k hk => by simp at hk, by simp, fun _ => rfl⟩

theorem lst_of_owns {w : World} {base : Nat} {v : Value} {zs : List Int} (h : w.ownsRow base 3 1 v zs.length (zs.map (Value.int .i64))) : ∃ a cap, v = .slice a zs.length cap ∧ Lst w.heap.size w a cap zs := by
  obtain ⟨a, cap, h1, h2⟩ := rowB_of_owns h
  refine ⟨a, cap, h1, h2, ?_, ?_⟩
  · rcases h.2 with ⟨g1, g2⟩ | ⟨g, c, cur, hv, _, _, hn, _⟩
    · omega
    · rw [h1] at hv; injection hv with _ _ e3; omega
  · intro ha
    rcases h.2 with ⟨g1, g2⟩ | ⟨g, c, cur, hv, _⟩
    · rw [h1] at g1; injection g1
    · rw [h1, ha] at hv; injection hv with e1; cases e1

/-- so many, each by its place -/
def ls (F : Nat → Int) (k : Nat) : List Int := (List.range k).map F
theorem ls_len (F : Nat → Int) (k : Nat) : (ls F k).length = k := by simp [ls]
theorem ls_at (F : Nat → Int) (k j : Nat) (h : j < k) : zat (ls F k) j = F j := by simp [ls, zat, h]

theorem owns_succ {w : World} {base : Nat} {v : Value} {zs : List Int} {x : Int} (h : w.ownsRow base 3 1 v (zs.length + 1) (zs.map (Value.int .i64) ++ [.int .i64 x])) : w.ownsRow base 3 1 v (zs ++ [x]).length ((zs ++ [x]).map (Value.int .i64)) := by
  rw [List.length_append, List.length_singleton, List.map_append]; exact h

end Go.Proofs.YtcajofdmadpmoaaDoor

namespace Go.Proofs.YtcajofdmadpmoaaDoor
open Go.RowKit Go.Extern.Stop Go.Stop Go.Extern

theorem as_valueP (t : Addr) (w : World) : (ReflectliteValue.unpack (.iface 80 (.pointer (some t)))).run Tryd.prog w
    = .ok (.agg #[.pointer (some ⟨1, 80, none⟩), .pointer (some ⟨w.heap.size, 0, none⟩), .int .u64 150]) (w.alloc (.cells #[.pointer (some t)] 80)) := by kernel_rfl
theorem as_typeP (a : Addr) (w : World) : (ReflectliteValue.methodAny (ReflectliteValue.valueError "reflectlite.Value.Type" 0) (fun t _ _ _ => ReflectliteType.toType t) #[.agg #[.pointer (some ⟨1, 80, none⟩), .pointer (some a), .int .u64 150]]).run Tryd.prog w
    = .ok (.iface 97 (.agg #[.pointer (some ⟨1, 80, none⟩)])) w := by kernel_rfl
theorem as_mKind (h : Value) (w : World) : (Go.method 239 97 (.agg #[h]) "Kind").run Tryd.prog w = .ok (62, h) w := by kernel_rfl
theorem as_kindP (w : World) : ((ReflectliteType.abiMethod fun t => (fun a : Nat => Value.int IntKind.u8 (a : Int)) <$> Rtype.kind t) #[.pointer (some ⟨1, 80, none⟩)]).run Tryd.prog w = .ok (.int .u8 22) w := by kernel_rfl
theorem as_kindE (w : World) : ((ReflectliteType.abiMethod fun t => (fun a : Nat => Value.int IntKind.u8 (a : Int)) <$> Rtype.kind t) #[.pointer (some ⟨1, 56, none⟩)]).run Tryd.prog w = .ok (.int .u8 2) w := by kernel_rfl
theorem as_rlm (z : Sem Value) (f : TypeId → Addr → Nat → Nat → Sem Value) (v : Value) :
    ReflectliteValue.method z f #[v] = (do match ← ReflectliteValue.parts v with | none => z | some (t, a, fl) => f t a fl (fl % 32)) := rfl
theorem as_partsP (a : Addr) (w : World) : (ReflectliteValue.parts (.agg #[.pointer (some ⟨1, 80, none⟩), .pointer (some a), .int .u64 150])).run Tryd.prog w = .ok (some (80, a, 150)) w := by kernel_rfl
theorem as_isNilP (a p : Addr) (W : World) (ha : W.cell? a = some (.pointer (some p))) :
    (ReflectliteValue.method (ReflectliteValue.valueError "reflectlite.Value.IsNil" 0) ReflectliteValue.isNil #[.agg #[.pointer (some ⟨1, 80, none⟩), .pointer (some a), .int .u64 150]]).run Tryd.prog W = .ok (.bool false) W := by
  rw [as_rlm]
  simp only [Sem.run_bind, as_partsP, Result.andThen]
  simp [ReflectliteValue.isNil, loadVar, isAgg, underlying, Tryd.underlying80, ha, Result.andThen]
theorem as_mElem (h : Value) (w : World) : (Go.method 239 97 (.agg #[h]) "Elem").run Tryd.prog w = .ok (72, .agg #[h]) w := by kernel_rfl
theorem as_mImpl (h : Value) (w : World) : (Go.method 239 97 (.agg #[h]) "Implements").run Tryd.prog w = .ok (73, .agg #[h]) w := by kernel_rfl
theorem as_mAssign (h : Value) (w : World) : (Go.method 239 97 (.agg #[h]) "AssignableTo").run Tryd.prog w = .ok (70, .agg #[h]) w := by kernel_rfl
theorem as_elemP (w : World) : (ReflectliteType.method ReflectliteType.elem #[.agg #[.pointer (some ⟨1, 80, none⟩)]]).run Tryd.prog w = .ok (.iface 97 (.agg #[.pointer (some ⟨1, 56, none⟩)])) w := by kernel_rfl
theorem as_implE (w : World) : (ReflectliteType.relation "Implements" ReflectliteType.implements_ #[.agg #[.pointer (some ⟨1, 56, none⟩)], .iface 97 (.agg #[.pointer (some ⟨1, 34, none⟩)])]).run Tryd.prog w = .ok (.bool true) w := by kernel_rfl
theorem as_typeOfE (v : Value) (w : World) : (ReflectliteType.typeOf #[.iface 56 v]).run Tryd.prog w = .ok (.iface 97 (.agg #[.pointer (some ⟨1, 56, none⟩)])) w := by kernel_rfl
theorem as_assignE (w : World) : (ReflectliteType.relation "AssignableTo" ReflectliteType.assignableTo #[.agg #[.pointer (some ⟨1, 56, none⟩)], .iface 97 (.agg #[.pointer (some ⟨1, 56, none⟩)])]).run Tryd.prog w = .ok (.bool true) w := by kernel_rfl
theorem as_valueE (n : Int) (w : World) : (ReflectliteValue.unpack (.iface 56 (.int .i64 n))).run Tryd.prog w
    = .ok (.agg #[.pointer (some ⟨1, 56, none⟩), .pointer (some ⟨w.heap.size, 0, none⟩), .int .u64 130]) (w.alloc (.cells #[.int .i64 n] 56)) := by kernel_rfl
theorem as_elemTypeP (w : World) : (Rtype.elem? 80).run Tryd.prog w = .ok (some 56) w := by kernel_rfl
theorem as_mkE (p : Addr) (w : World) : (ReflectliteValue.mk 56 p ReflectliteValue.flagAddr).run Tryd.prog w = .ok (.agg #[.pointer (some ⟨1, 56, none⟩), .pointer (some p), .int .u64 386]) w := by kernel_rfl
theorem as_elemVP (a p : Addr) (W : World) (ha : W.cell? a = some (.pointer (some p))) :
    (ReflectliteValue.method (ReflectliteValue.valueError "reflectlite.Value.Elem" 0) ReflectliteValue.elem #[.agg #[.pointer (some ⟨1, 80, none⟩), .pointer (some a), .int .u64 150]]).run Tryd.prog W
      = .ok (.agg #[.pointer (some ⟨1, 56, none⟩), .pointer (some p), .int .u64 386]) W := by
  rw [as_rlm]
  simp only [Sem.run_bind, as_partsP, Result.andThen]
  simp [ReflectliteValue.elem, loadVar, isAgg, underlying, Tryd.underlying80, ha, Result.andThen, as_elemTypeP, as_mkE]
theorem as_partsEa (a : Addr) (w : World) : (ReflectliteValue.parts (.agg #[.pointer (some ⟨1, 56, none⟩), .pointer (some a), .int .u64 386])).run Tryd.prog w = .ok (some (56, a, 386)) w := by kernel_rfl
theorem as_partsE (a : Addr) (w : World) : (ReflectliteValue.parts (.agg #[.pointer (some ⟨1, 56, none⟩), .pointer (some a), .int .u64 130])).run Tryd.prog w = .ok (some (56, a, 130)) w := by kernel_rfl
theorem as_directE (w : World) : (Rtype.directlyAssignable 56 56).run Tryd.prog w = .ok true w := by kernel_rfl
theorem as_set_match (v x : Value) (f : Value → Value → Sem Value) (g : Array Value → Sem Value) : ReflectliteValue.set.match_3 (fun _ => Sem Value) #[v, x] f g = f v x := rfl
theorem as_setE (ta b : Addr) (n : Int) (old : Value) (W : World) (hb : W.cell? b = some (.int .i64 n)) (ht : W.cell? ta = some old) (hf : W.frozen? ta = false) :
    (ReflectliteValue.set #[.agg #[.pointer (some ⟨1, 56, none⟩), .pointer (some ta), .int .u64 386], .agg #[.pointer (some ⟨1, 56, none⟩), .pointer (some b), .int .u64 130]]).run Tryd.prog W
      = .ok (.tuple #[]) (W.setCell ta (.int .i64 n)) := by
  delta ReflectliteValue.set
  rw [as_set_match]
  simp only [Sem.run_bind, as_partsEa, as_partsE, Result.andThen]
  simp [ReflectliteValue.flagAddr, loadVar, isAgg, underlying, Tryd.underlying56, hb, Result.andThen, as_directE, storeVar, Value.cells, storeCells, Addr.add]
  rw [run_store Tryd.prog W ta _ _ (by rfl)]
  simp [ht, hf]

set_option maxHeartbeats 4000000 in
theorem as_hit (n : Int) (t : Addr) (old : Value) (w : World) (hg : w.cell? ⟨0, 0, none⟩ = some (.iface 97 (.agg #[.pointer (some ⟨1, 34, none⟩)]))) (ht0 : w.cell? t = some old) (hf0 : w.frozen? t = false) :
    Calls Tryd.prog 38 #[.iface 56 (.int .i64 n), .iface 80 (.pointer (some t))] w fun ev w' => ev = .returned (.bool true) ∧ w' = ((((w.alloc (.cells #[.pointer (some t)] 80)).alloc (.cells #[.pointer (some ⟨1, 80, none⟩), .pointer (some ⟨w.heap.size, 0, none⟩), .int .u64 150] 86)).alloc (.cells #[.pointer (some ⟨1, 80, none⟩), .pointer (some ⟨w.heap.size, 0, none⟩), .int .u64 150] 86)).alloc (.cells #[.int .i64 n] 56)).setCell t (.int .i64 n) := by
  have h6 := @run_callFunc_extern Tryd.prog 41 _ (fun args => ReflectliteValue.unpack (args.getD 0 (.tuple #[]))) Tryd.func41 (by kernel_rfl) (by kernel_rfl) (by kernel_rfl) (by kernel_rfl)
  have h7 := @run_callFunc_extern Tryd.prog 42 _ (ReflectliteValue.methodAny (ReflectliteValue.valueError "reflectlite.Value.Type" 0) (fun t _ _ _ => ReflectliteType.toType t)) Tryd.func42 (by kernel_rfl) (by kernel_rfl) (by kernel_rfl) (by kernel_rfl)
  have h8 := @run_callFunc_extern Tryd.prog 43 _ (ReflectliteValue.method (ReflectliteValue.valueError "reflectlite.Value.IsNil" 0) ReflectliteValue.isNil) Tryd.func43 (by kernel_rfl) (by kernel_rfl) (by kernel_rfl) (by kernel_rfl)
  have h27 := @run_callFunc_extern Tryd.prog 62 _ (ReflectliteType.abiMethod fun t => do pure (.int .u8 (← Rtype.kind t))) Tryd.func62 (by kernel_rfl) (by kernel_rfl) (by kernel_rfl) (by kernel_rfl)
  have h37 := @run_callFunc_extern Tryd.prog 72 _ (ReflectliteType.method ReflectliteType.elem) Tryd.func72 (by kernel_rfl) (by kernel_rfl) (by kernel_rfl) (by kernel_rfl)
  have h38 := @run_callFunc_extern Tryd.prog 73 _ (ReflectliteType.relation "Implements" ReflectliteType.implements_) Tryd.func73 (by kernel_rfl) (by kernel_rfl) (by kernel_rfl) (by kernel_rfl)
  have h10 := @run_callFunc_extern Tryd.prog 45 _ ReflectliteType.typeOf Tryd.func45 (by kernel_rfl) (by kernel_rfl) (by kernel_rfl) (by kernel_rfl)
  have h35 := @run_callFunc_extern Tryd.prog 70 _ (ReflectliteType.relation "AssignableTo" ReflectliteType.assignableTo) Tryd.func70 (by kernel_rfl) (by kernel_rfl) (by kernel_rfl) (by kernel_rfl)
  have h11 := @run_callFunc_extern Tryd.prog 46 _ (ReflectliteValue.method (ReflectliteValue.valueError "reflectlite.Value.Elem" 0) ReflectliteValue.elem) Tryd.func46 (by kernel_rfl) (by kernel_rfl) (by kernel_rfl) (by kernel_rfl)
  have h12 := @run_callFunc_extern Tryd.prog 47 _ ReflectliteValue.set Tryd.func47 (by kernel_rfl) (by kernel_rfl) (by kernel_rfl) (by kernel_rfl)
  have tO := as_typeOfE
  have mA := as_mAssign
  have a25 := as_assignE
  have v25 := as_valueE
  have f6 := as_valueP
  have f7 := as_typeP
  have mK := as_mKind
  have mE := as_mElem
  have mI := as_mImpl
  have k27 := as_kindP
  have k25 := as_kindE
  have e27 := as_elemP
  have i25 := as_implE
  have n8 := as_isNilP ⟨w.heap.size, 0, none⟩ t ((w.alloc (.cells #[.pointer (some t)] 80)).alloc (.cells #[.pointer (some ⟨1, 80, none⟩), .pointer (some ⟨w.heap.size, 0, none⟩), .int .u64 150] 86)) (by simp)
  have hlt : 0 < w.heap.size := by
    rcases Nat.lt_or_ge 0 w.heap.size with h | h
    · exact h
    · simp [World.cell?, Array.getElem?_eq_none h] at hg
  have hg2 : ((w.alloc (.cells #[.pointer (some t)] 80)).alloc (.cells #[.pointer (some ⟨1, 80, none⟩), .pointer (some ⟨w.heap.size, 0, none⟩), .int .u64 150] 86)).cell? ⟨0, 0, none⟩ = some (.iface 97 (.agg #[.pointer (some ⟨1, 34, none⟩)])) := by
    rw [World.cell?_alloc_lt _ _ ⟨0, 0, none⟩ (by simp <;> omega), World.cell?_alloc_lt _ _ ⟨0, 0, none⟩ hlt]; exact hg
  have htl : t.block < w.heap.size := by
    rcases Nat.lt_or_ge t.block w.heap.size with h | h
    · exact h
    · simp [World.cell?, Array.getElem?_eq_none h] at ht0
  have el := as_elemVP ⟨w.heap.size, 0, none⟩ t (((w.alloc (.cells #[.pointer (some t)] 80)).alloc (.cells #[.pointer (some ⟨1, 80, none⟩), .pointer (some ⟨w.heap.size, 0, none⟩), .int .u64 150] 86)).alloc (.cells #[.pointer (some ⟨1, 80, none⟩), .pointer (some ⟨w.heap.size, 0, none⟩), .int .u64 150] 86)) (by rw [World.cell?_alloc_lt _ _ ⟨w.heap.size, 0, none⟩ (by simp; omega)]; simp)
  have st := as_setE t ⟨w.heap.size + 1 + 1 + 1, 0, none⟩ n old ((((w.alloc (.cells #[.pointer (some t)] 80)).alloc (.cells #[.pointer (some ⟨1, 80, none⟩), .pointer (some ⟨w.heap.size, 0, none⟩), .int .u64 150] 86)).alloc (.cells #[.pointer (some ⟨1, 80, none⟩), .pointer (some ⟨w.heap.size, 0, none⟩), .int .u64 150] 86)).alloc (.cells #[.int .i64 n] 56))
    (by rw [World.cell?_alloc_at _ _ _ _ (by simp)]; rfl)
    (by rw [World.cell?_alloc_lt _ _ t (by simp; omega), World.cell?_alloc_lt _ _ t (by simp; omega), World.cell?_alloc_lt _ _ t (by simp; omega), World.cell?_alloc_lt _ _ t htl]; exact ht0)
    (by rw [World.frozen?_alloc_old _ _ t (by simp; omega), World.frozen?_alloc_old _ _ t (by simp; omega), World.frozen?_alloc_old _ _ t (by simp; omega), World.frozen?_alloc_old _ _ t (Nat.ne_of_lt htl)]; exact hf0)
  go_enter Tryd.func38, Tryd.ntmps38
  go_wp2
  refine wp_loop_rounds 1 ?_
  rw [rounds_succ]
  go_wp2
  go_ret
  exact ⟨rfl, rfl⟩
end Go.Proofs.YtcajofdmadpmoaaDoor

namespace Go.Proofs.YtcajofdmadpmoaaDoor
open Go.RowKit

/-- package errors' own variable holds what its text lays -/
def Laid (w : World) : Prop := w.cell? ⟨0, 0, none⟩ = some (.iface 97 (.agg #[.pointer (some ⟨1, 34, none⟩)]))

theorem cell_lt {w : World} {a : Addr} {v : Value} (h : w.cell? a = some v) : a.block < w.heap.size := by
  rcases Nat.lt_or_ge a.block w.heap.size with g | g
  · exact g
  · simp [World.cell?, Array.getElem?_eq_none g] at h

theorem Laid.lt {w : World} (h : Laid w) : 0 < w.heap.size := cell_lt (a := ⟨0, 0, none⟩) h
theorem Laid.below {w w' : World} (h : Laid w) (hb : Below w.heap.size w w') : Laid w' := (hb.cell (p := ⟨0, 0, none⟩) h.lt).trans h

theorem told_nil (w : World) : Calls Tryd.prog 30 #[.nilIface] w fun e w' => e = .returned (.int .i64 0) ∧ w' = w := by
  go_enter Tryd.func30, Tryd.ntmps30
  go_wp2
  go_ret
  exact ⟨rfl, rfl⟩

set_option maxHeartbeats 400000 in
theorem told_hit (n : Int) (w : World) (hL : Laid w) :
    Calls Tryd.prog 30 #[.iface 56 (.int .i64 n)] w fun e w' => e = .returned (.int .i64 n) ∧ Below w.heap.size w w' := by
  have hlt := hL.lt
  have hg : Hid ((w.alloc (.cells #[.int .i64 0] 56)).cell? ⟨0, 0, none⟩ = some (.iface 97 (.agg #[.pointer (some ⟨1, 34, none⟩)]))) := by
    unfold Hid
    rw [World.cell?_alloc_lt _ _ ⟨0, 0, none⟩ hlt]; exact hL
  have ht : Hid ((w.alloc (.cells #[.int .i64 0] 56)).cell? ⟨w.heap.size, 0, none⟩ = some (.int .i64 0)) := by unfold Hid; simp
  have hf : Hid ((w.alloc (.cells #[.int .i64 0] 56)).frozen? ⟨w.heap.size, 0, none⟩ = false) := by unfold Hid; simp
  have has := hid (as_hit n ⟨w.heap.size, 0, none⟩ (.int .i64 0) _ hg.out ht.out hf.out)
  clear hg ht hf
  go_enter Tryd.func30, Tryd.ntmps30
  go_wp2_with fail
  refine has.out.mono ?_
  rintro e w' ⟨rfl, rfl⟩
  go_wp2_with fail
  go_ret
  refine ⟨rfl, ?_⟩
  exact (((((Below.refl _ _).alloc (Nat.le_refl _) _).alloc (by simp) _).alloc (by simp <;> omega) _).alloc (by simp <;> omega) _).alloc (by simp <;> omega) _

theorem error_nil (k : Int) (w : World) : Calls Tryd.prog 9 #[.nilIface, .int .i64 k] w fun e w' => e = .returned (.bool ((0 : Int) == k)) ∧ w' = w := by
  go_enter Tryd.func9, Tryd.ntmps9
  go_wp2_with fail
  refine (told_nil w).mono ?_
  rintro e w' ⟨rfl, rfl⟩
  go_wp2_with fail
  go_ret
  exact ⟨rfl, rfl⟩

theorem error_hit (n k : Int) (w : World) (hL : Laid w) : Calls Tryd.prog 9 #[.iface 56 (.int .i64 n), .int .i64 k] w fun e w' => e = .returned (.bool (n == k)) ∧ Below w.heap.size w w' := by
  have ht := hid (told_hit n w hL)
  clear hL
  go_enter Tryd.func9, Tryd.ntmps9
  go_wp2_with fail
  refine ht.out.mono ?_
  rintro e w' ⟨rfl, hb⟩
  go_wp2_with fail
  go_ret
  exact ⟨rfl, hb⟩

end Go.Proofs.YtcajofdmadpmoaaDoor
