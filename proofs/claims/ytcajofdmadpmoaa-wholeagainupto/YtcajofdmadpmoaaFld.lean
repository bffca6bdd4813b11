/- What remainder, leastDivisor, and the methods Of and Mul of a field do, for every input that the program gives them: the world stays as it is. What bits.Len answers in this program, by the library's own contract: the number of halvings till nothing is left; and that a number is below that power of 2. What the methods Pow and Inv of a field answer: so many equal factors modulo p, the number of factors taken modulo p - 1. What primeDivisors answers: a new list of the primes that divide its number; nothing that was there has turned. What New answers: of a prime that may be a field, of any other number none. What the methods Order, isGenerator and Generator of a field answer. What package attestref1 answers of elements and powers, and what makes 1 of an element. What package attestref1 answers of sums, differences, products and quotients; and the field's methods Add, Sub, Neg, Div. What attestref1.Order, Generator and Root and the field's methods Root and P answer: the same on both sides. What attestref1.Generator and Root and the field's methods Root and P answer. What a walk says of memory: lists that can be read, lists of the call's own, and worlds in which one block alone has turned. attestsame.Ints: whether two lists of numbers are the same, for every two lists that can be read; nothing turns. Lists that are gathered by append: what they hold can be read. errors.As at a target that is a variable of type api.Errno, by the text of the library itself: a nil error is none; an error that is an api.Errno is put into the variable. Then plain.Told and attestsame.Error by it. plain.Told, attestsame.Error, attestref1.Prime and attestsame.Field by their contracts: of a prime that may be there is a field, of any other number there is none, and both sides say so. -/
import Derived.Test.YtcajofdmadpmoaaRows
import Derived.Test.YtcajofdmadpmoaaPlain
import Derived.KernelRfl
import Derived.WalkKit
import Derived.WalkSpells
import Derived.WalkLawsBesides
import Derived.Shelf.Small.Bits
import Derived.Lib.BitFns
import Derived.Test.YtcajofdmadpmoaaProg
import Derived.Deep.RegionWith
import Derived.WalkSmall
import Derived.Deep.QuietTactic
import Derived.BigQuiet
import Derived.Deep.OwnRows
import Derived.LaidEql
import Derived.Stop.Asserts
import Derived.RowKitTokens
namespace Go.Proofs.Ytcajofdmadpmoaa
open Go.RowKit

theorem Try.infoInt : (Try.prog.info? 3).map (fun i => (i.zero, i.size, i.bytes)) = some (some (.int .i64 0), 1, 8) := by kernel_rfl

theorem hid {p : Prop} (h : p) : Hid p := h

theorem emod_bounds (n : Int) (p : Nat) (h3 : 3 ≤ p) : 0 ≤ n % (p : Int) ∧ n % (p : Int) < p :=
  ⟨Int.emod_nonneg _ (by omega), Int.emod_lt_of_pos _ (by omega)⟩

end Go.Proofs.Ytcajofdmadpmoaa

namespace Go.Proofs
open Go.Shelf
end Go.Proofs

namespace Go.Proofs.Ytcajofdmadpmoaa
open Go.RowKit

/-- the element as a number -/
def el (p : Nat) (a : Int) : Nat := (a % (p : Int)).toNat

end Go.Proofs.Ytcajofdmadpmoaa

namespace Go.Proofs.Ytcajofdmadpmoaa
open Go.RowKit

end Go.Proofs.Ytcajofdmadpmoaa

namespace Go.Proofs.Ytcajofdmadpmoaa
open Go.RowKit

end Go.Proofs.Ytcajofdmadpmoaa

namespace Go.Proofs.Ytcajofdmadpmoaa
open Go.RowKit

/-- a list that can be read -/
def Row (w : World) (v : Value) (ds : List Nat) : Prop :=
  (v = .slice none 0 0 ∧ ds = []) ∨ ∃ g cap, v = .slice (some ⟨g, 0, none⟩) ds.length cap ∧ ∀ k, k < ds.length → w.cell? ⟨g, k, none⟩ = some (.int .i64 ((ds.getD k 0 : Nat) : Int))

end Go.Proofs.Ytcajofdmadpmoaa

namespace Go.Proofs.Ytcajofdmadpmoaa
open Go.RowKit

theorem el_cast (p : Nat) (a : Int) (h3 : 3 ≤ p) : ((el p a : Nat) : Int) = a % p := by
  have := (emod_bounds a p h3).1; unfold el; omega
theorem el_lt (p : Nat) (a : Int) (h3 : 3 ≤ p) : el p a < p := by
  have := emod_bounds a p h3; unfold el; omega
/-- what makes 1 of an element -/
def invn (p : Nat) (a : Int) : Nat := Num.pwm p (el p a) (p - 2)

end Go.Proofs.Ytcajofdmadpmoaa

namespace Go.Proofs.Ytcajofdmadpmoaa
open Go.RowKit

end Go.Proofs.Ytcajofdmadpmoaa

namespace Go.Proofs.Ytcajofdmadpmoaa
open Go.RowKit

end Go.Proofs.Ytcajofdmadpmoaa

namespace Go.Proofs.Ytcajofdmadpmoaa
open Go.RowKit

end Go.Proofs.Ytcajofdmadpmoaa

namespace Go.Proofs.Ytcajofdmadpmoaa
open Go.RowKit

/-- what stands at a place -/
def zat (zs : List Int) (i : Nat) : Int := zs[i]?.getD 0

/-- a list that can be read, in a block of which P holds -/
def RowP (P : Nat → Prop) (w : World) (a : Option Addr) (zs : List Int) : Prop :=
  ∀ k, k < zs.length → ∃ b o, a = some ⟨b, o, none⟩ ∧ P b ∧ w.cell? ⟨b, o + k, none⟩ = some (.int .i64 (zat zs k))
/-- a list that can be read, below n0 -/
def RowB (n0 : Nat) (w : World) (a : Option Addr) (zs : List Int) : Prop :=
  ∀ k, k < zs.length → ∃ b o, a = some ⟨b, o, none⟩ ∧ b < n0 ∧ w.cell? ⟨b, o + k, none⟩ = some (.int .i64 (zat zs k))
theorem RowB.below {n0 : Nat} {A B : World} {a : Option Addr} {zs : List Int} (h : Below n0 A B) (r : RowB n0 A a zs) : RowB n0 B a zs := by
  intro k hk
  obtain ⟨b, o, h1, h2, h3⟩ := r k hk
  exact ⟨b, o, h1, h2, (h.cell (p := ⟨b, o + k, none⟩) h2).trans h3⟩
theorem RowB.mono {n0 n1 : Nat} {A : World} {a : Option Addr} {zs : List Int} (h : n0 ≤ n1) (r : RowB n0 A a zs) : RowB n1 A a zs := by
  intro k hk
  obtain ⟨b, o, h1, h2, h3⟩ := r k hk
  exact ⟨b, o, h1, by omega, h3⟩
theorem RowB.p {n0 : Nat} {P : Nat → Prop} {A : World} {a : Option Addr} {zs : List Int} (h : ∀ b, b < n0 → P b) (r : RowB n0 A a zs) : RowP P A a zs := by
  intro k hk
  obtain ⟨b, o, h1, h2, h3⟩ := r k hk
  exact ⟨b, o, h1, h b h2, h3⟩

/-- block g alone has turned, and there is no new one -/
structure Only (g : Nat) (w w' : World) : Prop where
  os : w'.os = w.os
  tape : w'.tape = w.tape
  output : w'.output = w.output
  size : w'.heap.size = w.heap.size
  block : ∀ k, k ≠ g → w'.heap[k]? = w.heap[k]?

theorem Only.refl (g : Nat) (w : World) : Only g w w := ⟨rfl, rfl, rfl, rfl, fun _ _ => rfl⟩
theorem Only.trans {g : Nat} {a b c : World} (h : Only g a b) (k : Only g b c) : Only g a c :=
  ⟨k.os.trans h.os, k.tape.trans h.tape, k.output.trans h.output, k.size.trans h.size, fun i hi => (k.block i hi).trans (h.block i hi)⟩
theorem Only.drewN {g : Nat} {a w : World} (h : Only g a w) (n : Nat) : Only g a (w.drewN n) := h.trans ⟨rfl, rfl, rfl, rfl, fun _ _ => rfl⟩
theorem Only.setCell {g : Nat} {a w : World} (h : Only g a w) {p : Addr} (hp : p.block = g) (u : Value) : Only g a (w.setCell p u) :=
  h.trans ⟨rfl, rfl, rfl, by simp [World.setCell], fun k hk => Below.heap_setCell _ _ _ _ (by omega)⟩
theorem Only.cell {g : Nat} {w w' : World} (h : Only g w w') {p : Addr} (hp : p.block ≠ g) : w'.cell? p = w.cell? p := World.cell?_of_block (w := w) (h.block p.block hp)
theorem Only.frozen {g : Nat} {w w' : World} (h : Only g w w') {p : Addr} (hp : p.block ≠ g) : w'.frozen? p = w.frozen? p := World.frozen?_of_block (w := w) (h.block p.block hp)
theorem Only.below {g n0 : Nat} {w w' : World} (h : Only g w w') (hg : n0 ≤ g) : Below n0 w w' :=
  ⟨h.os, h.tape, h.output, by rw [h.size]; exact Nat.le_refl _, fun k hk => h.block k (by omega)⟩
theorem RowP.only {g : Nat} {P : Nat → Prop} {A B : World} {a : Option Addr} {zs : List Int} (h : Only g A B) (hP : ∀ b, P b → b ≠ g) (r : RowP P A a zs) : RowP P B a zs := by
  intro k hk
  obtain ⟨b, o, h1, h2, h3⟩ := r k hk
  exact ⟨b, o, h1, h2, (h.cell (p := ⟨b, o + k, none⟩) (hP b h2)).trans h3⟩

/-- one place turned -/
def up (f : Nat → Int) (i : Nat) (x : Int) : Nat → Int := fun j => if j = i then x else f j

/-- n cells of the call's own, from o on in block g -/
structure Cells (g o n : Nat) (f : Nat → Int) (W : World) : Prop where
  cells : ∀ j, j < n → W.cell? ⟨g, o + j, none⟩ = some (.int .i64 (f j))
  soft : ∀ j, j < n → W.frozen? ⟨g, o + j, none⟩ = false

theorem Cells.set {g o n : Nat} {f : Nat → Int} {W : World} (h : Cells g o n f W) {i : Nat} (x : Int) (hi : i < n) : Cells g o n (up f i x) (W.setCell ⟨g, o + i, none⟩ (.int .i64 x)) := by
  refine ⟨fun j hj => ?_, fun j hj => by rw [World.frozen?_setCell]; exact h.soft j hj⟩
  unfold up
  by_cases hji : j = i
  · subst hji; rw [if_pos rfl]; exact World.cell?_setCell_same _ _ _ (h.cells j hj)
  · rw [if_neg hji, World.cell?_setCell_other _ _ _ _ (by intro e; injection e with _ h2 _; omega)]; exact h.cells j hj
theorem Cells.congr {g o n : Nat} {f f' : Nat → Int} {W : World} (h : Cells g o n f W) (e : ∀ j, j < n → f j = f' j) : Cells g o n f' W :=
  ⟨fun j hj => by rw [← e j hj]; exact h.cells j hj, h.soft⟩
theorem Cells.block {g o n : Nat} {f : Nat → Int} {W W' : World} (h : Cells g o n f W) (e : W'.heap[g]? = W.heap[g]?) : Cells g o n f W' :=
  ⟨fun j hj => (World.cell?_of_block (w := W) (a := ⟨g, o + j, none⟩) e).trans (h.cells j hj), fun j hj => (World.frozen?_of_block (w := W) (a := ⟨g, o + j, none⟩) e).trans (h.soft j hj)⟩
theorem Cells.only {g g' o n : Nat} {f : Nat → Int} {W W' : World} (h : Cells g o n f W) (e : Only g' W W') (hg : g ≠ g') : Cells g o n f W' := h.block (e.block g hg)
theorem Cells.below {g o n n0 : Nat} {f : Nat → Int} {W W' : World} (h : Cells g o n f W) (e : Below n0 W W') (hg : g < n0) : Cells g o n f W' := h.block (e.block g hg)
theorem Cells.row {g n : Nat} {f : Nat → Int} {W : World} (h : Cells g 0 n f W) {zs : List Int} (hn : zs.length ≤ n) (hz : ∀ j, j < zs.length → zat zs j = f j) {n0 : Nat} (hg : g < n0) : RowB n0 W (some ⟨g, 0, none⟩) zs :=
  fun k hk => ⟨g, 0, rfl, hg, by rw [hz k hk]; exact h.cells k (by omega)⟩

/-- a list in a block from n0 on -/
def NewR (n0 : Nat) (w : World) (a : Option Addr) (zs : List Int) : Prop := RowP (fun b => n0 ≤ b ∧ b < w.heap.size) w a zs
theorem NewR.row {n0 : Nat} {w : World} {a : Option Addr} {zs : List Int} (h : NewR n0 w a zs) : RowB w.heap.size w a zs := fun k hk => by
  obtain ⟨b, o, h1, h2, h3⟩ := h k hk
  exact ⟨b, o, h1, h2.2, h3⟩
theorem NewR.below {n0 : Nat} {w w' : World} {a : Option Addr} {zs : List Int} (h : NewR n0 w a zs) (e : Below w.heap.size w w') : NewR n0 w' a zs := fun k hk => by
  obtain ⟨b, o, h1, h2, h3⟩ := h k hk
  exact ⟨b, o, h1, ⟨h2.1, Nat.lt_of_lt_of_le h2.2 e.size⟩, (e.cell (p := ⟨b, o + k, none⟩) h2.2).trans h3⟩
/-- numbers that an int holds -/
def Fits (zs : List Int) : Prop := ∀ j, j < zs.length → -9223372036854775808 ≤ zat zs j ∧ zat zs j ≤ 9223372036854775807
theorem Fits.all {zs : List Int} (h : Fits zs) (j : Nat) : -9223372036854775808 ≤ zat zs j ∧ zat zs j ≤ 9223372036854775807 := by
  by_cases hj : j < zs.length
  · exact h j hj
  · simp [zat, show zs.length ≤ j from by omega]

end Go.Proofs.Ytcajofdmadpmoaa

namespace Go.Proofs.Ytcajofdmadpmoaa
open Go.RowKit

end Go.Proofs.Ytcajofdmadpmoaa

namespace Go.Proofs.Ytcajofdmadpmoaa
open Go.RowKit

/-- a new list that is owned can be read -/
theorem rowB_of_owns {w : World} {base : Nat} {v : Value} {zs : List Int} (h : w.ownsRow base 3 1 v zs.length (zs.map (Value.int .i64))) : ∃ a cap, v = .slice a zs.length cap ∧ RowB w.heap.size w a zs := by
  rcases h.2 with ⟨h1, h2⟩ | ⟨g, cap, cur, hv, _, hg, _⟩
  · refine ⟨none, 0, by rw [h1, h2], fun k hk => by omega⟩
  · refine ⟨some ⟨g, 0, none⟩, cap, hv, fun k hk => ⟨g, 0, rfl, (Array.getElem?_eq_some_iff.1 hg).1, ?_⟩⟩
    have := h.cells (g := g) (by rw [hv]; rfl) k (.int .i64 (zat zs k)) (by simp [zat, hk])
    have hadd : (⟨g, 0, none⟩ : Addr).add k = ⟨g, k, none⟩ := by unfold Addr.add; split <;> simp_all
    rw [hadd] at this
    rw [Nat.zero_add]
    exact this

/-- a list that can be read, with its room -/
structure Lst (n0 : Nat) (w : World) (a : Option Addr) (cap : Nat) (zs : List Int) : Prop where
  row : RowB n0 w a zs
  room : zs.length ≤ cap
  nil : a = none → cap = 0

theorem Lst.below {n0 : Nat} {A B : World} {a : Option Addr} {cap : Nat} {zs : List Int} (h : Below n0 A B) (r : Lst n0 A a cap zs) : Lst n0 B a cap zs := ⟨r.row.below h, r.room, r.nil⟩
theorem Lst.mono {n0 n1 : Nat} {A : World} {a : Option Addr} {cap : Nat} {zs : List Int} (h : n0 ≤ n1) (r : Lst n0 A a cap zs) : Lst n1 A a cap zs := ⟨r.row.mono h, r.room, r.nil⟩
theorem Lst.none (n0 : Nat) (w : World) : Lst n0 w none 0 [] := ⟨fun k hk => by simp at hk, by simp, fun _ => rfl⟩

theorem lst_of_owns {w : World} {base : Nat} {v : Value} {zs : List Int} (h : w.ownsRow base 3 1 v zs.length (zs.map (Value.int .i64))) : ∃ a cap, v = .slice a zs.length cap ∧ Lst w.heap.size w a cap zs := by
  obtain ⟨a, cap, h1, h2⟩ := rowB_of_owns h
  refine ⟨a, cap, h1, h2, ?_, ?_⟩
  · rcases h.2 with ⟨g1, g2⟩ | ⟨g, c, cur, hv, _, _, hn, _⟩
    · omega
    · rw [h1] at hv; injection hv with _ _ e3; omega
  · intro ha
    rcases h.2 with ⟨g1, g2⟩ | ⟨g, c, cur, hv, _⟩
    · rw [h1] at g1; injection g1
    · rw [h1, ha] at hv; injection hv with e1; cases e1

/-- so many, each by its place -/
def ls (F : Nat → Int) (k : Nat) : List Int := (List.range k).map F
theorem ls_len (F : Nat → Int) (k : Nat) : (ls F k).length = k := by simp [ls]
theorem ls_at (F : Nat → Int) (k j : Nat) (h : j < k) : zat (ls F k) j = F j := by simp [ls, zat, h]

theorem owns_succ {w : World} {base : Nat} {v : Value} {zs : List Int} {x : Int} (h : w.ownsRow base 3 1 v (zs.length + 1) (zs.map (Value.int .i64) ++ [.int .i64 x])) : w.ownsRow base 3 1 v (zs ++ [x]).length ((zs ++ [x]).map (Value.int .i64)) := by
  rw [List.length_append, List.length_singleton, List.map_append]; exact h

end Go.Proofs.Ytcajofdmadpmoaa

namespace Go.Proofs.Ytcajofdmadpmoaa
open Go.RowKit Go.Extern.Stop Go.Stop Go.Extern

end Go.Proofs.Ytcajofdmadpmoaa

namespace Go.Proofs.Ytcajofdmadpmoaa
open Go.RowKit

end Go.Proofs.Ytcajofdmadpmoaa
