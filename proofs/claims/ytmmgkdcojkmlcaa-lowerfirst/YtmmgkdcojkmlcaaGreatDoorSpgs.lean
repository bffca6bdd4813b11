/- Plain facts on digests: Cauchy's matrix is undone by itself, with weights. Arrays of numbers in memory: n cells of one block, as a whole. Package sponge: a sponge in memory; weighted, mixed. Package sponge: permuted, unmixed, unpermuted. Package sponge: unpermuted. Package sponge: changed, Permute, Unpermute, Mix. Package sponge: commonDivisor, leastCoprime, rootOf. The field's method Div. Package sponge: matrixOf, weightsOf, constantsOf. Package sponge: New. Package sponge: Field, Power, Constant, Matrix, Pad. -/
import Derived.Test.YtmmgkdcojkmlcaaGreatDoorRefs
import Derived.Test.YtmmgkdcojkmlcaaGreatDoorFld
import Derived.Laws.Rows
import Derived.Laws.Tables
import Derived.Laws.CopyOwn
import Derived.Deep.OwnRows
import Derived.StillTailTactics
namespace Go.Proofs.YtmmgkdcojkmlcaaGreatDoor
open Go.RowKit

namespace Spo
/-- the product of i + t + 8 for t below k, and that of i - t without the one that is 0 -/
def pab (i : Nat) : Nat → Int
  | 0 => 1
  | k + 1 => pab i k * ((i : Int) + (k : Int) + 8)
def pbe (i : Nat) : Nat → Int
  | 0 => 1
  | k + 1 => if k = i then pbe i k else pbe i k * ((i : Int) - (k : Int))
end Spo

/-- what the program reckons as weights -/
def wt (q : Nat) (i : Nat) : Int := Spo.pab i 8 % (q : Int) * (invn q (Spo.pbe i 8 % (q : Int)) : Int) % (q : Int)
/-! ## stirring undone -/
end Go.Proofs.YtmmgkdcojkmlcaaGreatDoor

namespace Go.Proofs.YtmmgkdcojkmlcaaGreatDoor
open Go.RowKit

/-- n numbers, as cells -/
def an (n : Nat) (f : Nat → Int) : Array Value := ((List.range n).map (fun j => Value.int .i64 (f j))).toArray
theorem an_size (n : Nat) (f : Nat → Int) : (an n f).size = n := by simp [an]
theorem an_at {n : Nat} {f : Nat → Int} {j : Nat} (h : j < n) : (an n f)[j]? = some (.int .i64 (f j)) := by simp [an, h]
/-- block b holds these numbers and nothing else -/
def ArrI (w : World) (b : Nat) (t : TypeId) (n : Nat) (f : Nat → Int) : Prop := w.rowIs b t n (fun j => .int .i64 (f j))
theorem ArrI.heap {w : World} {b n : Nat} {t : TypeId} {f : Nat → Int} (h : ArrI w b t n f) : w.heap[b]? = some (.cells (an n f) t (0, 0)) := by
  obtain ⟨c, h1, h2, h3⟩ := h
  rw [h1]
  have : c = an n f := by
    apply Array.ext_getElem?
    intro i
    by_cases hi : i < n
    · rw [h3 i hi, an_at hi]
    · rw [Array.getElem?_eq_none (by omega), Array.getElem?_eq_none (by rw [an_size]; omega)]
  rw [this]
theorem ArrI.of {w : World} {b n : Nat} {t : TypeId} {f : Nat → Int} (h : w.heap[b]? = some (.cells (an n f) t (0, 0))) : ArrI w b t n f := ⟨_, h, an_size n f, fun _ hi => an_at hi⟩
theorem ArrI.new (w : World) (n : Nat) (t : TypeId) (f : Nat → Int) : ArrI (w.alloc (.cells (an n f) t)) w.heap.size t n f := ArrI.of (heap_alloc_new w _)
theorem ArrI.cell {w : World} {b n : Nat} {t : TypeId} {f : Nat → Int} (h : ArrI w b t n f) {i : Nat} (hi : i < n) : w.cell? ⟨b, i, none⟩ = some (.int .i64 (f i)) := World.rowIs.cell h hi
theorem ArrI.frozen {w : World} {b n : Nat} {t : TypeId} {f : Nat → Int} (h : ArrI w b t n f) (i : Nat) : w.frozen? ⟨b, i, none⟩ = false := World.rowIs.frozen h i
theorem ArrI.lt {w : World} {b n : Nat} {t : TypeId} {f : Nat → Int} (h : ArrI w b t n f) : b < w.heap.size := World.rowIs.lt h
theorem ArrI.congr {w : World} {b n : Nat} {t : TypeId} {f g : Nat → Int} (h : ArrI w b t n f) (e : ∀ j, j < n → f j = g j) : ArrI w b t n g := World.rowIs.congr h (fun j hj => by rw [e j hj])
theorem ArrI.block {w w' : World} {b n : Nat} {t : TypeId} {f : Nat → Int} (h : ArrI w b t n f) (e : w'.heap[b]? = w.heap[b]?) : ArrI w' b t n f := World.rowIs.of_block h e
theorem ArrI.below {w w' : World} {b n n0 : Nat} {t : TypeId} {f : Nat → Int} (h : ArrI w b t n f) (e : Below n0 w w') (hb : b < n0) : ArrI w' b t n f := h.block (e.block b hb)
theorem ArrI.set {w : World} {b n : Nat} {t : TypeId} {f : Nat → Int} (h : ArrI w b t n f) (i : Nat) (x : Int) : ArrI (w.setCell ⟨b, i, none⟩ (.int .i64 x)) b t n (up f i x) :=
  World.rowIs.congr (World.rowIs.set h i (.int .i64 x)) (fun j _ => by show (if j = i then _ else _) = Value.int .i64 (up f i x j); unfold up; split <;> rfl)
theorem ArrI.other {w : World} {b n : Nat} {t : TypeId} {f : Nat → Int} (h : ArrI w b t n f) {a : Addr} (ha : b ≠ a.block) (v : Value) : ArrI (w.setCell a v) b t n f := World.rowIs.setOther h ha v
theorem ArrI.alloc {w : World} {b n : Nat} {t : TypeId} {f : Nat → Int} (h : ArrI w b t n f) (o : Obj) : ArrI (w.alloc o) b t n f := World.rowIs.alloc h o
theorem ArrI.drew {w : World} {b n : Nat} {t : TypeId} {f : Nat → Int} (h : ArrI w b t n f) : ArrI w.drew b t n f := h
theorem ArrI.setRow {w : World} {b n : Nat} {t : TypeId} {f : Nat → Int} (h : ArrI w b t n f) (g : Nat → Int) : ArrI (w.setRow b (an n g)) b t n g := ArrI.of (setRow_heap w b _ _ t _ h.heap)
theorem ArrI.cells {w : World} {b n : Nat} {t : TypeId} {f : Nat → Int} (h : ArrI w b t n f) : Cells b 0 n f w := ⟨fun j hj => by rw [Nat.zero_add]; exact h.cell hj, fun j _ => h.frozen _⟩

/-- one place more of a row that is filled from its head on -/
def fll (g f : Nat → Int) (k : Nat) : Nat → Int := fun j => if j < k then g j else f j
theorem fll_up (g f : Nat → Int) (k : Nat) : up (fll g f k) k (g k) = fll g f (k + 1) := funext fun j => by
  unfold up fll
  by_cases h : j = k
  · subst h; simp
  · rw [if_neg h]
    by_cases h2 : j < k
    · rw [if_pos h2, if_pos (by omega)]
    · rw [if_neg h2, if_neg (by omega)]
theorem ArrI.next {w : World} {b n : Nat} {t : TypeId} {g f : Nat → Int} {k : Nat} (h : ArrI w b t n (fll g f k)) : ArrI (w.setCell ⟨b, k, none⟩ (.int .i64 (g k))) b t n (fll g f (k + 1)) := by
  rw [← fll_up]; exact h.set k (g k)

end Go.Proofs.YtmmgkdcojkmlcaaGreatDoor

namespace Go.Proofs.YtmmgkdcojkmlcaaGreatDoor
open Go.RowKit

/-- a sponge in memory: its field lies in block b, n is its power, d what undoes it -/
structure SpgAt (w : World) (s b q n d : Nat) : Prop where
  f : w.cell? ⟨s, 0, none⟩ = some (.pointer (some ⟨b, 0, none⟩))
  pw : w.cell? ⟨s, 1, none⟩ = some (.int .i64 n)
  rt : w.cell? ⟨s, 2, none⟩ = some (.int .i64 d)
  mat : ∀ i j, i < 8 → j < 8 → w.cell? ⟨s, 3 + i * 8 + j, none⟩ = some (.int .i64 (invn q ((i + j + 8 : Nat) : Int)))
  wts : ∀ i, i < 8 → w.cell? ⟨s, 67 + i, none⟩ = some (.int .i64 (wt q i))
  cst : ∀ r i, r < 8 → i < 8 → w.cell? ⟨s, 75 + r * 8 + i, none⟩ = some (.int .i64 (cst q r i))
  p : w.cell? ⟨b, 0, none⟩ = some (.int .i64 q)
theorem SpgAt.lt {w : World} {s b q n d : Nat} (h : SpgAt w s b q n d) : s < w.heap.size := heap_lt h.f
theorem SpgAt.ltb {w : World} {s b q n d : Nat} (h : SpgAt w s b q n d) : b < w.heap.size := heap_lt h.p
theorem SpgAt.blocks {w w' : World} {s b q n d : Nat} (h : SpgAt w s b q n d) (e : w'.heap[s]? = w.heap[s]?) (e2 : w'.heap[b]? = w.heap[b]?) : SpgAt w' s b q n d :=
  ⟨(World.cell?_of_block (w := w) (a := ⟨s, 0, none⟩) e).trans h.f, (World.cell?_of_block (w := w) (a := ⟨s, 1, none⟩) e).trans h.pw, (World.cell?_of_block (w := w) (a := ⟨s, 2, none⟩) e).trans h.rt,
    fun i j hi hj => (World.cell?_of_block (w := w) (a := ⟨s, 3 + i * 8 + j, none⟩) e).trans (h.mat i j hi hj), fun i hi => (World.cell?_of_block (w := w) (a := ⟨s, 67 + i, none⟩) e).trans (h.wts i hi),
    fun r i hr hi => (World.cell?_of_block (w := w) (a := ⟨s, 75 + r * 8 + i, none⟩) e).trans (h.cst r i hr hi), (World.cell?_of_block (w := w) (a := ⟨b, 0, none⟩) e2).trans h.p⟩
theorem SpgAt.below {w w' : World} {s b q n d n0 : Nat} (h : SpgAt w s b q n d) (e : Below n0 w w') (hs : s < n0) (hb : b < n0) : SpgAt w' s b q n d := h.blocks (e.block s hs) (e.block b hb)
theorem SpgAt.keep {w w' : World} {s b q n d : Nat} (h : SpgAt w s b q n d) (e : Below w.heap.size w w') : SpgAt w' s b q n d := h.below e h.lt h.ltb

end Go.Proofs.YtmmgkdcojkmlcaaGreatDoor

namespace Go.Proofs.YtmmgkdcojkmlcaaGreatDoor
open Go.RowKit

/-- what a sponge's numbers are -/
structure SpgOk (q n d : Nat) : Prop where
  pr : Num.Prime q
  h23 : 23 ≤ q
  hm : q ≤ 2147483647
  pw : Spo.PowIs q n
  bk : d * n % (q - 1) = 1
  d1 : 1 ≤ d
  dm : d ≤ 2147483647
  nm : n ≤ 2147483647

end Go.Proofs.YtmmgkdcojkmlcaaGreatDoor

namespace Go.Proofs.YtmmgkdcojkmlcaaGreatDoor
open Go.RowKit

end Go.Proofs.YtmmgkdcojkmlcaaGreatDoor

namespace Go.Proofs.YtmmgkdcojkmlcaaGreatDoor
open Go.RowKit

theorem enters_of {P : Program} {f : FuncId} {fn : Func} (hf : P.funcs[f]? = some fn) (hb : fn.body.isNone = false) (hn : (fn.name == "runtime.NumGoroutine") = false) (args : Array Value) (w : World) : (callFunc f args).run P w = .ok (.enter f args) w := by
  simp only [callFunc, Sem.run_bind, run_program, Result.andThen_ok, hf, hn, hb]
  rfl

end Go.Proofs.YtmmgkdcojkmlcaaGreatDoor

namespace Go.Proofs.YtmmgkdcojkmlcaaGreatDoor
open Go.RowKit

end Go.Proofs.YtmmgkdcojkmlcaaGreatDoor

namespace Go.Proofs.YtmmgkdcojkmlcaaGreatDoor
open Go.RowKit

end Go.Proofs.YtmmgkdcojkmlcaaGreatDoor

namespace Go.Proofs.YtmmgkdcojkmlcaaGreatDoor
open Go.RowKit

/-- the matrix and the constants, as rows of one block -/
def mtr (q : Nat) (t : Nat) : Int := (invn q ((t / 8 + t % 8 + 8 : Nat) : Int) : Int)
def ctr (q : Nat) (t : Nat) : Int := cst q ((t / 8 : Nat) : Int) ((t % 8 : Nat) : Int)
theorem mtr_at (q i j : Nat) (hj : j < 8) : mtr q (i * 8 + j) = (invn q ((i + j + 8 : Nat) : Int) : Int) := by
  unfold mtr
  rw [show (i * 8 + j) / 8 = i from by omega, show (i * 8 + j) % 8 = j from by omega]
theorem ctr_at (q i j : Nat) (hj : j < 8) : ctr q (i * 8 + j) = cst q i j := by
  unfold ctr
  rw [show (i * 8 + j) / 8 = i from by omega, show (i * 8 + j) % 8 = j from by omega]

end Go.Proofs.YtmmgkdcojkmlcaaGreatDoor

namespace Go.Proofs.YtmmgkdcojkmlcaaGreatDoor
open Go.RowKit

/-! ## a struct that is built of rows -/
/-- the cells of a sponge -/
def SpgC (R : Array Value) (q b n d : Nat) : Prop := R.size = 139 ∧ R[0]? = some (.pointer (some ⟨b, 0, none⟩)) ∧ R[1]? = some (.int .i64 n) ∧ R[2]? = some (.int .i64 d) ∧ (∀ t, t < 64 → R[3 + t]? = some (.int .i64 (mtr q t))) ∧
  (∀ t, t < 8 → R[67 + t]? = some (.int .i64 (wt q t))) ∧ (∀ t, t < 64 → R[75 + t]? = some (.int .i64 (ctr q t)))

theorem SpgC.at {R : Array Value} {q b n d s : Nat} (h : SpgC R q b n d) {w : World} {t : TypeId} (hw : w.heap[s]? = some (.cells R t (0, 0))) (hp : w.cell? ⟨b, 0, none⟩ = some (.int .i64 q)) : SpgAt w s b q n d := by
  obtain ⟨_, h1, h2, h3, h4, h5, h6⟩ := h
  have hc : ∀ i, w.cell? ⟨s, i, none⟩ = R[i]? := fun i => cell_of_row w s i R t (0, 0) hw
  refine ⟨by rw [hc, h1], by rw [hc, h2], by rw [hc, h3], fun i j hi hj => ?_, fun i hi => by rw [hc, h5 i hi], fun r i hr hi => ?_, hp⟩
  · rw [hc, Nat.add_assoc, h4 (i * 8 + j) (by omega), mtr_at q i j hj]
  · rw [hc, Nat.add_assoc, h6 (r * 8 + i) (by omega), ctr_at q r i hi]

end Go.Proofs.YtmmgkdcojkmlcaaGreatDoor

namespace Go.Proofs.YtmmgkdcojkmlcaaGreatDoor
open Go.RowKit

/-- rows of a matrix: each is a list of its own -/
def MatR (w : World) (q n0 k : Nat) (V : Nat → Value) : Prop := ∀ j, j < k → ∃ g N, V j = .slice (some ⟨g, 0, none⟩) 8 N ∧ n0 < g ∧ g < w.heap.size ∧ ∀ i, i < 8 → w.cell? ⟨g, i, none⟩ = some (.int .i64 (invn q ((j + i + 8 : Nat) : Int)))
theorem MatR.step {w w' : World} {q n0 k : Nat} {V : Nat → Value} (h : MatR w q n0 k V) (e : ∀ g, n0 < g → g < w.heap.size → w'.heap[g]? = w.heap[g]?) (hs : w.heap.size ≤ w'.heap.size) : MatR w' q n0 k V := fun j hj => by
  obtain ⟨g, N, h1, h2, h3, h4⟩ := h j hj
  exact ⟨g, N, h1, h2, by omega, fun i hi => (World.cell?_of_block (w := w) (a := ⟨g, i, none⟩) (e g h2 h3)).trans (h4 i hi)⟩

end Go.Proofs.YtmmgkdcojkmlcaaGreatDoor
