/- Arrays of numbers in memory: n cells of one block, as a whole. -/
import Derived.Test.YtfijhnojflcajadDoorFld
import Derived.Laws.Rows
import Derived.Laws.Tables
import Derived.Laws.CopyOwn
import Derived.Deep.OwnRows
namespace Go.Proofs.YtfijhnojflcajadDoor
open Go.RowKit

/-- n numbers, as cells -/
def an (n : Nat) (f : Nat → Int) : Array Value := ((List.range n).map (fun j => Value.int .i64 (f j))).toArray
theorem an_size (n : Nat) (f : Nat → Int) : (an n f).size = n := by simp [an]
theorem an_at {n : Nat} {f : Nat → Int} {j : Nat} (h : j < n) : (an n f)[j]? = some (.int .i64 (f j)) := by simp [an, h]
theorem an_one (n : Nat) (f : Nat → Int) : (an n f).all (·.oneCell') = true := by
  rw [Array.all_eq_true_iff_forall_mem]
  intro v hv
  simp [an] at hv
  obtain ⟨j, _, rfl⟩ := hv
  rfl
theorem an_congr {n : Nat} {f g : Nat → Int} (h : ∀ j, j < n → f j = g j) : an n f = an n g := by
  unfold an
  congr 1
  refine List.map_congr_left (fun j hj => ?_)
  rw [h j (List.mem_range.1 hj)]

/-- block b holds these numbers and nothing else -/
def ArrI (w : World) (b : Nat) (t : TypeId) (n : Nat) (f : Nat → Int) : Prop := w.rowIs b t n (fun j => .int .i64 (f j))
theorem ArrI.heap {w : World} {b n : Nat} {t : TypeId} {f : Nat → Int} (h : ArrI w b t n f) : w.heap[b]? = some (.cells (an n f) t (0, 0)) := by
  obtain ⟨c, h1, h2, h3⟩ := h
  rw [h1]
  have : c = an n f := by
    apply Array.ext_getElem?
    intro i
    by_cases hi : i < n
    · rw [h3 i hi, an_at hi]
    · rw [Array.getElem?_eq_none (by omega), Array.getElem?_eq_none (by rw [an_size]; omega)]
  rw [this]
theorem ArrI.of {w : World} {b n : Nat} {t : TypeId} {f : Nat → Int} (h : w.heap[b]? = some (.cells (an n f) t (0, 0))) : ArrI w b t n f := ⟨_, h, an_size n f, fun _ hi => an_at hi⟩
theorem ArrI.new (w : World) (n : Nat) (t : TypeId) (f : Nat → Int) : ArrI (w.alloc (.cells (an n f) t)) w.heap.size t n f := ArrI.of (heap_alloc_new w _)
theorem ArrI.new2 (w : World) (o : Obj) (n : Nat) (t : TypeId) (f : Nat → Int) : ArrI ((w.alloc o).alloc (.cells (an n f) t)) (w.heap.size + 1) t n f := by
  have := ArrI.new (w.alloc o) n t f
  rwa [show (w.alloc o).heap.size = w.heap.size + 1 from by simp] at this
theorem ArrI.cell {w : World} {b n : Nat} {t : TypeId} {f : Nat → Int} (h : ArrI w b t n f) {i : Nat} (hi : i < n) : w.cell? ⟨b, i, none⟩ = some (.int .i64 (f i)) := World.rowIs.cell h hi
theorem ArrI.frozen {w : World} {b n : Nat} {t : TypeId} {f : Nat → Int} (h : ArrI w b t n f) (i : Nat) : w.frozen? ⟨b, i, none⟩ = false := World.rowIs.frozen h i
theorem ArrI.lt {w : World} {b n : Nat} {t : TypeId} {f : Nat → Int} (h : ArrI w b t n f) : b < w.heap.size := World.rowIs.lt h
theorem ArrI.congr {w : World} {b n : Nat} {t : TypeId} {f g : Nat → Int} (h : ArrI w b t n f) (e : ∀ j, j < n → f j = g j) : ArrI w b t n g := World.rowIs.congr h (fun j hj => by rw [e j hj])
theorem ArrI.block {w w' : World} {b n : Nat} {t : TypeId} {f : Nat → Int} (h : ArrI w b t n f) (e : w'.heap[b]? = w.heap[b]?) : ArrI w' b t n f := World.rowIs.of_block h e
theorem ArrI.below {w w' : World} {b n n0 : Nat} {t : TypeId} {f : Nat → Int} (h : ArrI w b t n f) (e : Below n0 w w') (hb : b < n0) : ArrI w' b t n f := h.block (e.block b hb)
theorem ArrI.set {w : World} {b n : Nat} {t : TypeId} {f : Nat → Int} (h : ArrI w b t n f) (i : Nat) (x : Int) : ArrI (w.setCell ⟨b, i, none⟩ (.int .i64 x)) b t n (up f i x) :=
  World.rowIs.congr (World.rowIs.set h i (.int .i64 x)) (fun j _ => by show (if j = i then _ else _) = Value.int .i64 (up f i x j); unfold up; split <;> rfl)
theorem ArrI.other {w : World} {b n : Nat} {t : TypeId} {f : Nat → Int} (h : ArrI w b t n f) {a : Addr} (ha : b ≠ a.block) (v : Value) : ArrI (w.setCell a v) b t n f := World.rowIs.setOther h ha v
theorem ArrI.alloc {w : World} {b n : Nat} {t : TypeId} {f : Nat → Int} (h : ArrI w b t n f) (o : Obj) : ArrI (w.alloc o) b t n f := World.rowIs.alloc h o
theorem ArrI.drew {w : World} {b n : Nat} {t : TypeId} {f : Nat → Int} (h : ArrI w b t n f) : ArrI w.drew b t n f := h
theorem ArrI.setRow {w : World} {b n : Nat} {t : TypeId} {f : Nat → Int} (h : ArrI w b t n f) (g : Nat → Int) : ArrI (w.setRow b (an n g)) b t n g := ArrI.of (setRow_heap w b _ _ t _ h.heap)
theorem ArrI.otherRow {w : World} {b n : Nat} {t : TypeId} {f : Nat → Int} (h : ArrI w b t n f) {g : Nat} (hg : b ≠ g) (cs : Array Value) : ArrI (w.setRow g cs) b t n f := h.block (setRow_other w g b cs hg)
theorem ArrI.cells {w : World} {b n : Nat} {t : TypeId} {f : Nat → Int} (h : ArrI w b t n f) : Cells b 0 n f w := ⟨fun j hj => by rw [Nat.zero_add]; exact h.cell hj, fun j _ => h.frozen _⟩

/-- one place more of a row that is filled from its head on -/
def fll (g f : Nat → Int) (k : Nat) : Nat → Int := fun j => if j < k then g j else f j
theorem fll_zero (g f : Nat → Int) : fll g f 0 = f := funext fun j => by simp [fll]
theorem fll_at (g f : Nat → Int) (k : Nat) : fll g f k k = f k := by simp [fll]
theorem fll_up (g f : Nat → Int) (k : Nat) : up (fll g f k) k (g k) = fll g f (k + 1) := funext fun j => by
  unfold up fll
  by_cases h : j = k
  · subst h; simp
  · rw [if_neg h]
    by_cases h2 : j < k
    · rw [if_pos h2, if_pos (by omega)]
    · rw [if_neg h2, if_neg (by omega)]
theorem fll_all {g f : Nat → Int} {n j : Nat} (h : j < n) : fll g f n j = g j := by simp [fll, h]
theorem ArrI.next {w : World} {b n : Nat} {t : TypeId} {g f : Nat → Int} {k : Nat} (h : ArrI w b t n (fll g f k)) : ArrI (w.setCell ⟨b, k, none⟩ (.int .i64 (g k))) b t n (fll g f (k + 1)) := by
  rw [← fll_up]; exact h.set k (g k)

theorem wpList_load_an {P : Program} {ops : Array Oper} {rest : List Oper} {o : Oper} {a : Act} {w : World} {Q : Exit → Act → World → Prop} (hgd : o.guard = none) (ty : TypeId) (x : Operand) (ho : o.op = .load ty x)
    (g : Nat) (hx : a.eval x = .pointer (some ⟨g, 0, none⟩)) (t : TypeId) (n m : Nat) (e : TypeId) (f : Nat → Int) (hr : ArrI w g t n f) (hu : P.underlying ty = some (.array m e)) (hi : (P.info? ty).map (·.size) = some n)
    (h : wpList P ops Q rest (a.put o.dst (.agg (an n f))) w) : wpList P ops Q (o :: rest) a w :=
  wpList_load_row hgd ty x ho g hx t (an n f) (0, 0) _ hr.heap hu rfl (by rw [an_size]; exact hi) h
theorem wpList_store_an {P : Program} {ops : Array Oper} {rest : List Oper} {o : Oper} {a : Act} {w : World} {Q : Exit → Act → World → Prop} (hgd : o.guard = none) (ty : TypeId) (x y : Operand) (ho : o.op = .store ty x y)
    (g n : Nat) (f h0 : Nat → Int) (hx : a.eval x = .pointer (some ⟨g, 0, none⟩)) (hy : a.eval y = .agg (an n f)) (t : TypeId) (hr : ArrI w g t n h0) (hi : (P.info? ty).map (·.size) = some n)
    (h : wpList P ops Q rest (a.put o.dst undef) (w.setRow g (an n f))) : wpList P ops Q (o :: rest) a w :=
  wpList_store_row hgd ty x y ho g (an n f) hx hy t (an n h0) hr.heap (by rw [an_size]; exact hi) (by rw [an_size, an_size]) (an_one n f) h

/-- an array result -/
theorem results_an {P : Program} {fn : Func} {p : Tmp} {ty : TypeId} (h : fn.results = #[.cell p ty]) (tmps : Array Value) (w : World) (g : Nat) (t : TypeId) (n m : Nat) (e : TypeId) (f : Nat → Int)
    (hp : tmps.getD p undef = .pointer (some ⟨g, 0, none⟩)) (hr : ArrI w g t n f) (hu : P.underlying ty = some (.array m e)) (hi : (P.info? ty).map (·.size) = some n) :
    (results fn tmps).run P w = .ok (.agg (an n f)) w :=
  results_cell_row h tmps w g t (an n f) (0, 0) _ hp hr.heap hu rfl (by rw [an_size]; exact hi)

end Go.Proofs.YtfijhnojflcajadDoor
