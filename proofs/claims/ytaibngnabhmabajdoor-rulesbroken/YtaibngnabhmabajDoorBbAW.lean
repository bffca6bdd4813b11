/- Package machine: walked. Package machine: ascending, what is collected. Package machine: ascending. Package machine: slices.SortFunc at cells. Package machine: slices.SortFunc at cells, whole. Package rules: how pairs are sorted. -/
import Derived.Test.YtaibngnabhmabajDoorBbAV
import Derived.Maps.RangeWalk
import Derived.Shelf.SlSortCmp.WholeK
import Derived.Lib.Small
import Derived.Test.YtaibngnabhmabajDoorBbAQ
import Derived.Shelf.SlSortCmp.NoneTotal
import Derived.Test.YtaibngnabhmabajDoorBbAH
import Derived.StillTailTactics
namespace Go.Proofs.YtaibngnabhmabajDoor
open Go.RowKit Go.Maps

theorem one_row {W : World} {g : Nat} {t : TypeId} {v : Value} (h : W.heap[g]? = some (.cells #[v] t (0, 0))) : W.rowIs g t 1 (fun _ => v) := ⟨_, h, rfl, fun i hi => by
    have : i = 0 := by omega
    rw [this]
    rfl⟩
theorem one_cell {W : World} {g : Nat} {t : TypeId} {v : Value} (h : W.heap[g]? = some (.cells #[v] t (0, 0))) : W.cell? ⟨g, 0, none⟩ = some v := by simp [World.cell?, h]
theorem one_set {W : World} {g : Nat} {t : TypeId} {v : Value} (h : W.heap[g]? = some (.cells #[v] t (0, 0))) (x : Value) : (W.setCell ⟨g, 0, none⟩ x).heap[g]? = some (.cells #[x] t (0, 0)) := by
  obtain ⟨c, hb, hs, hc⟩ := (one_row h).set 0 x
  rw [hb]
  congr 2
  apply Array.ext
  · simpa using hs
  · intro i h1 h2
    have hi : i = 0 := by simp at h2; omega
    subst hi
    have := hc 0 (by omega)
    rw [Array.getElem?_eq_getElem h1] at this
    injection this
/-- how a run that begins ends: steps, then what is deferred -/
theorem errV_nz {z : Int} (h : z ≠ 0) : errV z = .iface 52 (.int .i64 z) := by unfold errV; rw [if_neg h]
theorem zer_first : Zer [(0, 0)] := ⟨by decide, by decide⟩
theorem csB_first {p : Nat} (h3 : 3 ≤ p) : CsB p [(0, 0)] := fun j hj => by
  have : j = 0 := by simp at hj; omega
  subst this
  show (0 : Int) ≤ 0 ∧ (0 : Int) < p
  omega

theorem leaves_same {P : Program} {fn : Func} {t1 t2 : Array Value} {R : Ending → World → Prop} (hr : results fn t1 = results fn t2) : ∀ (ds : List Deferred) (u : FrameMode) (w : World), Leaves P fn t1 R ds u w → Leaves P fn t2 R ds u w
  | [], .returning, w, h => by
    obtain ⟨v, h1, h2⟩ := h
    exact ⟨v, by rw [← hr]; exact h1, h2⟩
  | [], .panicking _, _, h => h
  | [], .run, _, h => h
  | d :: ds, u, w, h => by
    obtain ⟨h1, fv, cap, f, args, h2, h3, h4⟩ := h
    refine ⟨h1, fv, cap, f, args, h2, h3, h4.mono ?_⟩
    rintro e u' w' he
    cases e with
    | returned v => exact leaves_same hr ds _ _ he
    | panicked c => exact leaves_same hr ds _ _ he
    | outgrown => exact he
end Go.Proofs.YtaibngnabhmabajDoor

namespace Go.Proofs.YtaibngnabhmabajDoor
open Go.RowKit Go.Maps

theorem same_int (a b : Int) : (Lit.int .i64 a).sameKey (Lit.int .i64 b) = decide (a = b) := by
  by_cases h : a = b
  · subst h
    simp [Lit.sameKey]
  · rw [sameKey_ne (by intro e; injection e with _ e; exact h e), decide_eq_false h]
theorem mem_step {D : DataW Unit} {left : Lit → Bool} {l : List (Int × Int)} {x c : Int} (hx : x ≠ 0) (h64 : I64 x) (hl : left (.int .i64 x) = true) (hat : ∀ zd, D.atKey (.int .i64 x) zd = .lit (.int .i64 c))
    (h : ∀ x y, (x, y) ∈ l ↔ (x ≠ 0 ∧ I64 x ∧ Maps.has D (.int .i64 x) = true ∧ left (.int .i64 x) = false ∧ D.atKey (.int .i64 x) (.lit (.int .i64 0)) = .lit (.int .i64 y))) :
    ∀ x' y, (x', y) ∈ l ++ [(x, c)] ↔ (x' ≠ 0 ∧ I64 x' ∧ Maps.has D (.int .i64 x') = true ∧ (fun z : Lit => left z && !z.sameKey (.int .i64 x)) (.int .i64 x') = false ∧ D.atKey (.int .i64 x') (.lit (.int .i64 0)) = .lit (.int .i64 y)) := fun x' y => by
  rw [List.mem_append, h x' y]
  simp only [same_int]
  by_cases e : x' = x
  · subst e
    simp only [hl, List.mem_singleton, Prod.mk.injEq, true_and, decide_true, Bool.not_true, Bool.and_false]
    constructor
    · rintro (⟨_, _, _, h4, _⟩ | rfl)
      · cases h4
      · exact ⟨hx, h64, has_true_of_atKey hat, hat _⟩
    · rintro ⟨_, _, _, h5⟩
      rw [hat] at h5
      injection h5 with h5
      injection h5 with _ h5
      exact .inr h5.symm
  · simp [e]
theorem mem_skip {D : DataW Unit} {left : Lit → Bool} {l : List (Int × Int)}
    (h : ∀ x y, (x, y) ∈ l ↔ (x ≠ 0 ∧ I64 x ∧ Maps.has D (.int .i64 x) = true ∧ left (.int .i64 x) = false ∧ D.atKey (.int .i64 x) (.lit (.int .i64 0)) = .lit (.int .i64 y))) :
    ∀ x' y, (x', y) ∈ l ↔ (x' ≠ 0 ∧ I64 x' ∧ Maps.has D (.int .i64 x') = true ∧ (fun z : Lit => left z && !z.sameKey (.int .i64 0)) (.int .i64 x') = false ∧ D.atKey (.int .i64 x') (.lit (.int .i64 0)) = .lit (.int .i64 y)) := fun x' y => by
  rw [h x' y]
  simp only [same_int]
  by_cases e : x' = 0
  · simp [e]
  · simp [e]

end Go.Proofs.YtaibngnabhmabajDoor

namespace Go.Proofs.YtaibngnabhmabajDoor
open Go.RowKit Go.Maps

theorem wf_boundsM {x : Int} (h : (Lit.int .i64 x).wf = true) : I64 x := bounds_i64 h
/-- what is told, ascending, but for cell 0 -/
def AscC (cs l : List (Int × Int)) : Prop := l.Pairwise (fun a b => a.1 < b.1) ∧ ∀ x y, (x, y) ∈ l ↔ (x ≠ 0 ∧ I64 x ∧ 0 ≤ finz cs x ∧ cvl cs x = y)

end Go.Proofs.YtaibngnabhmabajDoor

namespace Go.Proofs.YtaibngnabhmabajDoor
open Go.RowKit Go.Maps

end Go.Proofs.YtaibngnabhmabajDoor

namespace Go.Proofs.YtaibngnabhmabajDoor
open Go.RowKit Go.Maps

/-- a cell's two numbers -/
def enc2 (x : Int × Int) : List Value := [.int .i64 x.1, .int .i64 x.2]
def cf2 (x y : Int × Int) : Int := Lib.compareInt x.1 y.1
theorem lt2 (x y : Int × Int) : ltOf cf2 x y = decide (x.1 < y.1) := by
  unfold ltOf cf2 Lib.compareInt
  by_cases h1 : x.1 < y.1
  · simp [h1]
  · by_cases h2 : y.1 < x.1 <;> simp [h1, h2]
theorem swo2 : Sort.SWO (ltOf cf2) where
  irrefl x := by rw [lt2]; simp
  trans x y z h1 h2 := by rw [lt2] at *; simp at *; omega
  ntrans x y z h1 h2 := by rw [lt2] at *; simp at *; omega

theorem celv_flat (l : List (Int × Int)) (t : Nat) (h : t < l.length * 2) : (celv l)[t]? = some (Sort.flatK enc2 2 l.toArray)[t]! := by
  rw [Sort.get_flatK enc2 2 _ t (by simpa using h)]
  have hj : t / 2 < l.length := by omega
  have hc : (l.toArray)[t / 2]! = cat l (t / 2) := by
    rw [getElem!_pos _ _ (by simpa using hj)]
    simp [cat, hj]
  rw [hc]
  have ha := celv_at l (t / 2) hj
  rcases Nat.mod_two_eq_zero_or_one t with h0 | h0
  · rw [h0]
    have e : t / 2 * 2 = t := by omega
    rw [e] at ha
    exact ha.1
  · rw [h0]
    have e : t / 2 * 2 + 1 = t := by omega
    rw [e] at ha
    exact ha.2

theorem srt_perm {l : List (Int × Int)} {d' : Array (Int × Int)} (h : Sort.PermIn 0 l.toArray.size l.toArray d') : d'.size = l.length ∧ d'.toList.Perm l := by
  obtain ⟨h1, _, h3⟩ := h
  have h1' : d'.size = l.length := by simpa using h1
  refine ⟨h1', ?_⟩
  have e1 : (d'.extract 0 l.toArray.size) = d' := by
    rw [← h1]
    simp
  have e2 : (l.toArray.extract 0 l.toArray.size).toList = l := by simp
  rw [e1, e2] at h3
  exact h3

theorem srt_up {n : Nat} {d' : Array (Int × Int)} (hn : d'.size = n) (h : Sort.SortedIn (ltOf cf2) 0 n d') : d'.toList.Pairwise (fun a b => a.1 ≤ b.1) := by
  rw [List.pairwise_iff_getElem]
  intro i j hi hj hij
  have hi' : i < d'.size := by simpa using hi
  have hj' : j < d'.size := by simpa using hj
  have := h i j (Nat.zero_le _) hij (by omega)
  rw [lt2, getElem!_pos d' i hi', getElem!_pos d' j hj'] at this
  have h2 := of_decide_eq_false this
  simp only [Array.getElem_toList]
  omega

theorem srt_heap (W : World) (g n : Nat) (d' : Array (Int × Int)) (os : Array Obj) (k : Nat) (hk : k < W.heap.size) :
    (sortWorldK enc2 2 W g 0 n d' os).heap[k]? = if g = k then (W.heap[k]?).map (Sort.onCells (Sort.putCells id 0 (Sort.flatK enc2 2 d'))) else W.heap[k]? := by
  show ((W.heap.modify g (Sort.onCells (Sort.putCells id 0 (Sort.flatK enc2 2 d')))) ++ os)[k]? = _
  rw [Array.getElem?_append_left (by simpa using hk), Array.getElem?_modify]

theorem srt_below {base : Nat} {W : World} {g : Nat} (hb : base ≤ g) (hg0 : g < W.heap.size) (n : Nat) (d' : Array (Int × Int)) (os : Array Obj) : Below base W (sortWorldK enc2 2 W g 0 n d' os) := by
  refine ⟨rfl, rfl, rfl, size_sortWorldK_c enc2 2 W g 0 n d' os, fun k hk => ?_⟩
  rw [srt_heap W g n d' os k (by omega), if_neg (by omega)]

end Go.Proofs.YtaibngnabhmabajDoor

namespace Go.Proofs.YtaibngnabhmabajDoor
open Go.RowKit Go.Maps

/-- the order of pairs -/
def cf3 (x y : Int × Int) : Int := if Lib.compareInt x.1 y.1 ≠ 0 then Lib.compareInt x.1 y.1 else Lib.compareInt x.2 y.2
theorem cmpi_cases (x y : Int) : (x < y ∧ Lib.compareInt x y = -1) ∨ (x = y ∧ Lib.compareInt x y = 0) ∨ (y < x ∧ Lib.compareInt x y = 1) := by
  unfold Lib.compareInt
  by_cases h1 : x < y
  · simp [h1]
  · by_cases h2 : y < x
    · simp [h1, h2]
    · have : x = y := by omega
      simp [this]
theorem lt3 (x y : Int × Int) : ltOf cf3 x y = !decide (cle y x) := by
  have h1 := cmpi_cases x.1 y.1
  have h2 := cmpi_cases x.2 y.2
  have e : ltOf cf3 x y = decide (cf3 x y < 0) := rfl
  rw [e]
  unfold cf3 cle
  rcases h1 with ⟨a, b⟩ | ⟨a, b⟩ | ⟨a, b⟩
  · rw [b]
    have : ¬ (y.1 < x.1 ∨ y.1 = x.1 ∧ y.2 ≤ x.2) := by omega
    simp [this]
  · rw [b]
    rcases h2 with ⟨c, d⟩ | ⟨c, d⟩ | ⟨c, d⟩
    · rw [d]
      have : ¬ (y.1 < x.1 ∨ y.1 = x.1 ∧ y.2 ≤ x.2) := by omega
      simp [this]
    · rw [d]
      have : (y.1 < x.1 ∨ y.1 = x.1 ∧ y.2 ≤ x.2) := by omega
      simp [this]
    · rw [d]
      have : (y.1 < x.1 ∨ y.1 = x.1 ∧ y.2 ≤ x.2) := by omega
      simp [this]
  · rw [b]
    have : (y.1 < x.1 ∨ y.1 = x.1 ∧ y.2 ≤ x.2) := by omega
    simp [this]
theorem swo3 : Sort.SWO (ltOf cf3) where
  irrefl x := by rw [lt3]; simp [cle_refl]
  trans x y z h1 h2 := by
    rw [lt3] at *
    have h1' : ¬ cle y x := by simpa using h1
    have h2' : ¬ cle z y := by simpa using h2
    have : ¬ cle z x := fun h => by unfold cle at *; omega
    simp [this]
  ntrans x y z h1 h2 := by
    rw [lt3] at *
    have h1' : cle y x := by simpa using h1
    have h2' : cle z y := by simpa using h2
    have := cle_trans h2' h1'
    simp [this]

end Go.Proofs.YtaibngnabhmabajDoor
