/- Package machine: ascending, what is collected. Package machine: ascending. Package machine: slices.SortFunc at cells. Package machine: slices.SortFunc at cells, whole. Plain facts on products of x less numbers: they tell lists apart. -/
import Derived.Test.YtaibngnabhmabakDoorMahO
import Derived.Maps.RangeWalk
import Derived.Shelf.SlSortCmp.WholeK
import Derived.Lib.Small
import Derived.Test.YtaibngnabhmabakDoorSrtC
import Derived.Shelf.SlSortCmp.NoneTotal
import Derived.Test.YtaibngnabhmabakDoorPlain
namespace Go.Proofs.YtaibngnabhmabakDoor
open Go.RowKit Go.Maps

/-- what is collected -/
structure AsI (B r n : Nat) (D : DataW Unit) (left : Lit → Bool) (cnt : Nat) (l : List (Int × Int)) (v : Value) (w W : World) : Prop where
  rg : W.ranges Tryd.prog 3 (plainElem Tryd.prog 3) B r n D left cnt
  own : CelR w.heap.size W v l
  mem : ∀ x y, (x, y) ∈ l ↔ (x ≠ 0 ∧ I64 x ∧ Maps.has D (.int .i64 x) = true ∧ left (.int .i64 x) = false ∧ D.atKey (.int .i64 x) (.lit (.int .i64 0)) = .lit (.int .i64 y))
  nd : (l.map Prod.fst).Nodup
  bel : Below w.heap.size w W
  len : l.length + cnt ≤ n
end Go.Proofs.YtaibngnabhmabakDoor

namespace Go.Proofs.YtaibngnabhmabakDoor
open Go.RowKit Go.Maps

end Go.Proofs.YtaibngnabhmabakDoor

namespace Go.Proofs.YtaibngnabhmabakDoor
open Go.RowKit Go.Maps

set_option maxHeartbeats 1000000 in
theorem nani_any (x : Int) (w : World) : Calls Tryd.prog 56 #[.int .i64 x] w fun e w' => e = .returned (.bool false) ∧ w' = w := by
  go_enter Tryd.func56, Tryd.ntmps56
  go_wp2_with fail
  go_ret
  exact ⟨by simp, rfl⟩

set_option maxHeartbeats 1000000 in
theorem cmpi_any (x y : Int) (w : World) : Calls Tryd.prog 43 #[.int .i64 x, .int .i64 y] w fun e w' => e = .returned (.int .i64 (Lib.compareInt x y)) ∧ w' = w := by
  go_enter Tryd.func43, Tryd.ntmps43
  go_wp2_with fail
  refine (nani_any x _).mono ?_
  rintro e w1 ⟨rfl, h1⟩
  rw [h1]
  go_wp2_with fail
  refine (nani_any y _).mono ?_
  rintro e w2 ⟨rfl, h2⟩
  rw [h2]
  go_wp2_with fail
  all_goals (go_ret; refine ⟨?_, rfl⟩; unfold Lib.compareInt; (repeat' split) <;> first | rfl | (exfalso; omega))

end Go.Proofs.YtaibngnabhmabakDoor

namespace Go.Proofs.YtaibngnabhmabakDoor
open Go.RowKit Go.Maps

/-- a cell's two numbers -/
def enc2 (x : Int × Int) : List Value := [.int .i64 x.1, .int .i64 x.2]
theorem celv_flat (l : List (Int × Int)) (t : Nat) (h : t < l.length * 2) : (celv l)[t]? = some (Sort.flatK enc2 2 l.toArray)[t]! := by
  rw [Sort.get_flatK enc2 2 _ t (by simpa using h)]
  have hj : t / 2 < l.length := by omega
  have hc : (l.toArray)[t / 2]! = cat l (t / 2) := by
    rw [getElem!_pos _ _ (by simpa using hj)]
    simp [cat, hj]
  rw [hc]
  have ha := celv_at l (t / 2) hj
  rcases Nat.mod_two_eq_zero_or_one t with h0 | h0
  · rw [h0]
    have e : t / 2 * 2 = t := by omega
    rw [e] at ha
    exact ha.1
  · rw [h0]
    have e : t / 2 * 2 + 1 = t := by omega
    rw [e] at ha
    exact ha.2

theorem srt_perm {l : List (Int × Int)} {d' : Array (Int × Int)} (h : Sort.PermIn 0 l.toArray.size l.toArray d') : d'.size = l.length ∧ d'.toList.Perm l := by
  obtain ⟨h1, _, h3⟩ := h
  have h1' : d'.size = l.length := by simpa using h1
  refine ⟨h1', ?_⟩
  have e1 : (d'.extract 0 l.toArray.size) = d' := by
    rw [← h1]
    simp
  have e2 : (l.toArray.extract 0 l.toArray.size).toList = l := by simp
  rw [e1, e2] at h3
  exact h3

theorem srt_heap (W : World) (g n : Nat) (d' : Array (Int × Int)) (os : Array Obj) (k : Nat) (hk : k < W.heap.size) :
    (sortWorldK enc2 2 W g 0 n d' os).heap[k]? = if g = k then (W.heap[k]?).map (Sort.onCells (Sort.putCells id 0 (Sort.flatK enc2 2 d'))) else W.heap[k]? := by
  show ((W.heap.modify g (Sort.onCells (Sort.putCells id 0 (Sort.flatK enc2 2 d')))) ++ os)[k]? = _
  rw [Array.getElem?_append_left (by simpa using hk), Array.getElem?_modify]

theorem srt_cel {base : Nat} {W : World} {g cap : Nat} {l : List (Int × Int)} (h : CelR base W (.slice (some ⟨g, 0, none⟩) l.length cap) l) (hg0 : g < W.heap.size) (n : Nat) (d' : Array (Int × Int)) (os : Array Obj) (hd : d'.size = l.length) :
    CelR base (sortWorldK enc2 2 W g 0 n d' os) (.slice (some ⟨g, 0, none⟩) l.length cap) d'.toList := by
  obtain ⟨h1, h2⟩ := h
  have hdl : d'.toList.length = l.length := by simpa using hd
  refine ⟨celv_len _, .inr ?_⟩
  rcases h2 with ⟨h2, _⟩ | ⟨g', cap', cur, hv, hb, hgc, hn, hm, hs, ht⟩
  · cases h2
  · injection hv with hv1 hv2 hv3
    injection hv1 with hv1
    injection hv1 with hv1
    subst hv1 hv3
    refine ⟨g, cap, Sort.putCells id 0 (Sort.flatK enc2 2 d') cur, by rw [hdl], hb, ?_, by rw [hdl]; exact hn, hm, by simpa [Sort.putCells] using hs, ?_⟩
    · rw [srt_heap W g n d' os g hg0, if_pos rfl, hgc]
      rfl
    · apply List.ext_getElem?
      intro t
      by_cases hlt : t < d'.toList.length * 2
      · have hcu : t < cur.size := by rw [hs]; rw [hdl] at hlt; omega
        rw [List.getElem?_take_of_lt hlt, celv_flat _ t hlt]
        rw [Array.getElem?_toList]
        unfold Sort.putCells
        rw [Array.getElem?_mapIdx, Array.getElem?_eq_getElem hcu, Option.map_some, if_pos ⟨Nat.zero_le _, by rw [Sort.size_flatK]; rw [hdl] at hlt; omega⟩]
        rfl
      · rw [List.getElem?_take_eq_none (by omega), List.getElem?_eq_none (by rw [celv_len]; omega)]

theorem srt_below {base : Nat} {W : World} {g : Nat} (hb : base ≤ g) (hg0 : g < W.heap.size) (n : Nat) (d' : Array (Int × Int)) (os : Array Obj) : Below base W (sortWorldK enc2 2 W g 0 n d' os) := by
  refine ⟨rfl, rfl, rfl, size_sortWorldK_c enc2 2 W g 0 n d' os, fun k hk => ?_⟩
  rw [srt_heap W g n d' os k (by omega), if_neg (by omega)]

end Go.Proofs.YtaibngnabhmabakDoor

namespace Go.Proofs.YtaibngnabhmabakDoor.Pol

/-- the product of x less each of a list, as a polynomial -/
def pl : List Int → S
  | [] => one
  | r :: l => mul (pl l) (lin r)
end Go.Proofs.YtaibngnabhmabakDoor.Pol
