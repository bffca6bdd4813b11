/- Package rules and its reference: what shows that something is not 0. Package rules: a row that shows one step. Package rules: rowOf. -/
import Derived.Test.YtaibngnabhmabajGreatDoorBtAS
import Derived.Test.YtaibngnabhmabajGreatDoorFld
import Derived.Test.YtaibngnabhmabajGreatDoorBtAZ
import Derived.Test.YtaibngnabhmabajGreatDoorBtBD
import Derived.Laws.CopyOwn
import Derived.Deep.RegionLaw
namespace Go.Proofs.YtaibngnabhmabajGreatDoor
open Go.RowKit

/-- what shows that something is not 0 -/
def hlp (p : Nat) (op i0 i1 : Int) : Int := if op = 4 then (invn p i1 : Int) else if op = 6 then (invn p ((i0 - i1) % (p : Int)) : Int) else if op = 9 then (invn p i0 : Int) else 0

set_option maxRecDepth 100000 in
set_option maxHeartbeats 2000000 in
theorem phelp_any (p b : Nat) (op i0 i1 i2 : Int) (w : World) (hpr : Num.Prime p) (h3 : 3 ≤ p) (h4 : p ≤ 2147483647) (hp : w.cell? ⟨b, 0, none⟩ = some (.int .i64 p)) (h00 : -9223372036854775808 ≤ i0) (h01 : i0 ≤ 9223372036854775807) (h10 : -9223372036854775808 ≤ i1) (h11 : i1 ≤ 9223372036854775807) :
    Calls Tryz.prog 132 #[.pointer (some ⟨b, 0, none⟩), .int .i64 op, .agg #[.int .i64 i0, .int .i64 i1, .int .i64 i2]] w fun e w' => e = .returned (.int .i64 (hlp p op i0 i1)) ∧ Below w.heap.size w w' := by
  obtain ⟨W0, hW0⟩ : ∃ W0, W0 = w.alloc (.cells #[.int .i64 i0, .int .i64 i1, .int .i64 i2] 133) := ⟨_, rfl⟩
  have hb0 : Below w.heap.size w W0 := by rw [hW0]; exact (Below.refl _ _).alloc (Nat.le_refl _) _
  have hs0 : W0.heap[w.heap.size]? = some (.cells #[.int .i64 i0, .int .i64 i1, .int .i64 i2] 133 (0, 0)) := by rw [hW0]; exact heap_alloc_new w _
  have k0 : W0.cell? ⟨w.heap.size, 0, none⟩ = some (.int .i64 i0) := by simp [World.cell?, hs0]
  have k1 : W0.cell? ⟨w.heap.size, 1, none⟩ = some (.int .i64 i1) := by simp [World.cell?, hs0]
  have hp0 : W0.cell? ⟨b, 0, none⟩ = some (.int .i64 p) := (hb0.cell (p := ⟨b, 0, none⟩) (World.block_lt_of_cell? _ _ hp)).trans hp
  have HB0 := hid hb0
  have e2 := emod_bounds (i0 - i1) p h3
  have HI : Hid (∀ (x : Int), -9223372036854775808 ≤ x → x ≤ 9223372036854775807 → Calls Tryz.prog 182 #[.pointer (some ⟨b, 0, none⟩), .int .i64 x] W0 fun e w' => e = .returned (.int .i64 (invn p x)) ∧ w' = W0) :=
    fun x h1 h2 => by have := inv_any p b x W0 h3 h4 hp0 h1 h2; rwa [inv_ref p x hpr h3] at this
  have HS := hid (sub_any p b i0 i1 W0 h3 h4 hp0 h00 h01 h10 h11)
  have HI0 := hid (HI.out i0 h00 h01)
  have HI1 := hid (HI.out i1 h10 h11)
  have HI2 := hid (HI.out ((i0 - i1) % (p : Int)) (by omega) (by omega))
  clear HI hb0 hs0 e2 h00 h01 h10 h11 hp
  by_cases o4 : op = 4
  · subst o4
    rw [show hlp p 4 i0 i1 = (invn p i1 : Int) by simp [hlp]]
    generalize ((invn p i1 : Nat) : Int) = r at *
    go_enter Tryz.func132, Tryz.ntmps132
    go_wp2_with fail
    rw [← hW0]
    clear hW0
    go_wp2_with fail
    refine HI1.out.mono ?_
    rintro e w1 ⟨rfl, rfl⟩
    go_wp2_with fail
    go_ret
    exact ⟨rfl, HB0.out⟩
  · have o4' : (op == 4) = false := by simp [o4]
    by_cases o6 : op = 6
    · subst o6
      rw [show hlp p 6 i0 i1 = (invn p ((i0 - i1) % (p : Int)) : Int) by simp [hlp]]
      generalize ((invn p ((i0 - i1) % (p : Int)) : Nat) : Int) = r at *
      generalize (i0 - i1) % (p : Int) = s at *
      go_enter Tryz.func132, Tryz.ntmps132
      go_wp2_with fail
      rw [← hW0]
      clear hW0
      go_wp2_with fail
      refine HS.out.mono ?_
      rintro e w1 ⟨rfl, rfl⟩
      go_wp2_with fail
      refine HI2.out.mono ?_
      rintro e w1 ⟨rfl, rfl⟩
      go_wp2_with fail
      go_ret
      exact ⟨rfl, HB0.out⟩
    · have o6' : (op == 6) = false := by simp [o6]
      by_cases o9 : op = 9
      · subst o9
        rw [show hlp p 9 i0 i1 = (invn p i0 : Int) by simp [hlp]]
        generalize ((invn p i0 : Nat) : Int) = r at *
        go_enter Tryz.func132, Tryz.ntmps132
        go_wp2_with fail
        rw [← hW0]
        clear hW0
        go_wp2_with fail
        refine HI0.out.mono ?_
        rintro e w1 ⟨rfl, rfl⟩
        go_wp2_with fail
        go_ret
        exact ⟨rfl, HB0.out⟩
      · have o9' : (op == 9) = false := by simp [o9]
        rw [show hlp p op i0 i1 = 0 by simp [hlp, o4, o6, o9]]
        clear o4 o6 o9
        go_enter Tryz.func132, Tryz.ntmps132
        go_wp2_with fail
        rw [← hW0]
        clear hW0
        go_wp2_with fail
        go_ret
        exact ⟨rfl, HB0.out⟩

set_option maxRecDepth 100000 in
set_option maxHeartbeats 2000000 in
theorem rhint_any (p : Nat) (op pc fp ap rv a0 a1 a2 i0 i1 i2 : Int) (w : World) (h3 : 3 ≤ p) (h4 : p ≤ 2147483647) (h00 : -9223372036854775808 ≤ i0) (h01 : i0 ≤ 9223372036854775807) (h10 : -9223372036854775808 ≤ i1) (h11 : i1 ≤ 9223372036854775807) :
    Calls Tryz.prog 53 #[.int .i64 (p : Int), .int .i64 op, .agg #[.int .i64 pc, .int .i64 fp, .int .i64 ap, .int .i64 rv, .int .i64 a0, .int .i64 a1, .int .i64 a2, .int .i64 i0, .int .i64 i1, .int .i64 i2]] w fun e w' => e = .returned (.int .i64 (hlp p op i0 i1)) ∧ Below w.heap.size w w' := by
  obtain ⟨W0, hW0⟩ : ∃ W0, W0 = w.alloc (.cells #[.int .i64 pc, .int .i64 fp, .int .i64 ap, .int .i64 rv, .int .i64 a0, .int .i64 a1, .int .i64 a2, .int .i64 i0, .int .i64 i1, .int .i64 i2] 135) := ⟨_, rfl⟩
  have hb0 : Below w.heap.size w W0 := by rw [hW0]; exact (Below.refl _ _).alloc (Nat.le_refl _) _
  have hs0 : W0.heap[w.heap.size]? = some (.cells #[.int .i64 pc, .int .i64 fp, .int .i64 ap, .int .i64 rv, .int .i64 a0, .int .i64 a1, .int .i64 a2, .int .i64 i0, .int .i64 i1, .int .i64 i2] 135 (0, 0)) := by rw [hW0]; exact heap_alloc_new w _
  have k0 : W0.cell? ⟨w.heap.size, 7, none⟩ = some (.int .i64 i0) := by simp [World.cell?, hs0]
  have k1 : W0.cell? ⟨w.heap.size, 8, none⟩ = some (.int .i64 i1) := by simp [World.cell?, hs0]
  have HB0 := hid hb0
  have e2 := emod_bounds (i0 - i1) p h3
  have HS := hid (rsub_any p i0 i1 W0 h3 h4 h00 h01 h10 h11)
  have HI0 := hid (rinv_any p i0 W0 h3 h4 h00 h01)
  have HI1 := hid (rinv_any p i1 W0 h3 h4 h10 h11)
  have HI2 := hid (rinv_any p ((i0 - i1) % (p : Int)) W0 h3 h4 (by omega) (by omega))
  clear hb0 hs0 e2 h00 h01 h10 h11
  by_cases o4 : op = 4
  · subst o4
    rw [show hlp p 4 i0 i1 = (invn p i1 : Int) by simp [hlp]]
    generalize ((invn p i1 : Nat) : Int) = r at *
    go_enter Tryz.func53, Tryz.ntmps53
    go_wp2_with fail
    rw [← hW0]
    clear hW0
    go_wp2_with fail
    refine HI1.out.mono ?_
    rintro e w1 ⟨rfl, rfl⟩
    go_wp2_with fail
    go_ret
    exact ⟨rfl, HB0.out⟩
  · have o4' : (op == 4) = false := by simp [o4]
    by_cases o6 : op = 6
    · subst o6
      rw [show hlp p 6 i0 i1 = (invn p ((i0 - i1) % (p : Int)) : Int) by simp [hlp]]
      generalize ((invn p ((i0 - i1) % (p : Int)) : Nat) : Int) = r at *
      generalize (i0 - i1) % (p : Int) = s at *
      go_enter Tryz.func53, Tryz.ntmps53
      go_wp2_with fail
      rw [← hW0]
      clear hW0
      go_wp2_with fail
      refine HS.out.mono ?_
      rintro e w1 ⟨rfl, rfl⟩
      go_wp2_with fail
      refine HI2.out.mono ?_
      rintro e w1 ⟨rfl, rfl⟩
      go_wp2_with fail
      go_ret
      exact ⟨rfl, HB0.out⟩
    · have o6' : (op == 6) = false := by simp [o6]
      by_cases o9 : op = 9
      · subst o9
        rw [show hlp p 9 i0 i1 = (invn p i0 : Int) by simp [hlp]]
        generalize ((invn p i0 : Nat) : Int) = r at *
        go_enter Tryz.func53, Tryz.ntmps53
        go_wp2_with fail
        rw [← hW0]
        clear hW0
        go_wp2_with fail
        refine HI0.out.mono ?_
        rintro e w1 ⟨rfl, rfl⟩
        go_wp2_with fail
        go_ret
        exact ⟨rfl, HB0.out⟩
      · have o9' : (op == 9) = false := by simp [o9]
        rw [show hlp p op i0 i1 = 0 by simp [hlp, o4, o6, o9]]
        clear o4 o6 o9
        go_enter Tryz.func53, Tryz.ntmps53
        go_wp2_with fail
        rw [← hW0]
        clear hW0
        go_wp2_with fail
        go_ret
        exact ⟨rfl, HB0.out⟩

end Go.Proofs.YtaibngnabhmabajGreatDoor

namespace Go.Proofs.YtaibngnabhmabajGreatDoor
open Go.RowKit Go.Maps

/-- a row of numbers that is a block, whole -/
def BRow (g : Nat) (w : World) (l : List Int) : Prop := w.heap[g]? = some (.cells (l.map (Value.int .i64)).toArray 3 (0, 0))
theorem BRow.rowIs {g : Nat} {w : World} {l : List Int} (h : BRow g w l) : w.rowIs g 3 l.length (fun i => .int .i64 (zat l i)) :=
  ⟨_, h, by simp, fun i hi => by simp [zat, hi]⟩
theorem brow_of {g : Nat} {w : World} {l : List Int} (h : w.rowIs g 3 l.length (fun i => .int .i64 (zat l i))) : BRow g w l := by
  obtain ⟨c, hb, hs, hc⟩ := h
  unfold BRow
  rw [hb]
  congr 2
  apply Array.ext
  · simpa using hs
  · intro i h1 h2
    have h4 : i < l.length := by simpa using h2
    have := hc i h4
    rw [Array.getElem?_eq_getElem h1] at this
    injection this with this
    rw [this]
    simp [zat, h4]
theorem BRow.set {g : Nat} {w : World} {l : List Int} (h : BRow g w l) {k : Nat} (x : Int) (hk : k < l.length) : BRow g (w.setCell ⟨g, k, none⟩ (.int .i64 x)) (l.set k x) := by
  apply brow_of
  rw [List.length_set]
  have := h.rowIs.set k (.int .i64 x)
  obtain ⟨c, h1, h2, h3⟩ := this
  refine ⟨c, h1, h2, fun i hi => ?_⟩
  rw [h3 i hi]
  show some (if i = k then Value.int .i64 x else .int .i64 (zat l i)) = some (.int .i64 (zat (l.set k x) i))
  rw [zat_set hk]
  split <;> rfl
theorem BRow.row {g : Nat} {w : World} {l : List Int} (h : BRow g w l) : IRow g w l :=
  ⟨(Array.getElem?_eq_some_iff.1 h).1, fun k hk => by simp [World.cell?, show w.heap[g]? = _ from h, zat, hk], fun j => by simp [World.frozen?, show w.heap[g]? = _ from h]⟩
theorem BRow.block {g : Nat} {w w' : World} {l : List Int} (h : BRow g w l) (e : w'.heap[g]? = w.heap[g]?) : BRow g w' l := e.trans h
theorem made_zero (n : Nat) : (madeCells (Value.int .i64 0).cells (n * 1)).toList = (List.replicate n (0 : Int)).map (Value.int .i64) := by
  apply List.ext_getElem?
  intro i
  by_cases h : i < n
  · simp [madeCells, h]
    show (#[Value.int .i64 0])[i % 1]! = _
    rw [Nat.mod_one]
    rfl
  · simp [madeCells, h]
theorem brow_made {base g n : Nat} {w : World} (h : w.ownsRow base 3 1 (.slice (some ⟨g, 0, none⟩) n n) n (madeCells (Value.int .i64 0).cells (n * 1)).toList) : BRow g w (List.replicate n 0) := by
  rcases h.2 with ⟨e, _⟩ | ⟨g', cap, cur, e1, _, hg, _, _, hs, ht⟩
  · cases e
  · injection e1 with e1 _ e3
    injection e1 with e1
    injection e1 with e1
    subst e1 e3
    unfold BRow
    rw [hg]
    congr 2
    rw [made_zero] at ht
    apply Array.toList_inj.1
    rw [← ht, List.take_of_length_le (by simp; omega)]
theorem splice_three (l : List Value) (o : Nat) (a b c : Value) (h : o + 3 ≤ l.length) : splice l o [a, b, c] = ((l.set o a).set (o + 1) b).set (o + 2) c := by
  apply List.ext_getElem?
  intro i
  unfold splice
  simp only [List.getElem?_append, List.getElem?_set, List.length_take, List.getElem?_take, List.getElem?_drop, List.length_set, List.length_cons, List.length_nil]
  by_cases h1 : i < o
  · rw [if_pos (by omega), if_pos h1, if_neg (by omega), if_neg (by omega), if_neg (by omega)]
  · rw [if_neg (by omega)]
    by_cases h2 : i = o
    · subst h2; simp [show min i l.length = i by omega]; omega
    · by_cases h3 : i = o + 1
      · subst h3; simp [show min o l.length = o by omega]; omega
      · by_cases h4 : i = o + 2
        · subst h4; simp [show min o l.length = o by omega]; omega
        · rw [if_neg (by omega), if_neg (by omega), if_neg (by omega), if_neg (by omega)]
          congr 1
          omega
theorem brow_spl {g o : Nat} {w : World} {l : List Int} {a b c : Int} (h : w.heap[g]? = some (.cells (splice (l.map (Value.int .i64)) o [.int .i64 a, .int .i64 b, .int .i64 c]).toArray 3 (0, 0))) (ho : o + 3 ≤ l.length) : BRow g w (((l.set o a).set (o + 1) b).set (o + 2) c) := by
  rw [splice_three _ _ _ _ _ (by simpa using ho)] at h
  unfold BRow
  rw [h]
  simp [List.map_set]

/-- a row that shows a step -/
def srow (p nL : Nat) (op : Int) (s : List Int) : List Int :=
  (((((((((((List.replicate (20 + nL) (0 : Int)).set 0 (zat s 1)).set 1 (zat s 2)).set 2 (zat s 3)).set 3 (zat s 4)).set 4 (zat s 5)).set 5 (zat s 6)).set 7 (zat s 7)).set 8 (zat s 8)).set 9 (zat s 9)).set 11 (hlp p op (zat s 7) (zat s 8))).set (20 + (zat s 0).toNat) 1
theorem srow_len (p nL : Nat) (op : Int) (s : List Int) : (srow p nL op s).length = 20 + nL := by simp [srow]

set_option maxRecDepth 100000 in
set_option maxHeartbeats 1000000 in
theorem pwidth_any (size : Int) (aL : Option Addr) (nL cL : Nat) (w : World) (hn : nL ≤ 281474976710656) :
    Calls Tryz.prog 27 #[.agg #[.int .i64 size, .slice aL nL cL]] w fun e w' => e = .returned (.int .i64 ((20 + nL : Nat) : Int)) ∧ Below w.heap.size w w' := by
  obtain ⟨W0, hW0⟩ : ∃ W0, W0 = w.alloc (.cells #[.int .i64 size, .slice aL nL cL] 47) := ⟨_, rfl⟩
  have hb0 : Below w.heap.size w W0 := by rw [hW0]; exact (Below.refl _ _).alloc (Nat.le_refl _) _
  have hs0 : W0.heap[w.heap.size]? = some (.cells #[.int .i64 size, .slice aL nL cL] 47 (0, 0)) := by rw [hW0]; exact heap_alloc_new w _
  have k1 : W0.cell? ⟨w.heap.size, 1, none⟩ = some (.slice aL nL cL) := by simp [World.cell?, hs0]
  have HB0 := hid hb0
  have hwr : IntKind.i64.wrap (20 + (nL : Int)) = ((20 + nL : Nat) : Int) := by rw [IntKind.wrap_i64]; omega
  clear hb0 hs0
  go_enter Tryz.func27, Tryz.ntmps27
  go_wp2_with fail
  rw [← hW0]
  clear hW0
  go_wp2_with fail
  go_ret
  exact ⟨by first | rfl | simp, HB0.out⟩

end Go.Proofs.YtaibngnabhmabajGreatDoor

namespace Go.Proofs.YtaibngnabhmabajGreatDoor
open Go.RowKit Go.Maps

set_option maxRecDepth 100000 in
set_option maxHeartbeats 4000000 in
theorem prowOf_any (p b cL : Nat) (size : Int) (aL : Option Addr) (L : List InsZ) (s : List Int) (w : World) (hpr : Num.Prime p) (h3 : 3 ≤ p) (h4 : p ≤ 2147483647) (hp : w.cell? ⟨b, 0, none⟩ = some (.int .i64 p)) (hnL : L.length ≤ 64) (hl : LstI w.heap.size w aL cL L) (hs : StB p L.length s) :
    Calls Tryz.prog 90 #[.pointer (some ⟨b, 0, none⟩), .agg #[.int .i64 size, .slice aL L.length cL], .agg #[.int .i64 (zat s 0), .int .i64 (zat s 1), .int .i64 (zat s 2), .int .i64 (zat s 3), .int .i64 (zat s 4), .int .i64 (zat s 5), .int .i64 (zat s 6), .int .i64 (zat s 7), .int .i64 (zat s 8), .int .i64 (zat s 9)]] w
      fun e w' => ∃ K, e = .returned (.slice (some ⟨K, 0, none⟩) (20 + L.length) (20 + L.length)) ∧ w.heap.size ≤ K ∧ BRow K w' (srow p L.length (insat L (zat s 0).toNat).op s) ∧ Below w.heap.size w w' := by
  have hmx : Tryz.prog.follows .mixedOrders = true := by kernel_rfl
  obtain ⟨i0, hi, hz0, hz1, hz2⟩ := info_parts (show (Tryz.prog.info? 3).map (fun i => (i.zero, i.size, i.bytes)) = some (some (.int .i64 0), 1, 8) by kernel_rfl)
  obtain ⟨hs10, hsb, hs0⟩ := hs
  obtain ⟨k, hk⟩ : ∃ k : Nat, zat s 0 = (k : Int) := ⟨(zat s 0).toNat, by have := (hsb 0 (by omega)).1; omega⟩
  have hkL : k < L.length := by omega
  have b7 := hsb 7 (by omega)
  have b8 := hsb 8 (by omega)
  obtain ⟨W0, hW0⟩ : ∃ W0, W0 = w.alloc (.cells #[.int .i64 size, .slice aL L.length cL] 47) := ⟨_, rfl⟩
  obtain ⟨W1, hW1⟩ : ∃ W1, W1 = W0.alloc (.cells #[.int .i64 (zat s 0), .int .i64 (zat s 1), .int .i64 (zat s 2), .int .i64 (zat s 3), .int .i64 (zat s 4), .int .i64 (zat s 5), .int .i64 (zat s 6), .int .i64 (zat s 7), .int .i64 (zat s 8), .int .i64 (zat s 9)] 135) := ⟨_, rfl⟩
  have hb0 : Below w.heap.size w W0 := by rw [hW0]; exact (Below.refl _ _).alloc (Nat.le_refl _) _
  have hb1 : Below w.heap.size w W1 := by rw [hW1]; exact hb0.alloc hb0.size _
  have hz : W0.heap.size = w.heap.size + 1 := by rw [hW0]; simp
  have hz' : W1.heap.size = w.heap.size + 2 := by rw [hW1]; simp [hz]
  have hc0 : W1.heap[w.heap.size]? = some (.cells #[.int .i64 size, .slice aL L.length cL] 47 (0, 0)) := by
    rw [hW1, heap_alloc_old _ _ (by omega), hW0]; exact heap_alloc_new w _
  have hc1 : W1.heap[w.heap.size + 1]? = some (.cells #[.int .i64 (zat s 0), .int .i64 (zat s 1), .int .i64 (zat s 2), .int .i64 (zat s 3), .int .i64 (zat s 4), .int .i64 (zat s 5), .int .i64 (zat s 6), .int .i64 (zat s 7), .int .i64 (zat s 8), .int .i64 (zat s 9)] 135 (0, 0)) := by
    rw [hW1, ← hz]; exact heap_alloc_new W0 _
  have k0 : W1.cell? ⟨w.heap.size, 0, none⟩ = some (.int .i64 size) := by simp [World.cell?, hc0]
  have k1 : W1.cell? ⟨w.heap.size, 1, none⟩ = some (.slice aL L.length cL) := by simp [World.cell?, hc0]
  have HPW := hid (pwidth_any size aL L.length cL W1 (by omega))
  have HB1 := hid hb1
  have HC0 := hid hc0
  have HC1 := hid hc1
  have HZ := hid hz'
  have hlp1 : ∀ W, Below w.heap.size w W → W.cell? ⟨b, 0, none⟩ = some (.int .i64 p) := fun W h => (h.cell (p := ⟨b, 0, none⟩) (World.block_lt_of_cell? _ _ hp)).trans hp
  have HHP := hid (fun W h => phelp_any p b (insat L k).op (zat s 7) (zat s 8) (zat s 9) W hpr h3 h4 (hlp1 W h) (by omega) (by omega) (by omega) (by omega))
  obtain ⟨bL, oL, rfl, hbL, e0, _, _, _⟩ := hl.row k hkL
  have HLI : Hid (∀ W, Below w.heap.size w W → W.cell? ⟨bL, oL + k * 4, none⟩ = some (.int .i64 (insat L k).op)) := fun W h => (h.cell (p := ⟨bL, oL + k * 4, none⟩) hbL).trans e0
  have HRS : Hid (srow p L.length (insat L (zat s 0).toNat).op s = (((((((((((List.replicate (20 + L.length) (0 : Int)).set 0 (zat s 1)).set 1 (zat s 2)).set 2 (zat s 3)).set 3 (zat s 4)).set (3 + 1) (zat s 5)).set (3 + 2) (zat s 6)).set 7 (zat s 7)).set (7 + 1) (zat s 8)).set (7 + 2) (zat s 9)).set 11 (hlp p (insat L k).op (zat s 7) (zat s 8))).set (20 + k) 1) := by
    unfold Hid srow
    rw [hk, Int.toNat_natCast]
  rw [HRS.out]
  rw [hk] at HC1 hW1 ⊢
  clear hl hb0 hb1 hz hz' hc0 hc1 hlp1 e0 hp hsb hs10 hpr hs0 hk HRS
  generalize hlp p (insat L k).op (zat s 7) (zat s 8) = hv at *
  generalize (insat L k).op = op at *
  generalize zat s 1 = s1 at *
  generalize zat s 2 = s2 at *
  generalize zat s 3 = s3 at *
  generalize zat s 4 = s4 at *
  generalize zat s 5 = s5 at *
  generalize zat s 6 = s6 at *
  generalize zat s 7 = s7 at *
  generalize zat s 8 = s8 at *
  generalize zat s 9 = s9 at *
  generalize L.length = nL at *
  go_enter Tryz.func90, Tryz.ntmps90
  go_wp2_with fail
  rw [← hW0, ← hW1]
  clear hW0 hW1 W0
  refine HPW.out.mono ?_
  rintro e w2 ⟨rfl, hb2⟩
  have HB2 := hid (HB1.out.trans (hb2.mono HB1.out.size))
  have HC2 : Hid (w2.heap[w.heap.size]? = some (.cells #[.int .i64 size, .slice (some ⟨bL, oL, none⟩) nL cL] 47 (0, 0))) := (hb2.block _ (by have := HZ.out; omega)).trans HC0.out
  have HS2 : Hid (w2.heap[w.heap.size + 1]? = some (.cells #[.int .i64 (k : Int), .int .i64 s1, .int .i64 s2, .int .i64 s3, .int .i64 s4, .int .i64 s5, .int .i64 s6, .int .i64 s7, .int .i64 s8, .int .i64 s9] 135 (0, 0))) := (hb2.block _ (by have := HZ.out; omega)).trans HC1.out
  have HG2 : Hid (w.heap.size + 2 ≤ w2.heap.size) := by unfold Hid; rw [← HZ.out]; exact hb2.size
  clear hb2 HPW HB1 HC0 HC1 HZ k0 k1 W1
  go_wp2_with (refine wpList_make_full _ rfl _ _ _ rfl w.heap.size 3 i0 _ 1 Tryz.underlying22 hi hz0 hz1 .i64 .i64 _ _ (20 + nL) rfl rfl rfl rfl (by rw [hz2]; omega) (by unfold maxLen; omega) (by have := HG2.out; omega) ?_)
  intro w3 hown hgr
  have hb3 : Below w2.heap.size w2 w3 := ⟨hgr.os, hgr.tape, hgr.output, hgr.size, fun k hk => hgr.block k hk (by simp)⟩
  have HR3 := hid (brow_made (base := w.heap.size) (g := w2.heap.size) (n := 20 + nL) (w := w3) (by rw [Nat.mul_one]; exact hown))
  have HB3 := hid (HB2.out.trans (hb3.mono HB2.out.size))
  have hg2 := HG2.out
  have HC3 := hid ((hb3.block _ (by omega)).trans HC2.out)
  have HS3 := hid ((hb3.block _ (by omega)).trans HS2.out)
  obtain ⟨Kb, hKb⟩ : ∃ Kb, Kb = w2.heap.size := ⟨_, rfl⟩
  rw [← hKb] at HR3 hg2 ⊢
  obtain ⟨C, hC⟩ : ∃ C, C = w.heap.size := ⟨_, rfl⟩
  have HCw := hid hC
  rw [← hC] at HC3 HS3 hg2 ⊢
  have c1 : w3.cell? ⟨C + 1, 1, none⟩ = some (.int .i64 s1) := by simp [World.cell?, HS3.out]
  have c2 : w3.cell? ⟨C + 1, 2, none⟩ = some (.int .i64 s2) := by simp [World.cell?, HS3.out]
  have c3 : w3.cell? ⟨C + 1, 3, none⟩ = some (.int .i64 s3) := by simp [World.cell?, HS3.out]
  have hlen : (List.replicate (20 + nL) (0 : Int)).length = 20 + nL := by simp
  have q0 := HR3.out.row.cells 0 (by rw [hlen]; omega)
  have q1 := HR3.out.row.cells 1 (by rw [hlen]; omega)
  have q2 := HR3.out.row.cells 2 (by rw [hlen]; omega)
  have f0 := HR3.out.row.soft
  have HR4 := hid (((HR3.out.set (k := 0) s1 (by rw [hlen]; omega)).set (k := 1) s2 (by rw [List.length_set, hlen]; omega)).set (k := 2) s3 (by rw [List.length_set, List.length_set, hlen]; omega))
  clear hown hgr hb3 hKb hC HB2 HC2 HS2 HG2
  have l0 : (0 : Int) < ((20 + nL : Nat) : Int) := by omega
  have l1 : (1 : Int) < ((20 + nL : Nat) : Int) := by omega
  have l2 : (2 : Int) < ((20 + nL : Nat) : Int) := by omega
  generalize zat (List.replicate (20 + nL) (0 : Int)) 0 = z0 at *
  generalize zat (List.replicate (20 + nL) (0 : Int)) 1 = z1 at *
  generalize zat (List.replicate (20 + nL) (0 : Int)) 2 = z2 at *
  go_wp2_with fail
  obtain ⟨w4, hw4⟩ : ∃ w4, w4 = ((w3.setCell ⟨Kb, 0, none⟩ (.int .i64 s1)).setCell ⟨Kb, 1, none⟩ (.int .i64 s2)).setCell ⟨Kb, 2, none⟩ (.int .i64 s3) := ⟨_, rfl⟩
  have hoth : ∀ j, j ≠ Kb → w4.heap[j]? = w3.heap[j]? := fun j hj => by rw [hw4, Below.heap_setCell _ _ _ _ hj, Below.heap_setCell _ _ _ _ hj, Below.heap_setCell _ _ _ _ hj]
  have hKw : w.heap.size ≤ Kb := by have := HCw.out; omega
  have HB4 : Hid (Below w.heap.size w w4) := by unfold Hid; rw [hw4]; exact ((HB3.out.setCell (p := ⟨Kb, 0, none⟩) hKw _).setCell (p := ⟨Kb, 1, none⟩) hKw _).setCell (p := ⟨Kb, 2, none⟩) hKw _
  have HC4 := hid ((hoth C (by omega)).trans HC3.out)
  have HS4 := hid ((hoth (C + 1) (by omega)).trans HS3.out)
  rw [← hw4] at HR4 ⊢
  have HKw := hid hKw
  clear hw4 hoth hKw HB3 HC3 HS3 HR3 q0 q1 q2 f0 c1 c2 c3 w3 l0 l1 l2
  have hl4 : ((((List.replicate (20 + nL) (0 : Int)).set 0 s1).set 1 s2).set 2 s3).length = 20 + nL := by simp
  obtain ⟨r4, hr4⟩ : ∃ r4, r4 = (((List.replicate (20 + nL) (0 : Int)).set 0 s1).set 1 s2).set 2 s3 := ⟨_, rfl⟩
  rw [← hr4] at HR4 hl4
  have HE4 := hid hr4
  clear hr4
  have hsz1 : (Tryz.prog.info? 3).map (·.size) = some 1 := by rw [hi]; simp [hz1]
  have HSR : Hid (∀ (j : Nat) (v : Value), [Value.int .i64 s4, .int .i64 s5, .int .i64 s6][j]? = some v → ∀ d, ({ w4 with drawn := d } : World).cell? ((⟨C + 1, 4, none⟩ : Addr).add j) = some v) := fun j v hj d => by
    match j, hj with
    | 0, hj => simp at hj; subst hj; simp [World.cell?, Addr.add, HS4.out]
    | 1, hj => simp at hj; subst hj; simp [World.cell?, Addr.add, HS4.out]
    | 2, hj => simp at hj; subst hj; simp [World.cell?, Addr.add, HS4.out]
  have l3 : (3 : Int) ≤ 20 + (nL : Int) := by omega
  have l7 : (7 : Int) ≤ 20 + (nL : Int) := by omega
  have n3 : ¬ (20 + nL = 3) := by omega
  have n7 : ¬ (20 + nL = 7) := by omega
  go_region_law (refine step_copy_splice rfl (.tmp 24) (.tmp 26) 22 22 rfl 3 Tryz.underlying22 hsz1 _ _ _ _ _ _ rfl rfl Kb 3 (r4.map (Value.int .i64)) 3 HR4.out [.int .i64 s4, .int .i64 s5, .int .i64 s6] (Nat.min_eq_left (show 3 ≤ 20 + nL - 3 by omega)).symm (fun _ => ⟨rfl, _, rfl, fun j v hj => HSR.out j v hj _⟩) (by simp; omega) (by simp; exact ⟨rfl, rfl, rfl⟩) Kb w4 (Below.refl _ _).drew (Nat.le_refl _) ?_; intro w5 hg5 hb5)
  have HR5 := hid (brow_spl hg5.out (by omega))
  have HB5 := hid (HB4.out.trans (hb5.mono HKw.out))
  have HC5 := hid ((hb5.block C (by omega)).trans HC4.out)
  have HS5 := hid ((hb5.block (C + 1) (by omega)).trans HS4.out)
  have hl5 : (((r4.set 3 s4).set (3 + 1) s5).set (3 + 2) s6).length = 20 + nL := by simp [hl4]
  clear hg5 hb5 HSR HR4 HB4 HC4 HS4 w4 hl4
  obtain ⟨r5, hr5⟩ : ∃ r5, r5 = ((r4.set 3 s4).set (3 + 1) s5).set (3 + 2) s6 := ⟨_, rfl⟩
  rw [← hr5] at HR5 hl5
  have HE5 := hid hr5
  clear hr5
  have HSR : Hid (∀ (j : Nat) (v : Value), [Value.int .i64 s7, .int .i64 s8, .int .i64 s9][j]? = some v → ∀ d, ({ w5 with drawn := d } : World).cell? ((⟨C + 1, 7, none⟩ : Addr).add j) = some v) := fun j v hj d => by
    match j, hj with
    | 0, hj => simp at hj; subst hj; simp [World.cell?, Addr.add, HS5.out]
    | 1, hj => simp at hj; subst hj; simp [World.cell?, Addr.add, HS5.out]
    | 2, hj => simp at hj; subst hj; simp [World.cell?, Addr.add, HS5.out]
  go_wp2_with fail
  go_region_law (refine step_copy_splice rfl (.tmp 29) (.tmp 31) 22 22 rfl 3 Tryz.underlying22 hsz1 _ _ _ _ _ _ rfl rfl Kb 7 (r5.map (Value.int .i64)) 3 HR5.out [.int .i64 s7, .int .i64 s8, .int .i64 s9] (Nat.min_eq_left (show 3 ≤ 20 + nL - 7 by omega)).symm (fun _ => ⟨rfl, _, rfl, fun j v hj => HSR.out j v hj _⟩) (by simp; omega) (by simp; exact ⟨rfl, rfl, rfl⟩) Kb w5 (Below.refl _ _).drew (Nat.le_refl _) ?_; intro w6 hg6 hb6)
  have hr6 := brow_spl hg6.out (by omega)
  have hb6' := HB5.out.trans (hb6.mono HKw.out)
  have hc6 := (hb6.block C (by omega)).trans HC5.out
  have hs6 := (hb6.block (C + 1) (by omega)).trans HS5.out
  have hl6 : (((r5.set 7 s7).set (7 + 1) s8).set (7 + 2) s9).length = 20 + nL := by simp [hl5]
  clear hg6 hb6 HSR HR5 HB5 HC5 HS5 w5 hl5
  obtain ⟨r6, hr6e⟩ : ∃ r6, r6 = ((r5.set 7 s7).set (7 + 1) s8).set (7 + 2) s9 := ⟨_, rfl⟩
  rw [← hr6e] at hr6 hl6
  have HE6 := hid hr6e
  clear hr6e
  have HK2 : Hid (∀ W, Below w.heap.size w W → W.heap[C]? = some (.cells #[.int .i64 size, .slice (some ⟨bL, oL, none⟩) nL cL] 47 (0, 0)) → W.heap[C + 1]? = some (.cells #[.int .i64 (k : Int), .int .i64 s1, .int .i64 s2, .int .i64 s3, .int .i64 s4, .int .i64 s5, .int .i64 s6, .int .i64 s7, .int .i64 s8, .int .i64 s9] 135 (0, 0)) →
      W.cell? ⟨C, 1, none⟩ = some (.slice (some ⟨bL, oL, none⟩) nL cL) ∧ W.cell? ⟨C + 1, 0, none⟩ = some (.int .i64 (k : Int)) ∧ W.cell? ⟨bL, oL + k * 4, none⟩ = some (.int .i64 op) ∧ W.cell? ⟨C + 1, 7, none⟩ = some (.int .i64 s7) ∧ W.cell? ⟨C + 1, 8, none⟩ = some (.int .i64 s8) ∧ W.cell? ⟨C + 1, 9, none⟩ = some (.int .i64 s9)) := fun W h1 h2 h3 =>
    ⟨by simp [World.cell?, h2], by simp [World.cell?, h3], HLI.out W h1, by simp [World.cell?, h3], by simp [World.cell?, h3], by simp [World.cell?, h3]⟩
  have hkl : (k : Int) < (nL : Int) := by omega
  have l11 : (11 : Int) < 20 + (nL : Int) := by omega
  obtain ⟨u1, u2, u3, u4, u5, u6⟩ := HK2.out w6 hb6' hc6 hs6
  have HR6 := hid hr6
  have HB6 := hid hb6'
  have HC6 := hid hc6
  have HS6 := hid hs6
  clear hr6 hb6' hc6 hs6
  go_wp2_with fail
  refine wp_region_held_drew (S := (fun W => W.cell? ⟨C, 1, none⟩ = some (.slice (some ⟨bL, oL, none⟩) nL cL) ∧ W.cell? ⟨C + 1, 0, none⟩ = some (.int .i64 (k : Int)) ∧ W.cell? ⟨bL, oL + k * 4, none⟩ = some (.int .i64 op) ∧ W.cell? ⟨C + 1, 7, none⟩ = some (.int .i64 s7) ∧ W.cell? ⟨C + 1, 8, none⟩ = some (.int .i64 s8) ∧ W.cell? ⟨C + 1, 9, none⟩ = some (.int .i64 s9) ∧ True)) (by kernel_rfl) ⟨u1, u2, u3, u4, u5, u6, trivial⟩ (fun hHeld => ?_)
  refine wpAnyH_takeU (i := 0) (v := .slice (some ⟨Kb, 0, none⟩) (20 + nL) (20 + nL)) rfl (by kernel_rfl) (by kernel_rfl) (by kernel_rfl) (fun _ _ _ h => h) (by rfl) (fun W hC => by go_simp) hHeld ?_
  simp only [Act.put, List.setIfInBounds_toArray, List.set_cons_zero, List.set_cons_succ]
  refine wpAnyH_takeU (i := 1) (v := .pointer (some ⟨b, 0, none⟩)) rfl (by kernel_rfl) (by kernel_rfl) (by kernel_rfl) (fun _ _ _ h => h) (by rfl) (fun W hC => by go_simp) hHeld ?_
  simp only [Act.put, List.setIfInBounds_toArray, List.set_cons_zero, List.set_cons_succ]
  refine wpAnyH_takeU (i := 2) (v := .pointer (some ⟨C, 1, none⟩)) rfl (by kernel_rfl) (by kernel_rfl) (by kernel_rfl) (fun _ _ _ h => h) (by rfl) (fun W hC => by go_simp) hHeld ?_
  simp only [Act.put, List.setIfInBounds_toArray, List.set_cons_zero, List.set_cons_succ]
  refine wpAnyH_takeU (i := 3) (v := .slice (some ⟨bL, oL, none⟩) nL cL) rfl (by kernel_rfl) (by kernel_rfl) (by kernel_rfl) (fun _ _ _ h => h) (by rfl) (fun W hC => by (obtain ⟨y0, y1, y2, y3, y4, y5, y6⟩ := hC); go_simp) hHeld ?_
  simp only [Act.put, List.setIfInBounds_toArray, List.set_cons_zero, List.set_cons_succ]
  refine wpAnyH_takeU (i := 4) (v := .pointer (some ⟨C + 1, 0, none⟩)) rfl (by kernel_rfl) (by kernel_rfl) (by kernel_rfl) (fun _ _ _ h => h) (by rfl) (fun W hC => by go_simp) hHeld ?_
  simp only [Act.put, List.setIfInBounds_toArray, List.set_cons_zero, List.set_cons_succ]
  refine wpAnyH_takeU (i := 5) (v := .int .i64 (k : Int)) rfl (by kernel_rfl) (by kernel_rfl) (by kernel_rfl) (fun _ _ _ h => h) (by rfl) (fun W hC => by (obtain ⟨y0, y1, y2, y3, y4, y5, y6⟩ := hC); go_simp) hHeld ?_
  simp only [Act.put, List.setIfInBounds_toArray, List.set_cons_zero, List.set_cons_succ]
  refine wpAnyH_takeU (i := 6) (v := .pointer (some ⟨bL, oL + k * 4, none⟩)) rfl (by kernel_rfl) (by kernel_rfl) (by kernel_rfl) (fun _ _ _ h => h) (by rfl) (fun W hC => by go_simp) hHeld ?_
  simp only [Act.put, List.setIfInBounds_toArray, List.set_cons_zero, List.set_cons_succ]
  refine wpAnyH_takeU (i := 7) (v := .pointer (some ⟨bL, oL + k * 4, none⟩)) rfl (by kernel_rfl) (by kernel_rfl) (by kernel_rfl) (fun _ _ _ h => h) (by rfl) (fun W hC => by go_simp) hHeld ?_
  simp only [Act.put, List.setIfInBounds_toArray, List.set_cons_zero, List.set_cons_succ]
  refine wpAnyH_takeU (i := 8) (v := .int .i64 op) rfl (by kernel_rfl) (by kernel_rfl) (by kernel_rfl) (fun _ _ _ h => h) (by rfl) (fun W hC => by (obtain ⟨y0, y1, y2, y3, y4, y5, y6⟩ := hC); go_simp) hHeld ?_
  simp only [Act.put, List.setIfInBounds_toArray, List.set_cons_zero, List.set_cons_succ]
  refine wpAnyH_takeU (i := 9) (v := .pointer (some ⟨C + 1, 7, none⟩)) rfl (by kernel_rfl) (by kernel_rfl) (by kernel_rfl) (fun _ _ _ h => h) (by rfl) (fun W hC => by go_simp) hHeld ?_
  simp only [Act.put, List.setIfInBounds_toArray, List.set_cons_zero, List.set_cons_succ]
  refine wpAnyH_takeU (i := 10) (v := .agg #[.int .i64 s7, .int .i64 s8, .int .i64 s9]) rfl (by kernel_rfl) (by kernel_rfl) (by kernel_rfl) (fun _ _ _ h => h) (by rfl) (fun W hC => by (obtain ⟨y0, y1, y2, y3, y4, y5, y6⟩ := hC); go_simp) hHeld ?_
  simp only [Act.put, List.setIfInBounds_toArray, List.set_cons_zero, List.set_cons_succ]
  refine wpAnyH_ready (rs := [11]) (by kernel_rfl) (by simp) ?_
  refine AllReadyH.consU rfl (fun K' hK' => ?_) AllReadyH.nil
  go_simp
  refine (HHP.out _ HB6.out.drew).mono ?_
  rintro e w7 ⟨rfl, hb7⟩
  have hb67 : Below w6.heap.size w6 w7 := ⟨hb7.os, hb7.tape, hb7.output, hb7.size, hb7.block⟩
  have HR7 : Hid (BRow Kb w7 r6) := HR6.out.block (hb67.block _ HR6.out.row.lt)
  have HB7 := hid (HB6.out.trans (hb67.mono HB6.out.size))
  have HC7 := hid ((hb67.block C (Array.getElem?_eq_some_iff.1 HC6.out).1).trans HC6.out)
  have HS7 := hid ((hb67.block (C + 1) (Array.getElem?_eq_some_iff.1 HS6.out).1).trans HS6.out)
  obtain ⟨t1, t2, t3, t4, t5, t6⟩ := HK2.out w7 HB7.out HC7.out HS7.out
  refine hK'.out _ _ ⟨t1, t2, t3, t4, t5, t6, trivial⟩ (fun hHeld => ?_)
  clear hK' K' hb7 hb67 HR6 HB6 HC6 HS6 u1 u2 u3 u4 u5 u6 t1 t3 t4 t5 t6
  refine wpAnyH_takeU (i := 12) (v := .pointer (some ⟨Kb, 11, none⟩)) rfl (by kernel_rfl) (by kernel_rfl) (by kernel_rfl) (fun _ _ _ h => h) (by rfl) (fun W hC => by go_simp) hHeld ?_
  simp only [Act.put, List.setIfInBounds_toArray, List.set_cons_zero, List.set_cons_succ]
  refine wpAnyH_ready (rs := [13]) (by kernel_rfl) (by simp) ?_
  refine AllReadyH.consU rfl (fun K' hK' => ?_) AllReadyH.nil
  have q11 := HR7.out.row.cells 11 (by rw [hl6]; omega)
  have f11 := HR7.out.row.soft 11
  have HR8 := hid (HR7.out.set (k := 11) hv (by rw [hl6]; omega))
  have HB8 := hid (HB7.out.setCell (p := ⟨Kb, 11, none⟩) HKw.out (.int .i64 hv))
  have hoC : (w7.setCell ⟨Kb, 11, none⟩ (.int .i64 hv)).heap[C]? = w7.heap[C]? := Below.heap_setCell _ _ _ _ (by show C ≠ Kb; omega)
  have hoS : (w7.setCell ⟨Kb, 11, none⟩ (.int .i64 hv)).heap[C + 1]? = w7.heap[C + 1]? := Below.heap_setCell _ _ _ _ (by show C + 1 ≠ Kb; omega)
  have HC8 := hid (hoC.trans HC7.out)
  have HS8 := hid (hoS.trans HS7.out)
  generalize zat r6 11 = z11 at *
  go_simp
  obtain ⟨t1, t2, t3, t4, t5, t6⟩ := HK2.out _ HB8.out HC8.out HS8.out
  refine hK'.out _ _ ⟨t1, t2, t3, t4, t5, t6, trivial⟩ (fun hHeld => ?_)
  clear hK' K' hHeld q11 f11 HR7 HB7 HC7 HS7 hoC hoS t1 t3 t4 t5 t6
  refine wpAnyH_done (by kernel_rfl) ?_ _
  have hl8 : (r6.set 11 hv).length = 20 + nL := by simp [hl6]
  generalize w7.setCell ⟨Kb, 11, none⟩ (.int .i64 hv) = w8 at *
  obtain ⟨r8, hr8⟩ : ∃ r8, r8 = r6.set 11 hv := ⟨_, rfl⟩
  rw [← hr8] at HR8 hl8
  have HE8 := hid hr8
  clear hr8
  obtain ⟨m, hm⟩ : ∃ m, m = 20 + k := ⟨_, rfl⟩
  have e20 : (20 : Int) + (k : Int) = (m : Int) := by omega
  have hw20 : IntKind.i64.wrap (m : Int) = (m : Int) := by rw [IntKind.wrap_i64]; omega
  have l20 : (m : Int) < 20 + (nL : Int) := by omega
  have q20 := HR8.out.row.cells m (by rw [hl8]; omega)
  have f20 := HR8.out.row.soft m
  have HR9 := hid (HR8.out.set (k := m) 1 (by rw [hl8]; omega))
  have HB9 := hid (HB8.out.setCell (p := ⟨Kb, m, none⟩) HKw.out (.int .i64 1))
  have c20 : w8.cell? ⟨C + 1, 0, none⟩ = some (.int .i64 (k : Int)) := by simp [World.cell?, HS8.out]
  have HM := hid hm
  clear hm
  generalize zat r8 m = z20 at *
  clear HC8 HS8 HR8 HB8 HK2 HHP HLI
  go_wp2_with fail
  go_ret
  refine ⟨Kb, rfl, HKw.out, ?_, HB9.out⟩
  have h := HR9.out
  rw [HE8.out, HE6.out, HE5.out, HE4.out] at h
  rw [HM.out] at h ⊢
  exact h

end Go.Proofs.YtaibngnabhmabajGreatDoor
