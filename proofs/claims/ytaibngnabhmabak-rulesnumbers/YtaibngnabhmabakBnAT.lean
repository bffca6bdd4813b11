/- Tables that can be written: a row of numbers, a list of such rows, each a block of its own. slices.Sort and slices.Compact at lists of numbers, by the library's own contracts: laid for this program. slices.Values over a list of numbers, by its own text: what comes round by round. -/
import Derived.Test.YtaibngnabhmabakBnAS
import Derived.Shelf.Sort.Plain
import Derived.Shelf.Slices.CompactI
import Derived.Test.YtaibngnabhmabakProg
import Derived.RangeFuncNested
import Derived.RangeFuncBound
import Derived.RangeFuncCalls
import Derived.RangeFuncLeaves
import Derived.RangeFuncBox
import Derived.RangeFuncWrites
import Derived.Shelf.Abstract
import Derived.WalkKit
import Derived.OwnWalkIn
import Derived.TacticsInMore
import Derived.LoopNIn
import Derived.LoopIn
import Derived.RegionIn
import Derived.BigRegionIn
import Derived.Test.YtaibngnabhmabakBnAQ
namespace Go.Proofs.Ytaibngnabhmabak
open Go.RowKit

/-- a row of numbers that can be written -/
structure IRow (g : Nat) (w : World) (l : List Int) : Prop where
  lt : g < w.heap.size
  cells : ∀ k, k < l.length → w.cell? ⟨g, k, none⟩ = some (.int .i64 (zat l k))
  soft : ∀ j, w.frozen? ⟨g, j, none⟩ = false
theorem lt_of_same {w w' : World} {g : Nat} (h : g < w.heap.size) (e : w'.heap[g]? = w.heap[g]?) : g < w'.heap.size := by
  rcases Nat.lt_or_ge g w'.heap.size with g1 | g1
  · exact g1
  · rw [Array.getElem?_eq_none g1, Array.getElem?_eq_getElem h] at e; cases e
theorem IRow.block {g : Nat} {w w' : World} {l : List Int} (h : IRow g w l) (e : w'.heap[g]? = w.heap[g]?) : IRow g w' l :=
  ⟨lt_of_same h.lt e, fun k hk => (World.cell?_of_block (w := w) (a := ⟨g, k, none⟩) e).trans (h.cells k hk), fun j => (World.frozen?_of_block (w := w) (a := ⟨g, j, none⟩) e).trans (h.soft j)⟩
theorem zat_set {l : List Int} {k j : Nat} {x : Int} (hk : k < l.length) : zat (l.set k x) j = if j = k then x else zat l j := by
  unfold zat
  rw [List.getElem?_set]
  by_cases h : k = j
  · subst h; simp [hk]
  · rw [if_neg h, if_neg (fun e => h e.symm)]
theorem IRow.set {g : Nat} {w : World} {l : List Int} (h : IRow g w l) {k : Nat} (x : Int) (hk : k < l.length) : IRow g (w.setCell ⟨g, k, none⟩ (.int .i64 x)) (l.set k x) := by
  refine ⟨by simpa using h.lt, fun j hj => ?_, fun j => by rw [World.frozen?_setCell]; exact h.soft j⟩
  rw [List.length_set] at hj
  rw [zat_set hk]
  by_cases e : j = k
  · subst e
    rw [if_pos rfl]
    exact World.cell?_setCell_same _ _ _ (h.cells j hj)
  · rw [if_neg e, World.cell?_setCell_other _ _ _ _ (by intro e1; injection e1 with _ h2 _; omega)]
    exact h.cells j hj
theorem IRow.lst {g n0 : Nat} {w : World} {l : List Int} (h : IRow g w l) (hg : g < n0) : Lst n0 w (some ⟨g, 0, none⟩) l.length l :=
  ⟨fun k hk => ⟨g, 0, rfl, hg, by rw [Nat.zero_add]; exact h.cells k hk⟩, Nat.le_refl _, fun e => by cases e⟩

/-- rows, each a block of its own -/
structure Tbl (base G : Nat) (K : Nat → Nat) (w : World) (R : List (List Int)) : Prop where
  lt : G < w.heap.size
  out : ∀ k, k < R.length → w.cell? ⟨G, k, none⟩ = some (.slice (some ⟨K k, 0, none⟩) (rat R k).length (rat R k).length)
  row : ∀ k, k < R.length → IRow (K k) w (rat R k)
  inj : ∀ j k, j < R.length → k < R.length → K j = K k → j = k
  new : base ≤ G ∧ ∀ k, k < R.length → base ≤ K k ∧ K k ≠ G
  soft : ∀ j, w.frozen? ⟨G, j, none⟩ = false
theorem Tbl.keep {base G : Nat} {K : Nat → Nat} {w w' : World} {R : List (List Int)} (h : Tbl base G K w R) (hG : w'.heap[G]? = w.heap[G]?) (hK : ∀ k, k < R.length → w'.heap[K k]? = w.heap[K k]?) : Tbl base G K w' R :=
  ⟨lt_of_same h.lt hG, fun k hk => (World.cell?_of_block (w := w) (a := ⟨G, k, none⟩) hG).trans (h.out k hk), fun k hk => (h.row k hk).block (hK k hk), h.inj, h.new, fun j => (World.frozen?_of_block (w := w) (a := ⟨G, j, none⟩) hG).trans (h.soft j)⟩
theorem Tbl.below {base G n0 : Nat} {K : Nat → Nat} {w w' : World} {R : List (List Int)} (h : Tbl base G K w R) (e : Below n0 w w') (hn : w.heap.size ≤ n0) : Tbl base G K w' R :=
  h.keep (e.block _ (Nat.lt_of_lt_of_le h.lt hn)) fun k hk => e.block _ (Nat.lt_of_lt_of_le (h.row k hk).lt hn)
theorem rat_set {R : List (List Int)} {k j : Nat} {x : List Int} (hk : k < R.length) : rat (R.set k x) j = if j = k then x else rat R j := by
  unfold rat
  rw [List.getD_eq_getElem?_getD, List.getElem?_set]
  by_cases h : k = j
  · subst h; simp [hk]
  · rw [if_neg h, if_neg (fun e => h e.symm), List.getD_eq_getElem?_getD]
/-- one place of one row is written -/
def put (R : List (List Int)) (k j : Nat) (x : Int) : List (List Int) := R.set k ((rat R k).set j x)
theorem put_len (R : List (List Int)) (k j : Nat) (x : Int) : (put R k j x).length = R.length := by simp [put]
theorem put_rat {R : List (List Int)} {k j m : Nat} {x : Int} (hk : k < R.length) : rat (put R k j x) m = if m = k then (rat R k).set j x else rat R m := rat_set hk
theorem put_row_len {R : List (List Int)} {k j m : Nat} {x : Int} (hk : k < R.length) : (rat (put R k j x) m).length = (rat R m).length := by
  rw [put_rat hk]; split
  · rename_i h; subst h; simp
  · rfl
theorem Tbl.put {base G : Nat} {K : Nat → Nat} {w : World} {R : List (List Int)} (h : Tbl base G K w R) {k j : Nat} (x : Int) (hk : k < R.length) (hj : j < (rat R k).length) : Tbl base G K (w.setCell ⟨K k, j, none⟩ (.int .i64 x)) (put R k j x) := by
  have hG : (w.setCell ⟨K k, j, none⟩ (.int .i64 x)).heap[G]? = w.heap[G]? := Below.heap_setCell _ _ _ _ (fun e => (h.new.2 k hk).2 e.symm)
  refine ⟨lt_of_same h.lt hG, fun m hm => ?_, fun m hm => ?_, fun a b ha hb => ?_, ⟨h.new.1, fun m hm => ?_⟩, fun m => by rw [World.frozen?_setCell]; exact h.soft m⟩
  · rw [put_len] at hm
    rw [put_row_len hk]
    exact (World.cell?_of_block (w := w) (a := ⟨G, m, none⟩) hG).trans (h.out m hm)
  · rw [put_len] at hm
    rw [put_rat hk]
    by_cases e : m = k
    · subst e; rw [if_pos rfl]; exact (h.row m hm).set x hj
    · rw [if_neg e]; exact (h.row m hm).block (Below.heap_setCell _ _ _ _ (fun e1 => e (h.inj m k hm hk e1)))
  · rw [put_len] at ha hb; exact h.inj a b ha hb
  · rw [put_len] at hm; exact h.new.2 m hm
theorem Tbl.lst {base G cap : Nat} {K : Nat → Nat} {w : World} {R : List (List Int)} (h : Tbl base G K w R) (hc : R.length ≤ cap) : LstR w.heap.size w (some ⟨G, 0, none⟩) cap R :=
  ⟨fun k hk => ⟨G, 0, _, _, rfl, h.lt, by rw [Nat.zero_add]; exact h.out k hk, (h.row k hk).lst (h.row k hk).lt⟩, hc, fun e => by cases e⟩
/-- writing turns none that is older -/
theorem Tbl.put_below {base G n0 : Nat} {K : Nat → Nat} {w0 w : World} {R : List (List Int)} (h : Tbl base G K w R) (e : Below n0 w0 w) (hb : n0 ≤ base) {k j : Nat} (x : Int) (hk : k < R.length) : Below n0 w0 (w.setCell ⟨K k, j, none⟩ (.int .i64 x)) :=
  e.setCell (p := ⟨K k, j, none⟩) (Nat.le_trans hb (h.new.2 k hk).1) _

end Go.Proofs.Ytaibngnabhmabak

namespace Go.Proofs
open Go.Shelf

def Try.lays189_ren : Go.Shelf.Ren := ⟨fun | 189 => 31 | 125 => 43 | 257 => 42 | 128 => 60 | 129 => 61 | 294 => 51 | 295 => 52 | 296 => 53 | 297 => 54 | 298 => 55 | 299 => 56 | 216 => 57 | 300 => 58 | 301 => 59 | 328 => 74 | 329 => 75 | 330 => 76 | 331 => 77 | 332 => 78 | 215 => 45 | 343 => 82 | n => n, fun | 28 => 43 | 3 => 3 | 46 => 88 | 0 => 0 | 51 => 104 | 53 => 106 | 4 => 4 | 183 => 96 | 182 => 95 | 131 => 101 | 5 => 5 | 9 => 9 | 218 => 114 | 222 => 118 | 228 => 122 | 229 => 123 | n => n, fun | n => n⟩
theorem Try.lays189 : Go.Proofs.Lays.n189 Try.prog Try.lays189_ren := {
  mixed := by kernel_rfl
  f125 := Try.func43.trans (congrArg some (by kernel_rfl))
  f128 := Try.func60.trans (congrArg some (by kernel_rfl))
  f129 := Try.func61.trans (congrArg some (by kernel_rfl))
  f189 := Try.func31.trans (congrArg some (by kernel_rfl))
  f215 := Try.func45.trans (congrArg some (by kernel_rfl))
  f216 := Try.func57.trans (congrArg some (by kernel_rfl))
  f257 := Try.func42.trans (congrArg some (by kernel_rfl))
  f294 := Try.func51.trans (congrArg some (by kernel_rfl))
  f295 := Try.func52.trans (congrArg some (by kernel_rfl))
  f296 := Try.func53.trans (congrArg some (by kernel_rfl))
  f297 := Try.func54.trans (congrArg some (by kernel_rfl))
  f298 := Try.func55.trans (congrArg some (by kernel_rfl))
  f299 := Try.func56.trans (congrArg some (by kernel_rfl))
  f300 := Try.func58.trans (congrArg some (by kernel_rfl))
  f301 := Try.func59.trans (congrArg some (by kernel_rfl))
  f328 := Try.func74.trans (congrArg some (by kernel_rfl))
  f329 := Try.func75.trans (congrArg some (by kernel_rfl))
  f330 := Try.func76.trans (congrArg some (by kernel_rfl))
  f331 := Try.func77.trans (congrArg some (by kernel_rfl))
  f332 := Try.func78.trans (congrArg some (by kernel_rfl))
  f343 := Try.func82.trans (congrArg some (by kernel_rfl))
  t0 := Try.underlying0
  a0 := Try.isAgg0
  z0 := Try.sizeOf0
  v0 := Try.zeroValue0
  t3 := Try.underlying3
  a3 := Try.isAgg3
  z3 := Try.sizeOf3
  v3 := Try.zeroValue3
  t4 := Try.underlying4
  a4 := Try.isAgg4
  z4 := Try.sizeOf4
  v4 := Try.zeroValue4
  t5 := Try.underlying5
  a5 := Try.isAgg5
  z5 := Try.sizeOf5
  v5 := Try.zeroValue5
  t9 := Try.underlying9
  a9 := Try.isAgg9
  z9 := Try.sizeOf9
  v9 := Try.zeroValue9
  t28 := Try.underlying43
  a28 := Try.isAgg43
  z28 := Try.sizeOf43
  v28 := Try.zeroValue43
  t46 := Try.underlying88
  a46 := Try.isAgg88
  z46 := Try.sizeOf88
  v46 := Try.zeroValue88
  t51 := Try.underlying104
  a51 := Try.isAgg104
  z51 := Try.sizeOf104
  v51 := Try.zeroValue104
  t53 := Try.underlying106
  a53 := Try.isAgg106
  z53 := Try.sizeOf106
  v53 := Try.zeroValue106
  t131 := Try.underlying101
  a131 := Try.isAgg101
  z131 := Try.sizeOf101
  v131 := Try.zeroValue101
  t182 := Try.underlying95
  a182 := Try.isAgg95
  z182 := Try.sizeOf95
  v182 := Try.zeroValue95
  t183 := Try.underlying96
  a183 := Try.isAgg96
  z183 := Try.sizeOf96
  v183 := Try.zeroValue96
  t218 := Try.underlying114
  a218 := Try.isAgg114
  z218 := Try.sizeOf114
  v218 := Try.zeroValue114
  t222 := Try.underlying118
  a222 := Try.isAgg118
  z222 := Try.sizeOf118
  v222 := Try.zeroValue118
  t228 := Try.underlying122
  a228 := Try.isAgg122
  z228 := Try.sizeOf122
  v228 := Try.zeroValue122
  t229 := Try.underlying123
  a229 := Try.isAgg123
  z229 := Try.sizeOf123
  v229 := Try.zeroValue123 }

def Try.laysNm220_ren : Go.Shelf.Ren := ⟨fun | 20 => 32 | n => n, fun | 22 => 43 | 3 => 3 | 4 => 4 | 0 => 0 | n => n, fun | n => n⟩
theorem Try.laysNm220 : Go.Proofs.Lays2.n20 Try.prog Try.laysNm220_ren := {
  mixed := by kernel_rfl
  f20 := Try.func32.trans (congrArg some (by kernel_rfl))
  t0 := Try.underlying0
  a0 := Try.isAgg0
  z0 := Try.sizeOf0
  v0 := Try.zeroValue0
  t3 := Try.underlying3
  a3 := Try.isAgg3
  z3 := Try.sizeOf3
  v3 := Try.zeroValue3
  t4 := Try.underlying4
  a4 := Try.isAgg4
  z4 := Try.sizeOf4
  v4 := Try.zeroValue4
  t22 := Try.underlying43
  a22 := Try.isAgg43
  z22 := Try.sizeOf43
  v22 := Try.zeroValue43
  i3 := by kernel_rfl }

open Go.Sort Go.RowKit in
theorem Try.sort_any (blk off cap : Nat) (zs : List Int) (w : World) (hH : Holds (Value.int .i64) w blk off zs.toArray) (hblk : blk < w.heap.size) (hsz : zs.length < 4611686018427387904) :
    Calls Try.prog 31 #[.slice (some ⟨blk, off, none⟩) zs.length cap] w fun e w' =>
      e = .returned (.tuple #[]) ∧ ∃ n os, w' = grow (putRow (Value.int .i64) (Sort.ahead w n) blk off (zs.mergeSort fun x y => decide (x ≤ y)).toArray) os := Any.slices_Sort_int Try.lays189 blk off cap zs w hH hblk hsz

open Go.RowKit Go.Lib Go.Sort in
theorem Try.compact_any (blk off cap : Nat) (zs : List Int) (w : World) (hH : Holds (Value.int .i64) w blk off zs.toArray) (hsz : zs.length ≤ 9223372036854775807) (hcap : zs.length ≤ cap) :
    Calls Try.prog 32 #[.slice (some ⟨blk, off, none⟩) zs.length cap] w fun e w' => e = .returned (.slice (some ⟨blk, off, none⟩) (Lib.compact zs).length cap) ∧ ∃ q, w' = putRow (Value.int .i64) (Sort.ahead w q) blk off (Lib.compact zs ++ List.replicate (zs.length - (Lib.compact zs).length) 0).toArray :=
  Any.slices_Compact_int Try.laysNm220 blk off cap zs w hH hsz hcap
end Go.Proofs

namespace Go.Proofs.Ytaibngnabhmabak
open Go.RowKit Go.Shelf

attribute [local go_sem] Oper.semAt_some

theorem take_snoc {zs : List Int} {k : Nat} (h : k < zs.length) : zs.take k ++ [zat zs k] = zs.take (k + 1) := by
  unfold zat
  rw [List.take_add_one, List.getElem?_eq_getElem h]
  simp

end Go.Proofs.Ytaibngnabhmabak
