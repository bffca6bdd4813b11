/- attestref8: Pairs, Alike. Tables that can be written: a row of numbers, a list of such rows, each a block of its own. slices.Sort and slices.Compact at lists of numbers, by the library's own contracts: laid for this program. slices.Values over a list of numbers, by its own text: what comes round by round. -/
import Derived.Test.YtdpdmgmeieijaaaGreatDoorSndAR
import Derived.Shelf.Sort.Plain
import Derived.Shelf.Slices.CompactI
import Derived.Test.YtdpdmgmeieijaaaGreatDoorProg
import Derived.RangeFuncNested
import Derived.RangeFuncBound
import Derived.RangeFuncCalls
import Derived.RangeFuncLeaves
import Derived.RangeFuncBox
import Derived.RangeFuncWrites
import Derived.Shelf.Abstract
import Derived.WalkKit
import Derived.OwnWalkIn
import Derived.TacticsInMore
import Derived.LoopNIn
import Derived.LoopIn
import Derived.RegionIn
import Derived.BigRegionIn
import Derived.Test.YtdpdmgmeieijaaaGreatDoorSndAQ
namespace Go.Proofs.YtdpdmgmeieijaaaGreatDoor
open Go.RowKit

/-- the state of Pairs within a row -/
structure RpI (q i k a v : Nat) (rows : List (List Int)) (uv : Value) (w wr : World) : Prop where
  cel : CelR w.heap.size wr uv (pr4 q (rows.take i) a v ++ ((rw4 (rat rows i) a v).take k).map (red q))
  bel : Below w.heap.size w wr

end Go.Proofs.YtdpdmgmeieijaaaGreatDoor

namespace Go.Proofs.YtdpdmgmeieijaaaGreatDoor
open Go.RowKit

/-- a row of numbers that can be written -/
structure IRow (g : Nat) (w : World) (l : List Int) : Prop where
  lt : g < w.heap.size
  cells : ∀ k, k < l.length → w.cell? ⟨g, k, none⟩ = some (.int .i64 (zat l k))
  soft : ∀ j, w.frozen? ⟨g, j, none⟩ = false
theorem lt_of_same {w w' : World} {g : Nat} (h : g < w.heap.size) (e : w'.heap[g]? = w.heap[g]?) : g < w'.heap.size := by
  rcases Nat.lt_or_ge g w'.heap.size with g1 | g1
  · exact g1
  · rw [Array.getElem?_eq_none g1, Array.getElem?_eq_getElem h] at e; cases e
theorem IRow.block {g : Nat} {w w' : World} {l : List Int} (h : IRow g w l) (e : w'.heap[g]? = w.heap[g]?) : IRow g w' l :=
  ⟨lt_of_same h.lt e, fun k hk => (World.cell?_of_block (w := w) (a := ⟨g, k, none⟩) e).trans (h.cells k hk), fun j => (World.frozen?_of_block (w := w) (a := ⟨g, j, none⟩) e).trans (h.soft j)⟩
theorem zat_set {l : List Int} {k j : Nat} {x : Int} (hk : k < l.length) : zat (l.set k x) j = if j = k then x else zat l j := by
  unfold zat
  rw [List.getElem?_set]
  by_cases h : k = j
  · subst h; simp [hk]
  · rw [if_neg h, if_neg (fun e => h e.symm)]
theorem IRow.set {g : Nat} {w : World} {l : List Int} (h : IRow g w l) {k : Nat} (x : Int) (hk : k < l.length) : IRow g (w.setCell ⟨g, k, none⟩ (.int .i64 x)) (l.set k x) := by
  refine ⟨by simpa using h.lt, fun j hj => ?_, fun j => by rw [World.frozen?_setCell]; exact h.soft j⟩
  rw [List.length_set] at hj
  rw [zat_set hk]
  by_cases e : j = k
  · subst e
    rw [if_pos rfl]
    exact World.cell?_setCell_same _ _ _ (h.cells j hj)
  · rw [if_neg e, World.cell?_setCell_other _ _ _ _ (by intro e1; injection e1 with _ h2 _; omega)]
    exact h.cells j hj
theorem IRow.lst {g n0 : Nat} {w : World} {l : List Int} (h : IRow g w l) (hg : g < n0) : Lst n0 w (some ⟨g, 0, none⟩) l.length l :=
  ⟨fun k hk => ⟨g, 0, rfl, hg, by rw [Nat.zero_add]; exact h.cells k hk⟩, Nat.le_refl _, fun e => by cases e⟩

/-- rows, each a block of its own -/
structure Tbl (base G : Nat) (K : Nat → Nat) (w : World) (R : List (List Int)) : Prop where
  lt : G < w.heap.size
  out : ∀ k, k < R.length → w.cell? ⟨G, k, none⟩ = some (.slice (some ⟨K k, 0, none⟩) (rat R k).length (rat R k).length)
  row : ∀ k, k < R.length → IRow (K k) w (rat R k)
  inj : ∀ j k, j < R.length → k < R.length → K j = K k → j = k
  new : base ≤ G ∧ ∀ k, k < R.length → base ≤ K k ∧ K k ≠ G
  soft : ∀ j, w.frozen? ⟨G, j, none⟩ = false
theorem Tbl.keep {base G : Nat} {K : Nat → Nat} {w w' : World} {R : List (List Int)} (h : Tbl base G K w R) (hG : w'.heap[G]? = w.heap[G]?) (hK : ∀ k, k < R.length → w'.heap[K k]? = w.heap[K k]?) : Tbl base G K w' R :=
  ⟨lt_of_same h.lt hG, fun k hk => (World.cell?_of_block (w := w) (a := ⟨G, k, none⟩) hG).trans (h.out k hk), fun k hk => (h.row k hk).block (hK k hk), h.inj, h.new, fun j => (World.frozen?_of_block (w := w) (a := ⟨G, j, none⟩) hG).trans (h.soft j)⟩
theorem Tbl.below {base G n0 : Nat} {K : Nat → Nat} {w w' : World} {R : List (List Int)} (h : Tbl base G K w R) (e : Below n0 w w') (hn : w.heap.size ≤ n0) : Tbl base G K w' R :=
  h.keep (e.block _ (Nat.lt_of_lt_of_le h.lt hn)) fun k hk => e.block _ (Nat.lt_of_lt_of_le (h.row k hk).lt hn)
theorem rat_set {R : List (List Int)} {k j : Nat} {x : List Int} (hk : k < R.length) : rat (R.set k x) j = if j = k then x else rat R j := by
  unfold rat
  rw [List.getD_eq_getElem?_getD, List.getElem?_set]
  by_cases h : k = j
  · subst h; simp [hk]
  · rw [if_neg h, if_neg (fun e => h e.symm), List.getD_eq_getElem?_getD]
/-- one place of one row is written -/
def put (R : List (List Int)) (k j : Nat) (x : Int) : List (List Int) := R.set k ((rat R k).set j x)
theorem put_len (R : List (List Int)) (k j : Nat) (x : Int) : (put R k j x).length = R.length := by simp [put]
theorem put_rat {R : List (List Int)} {k j m : Nat} {x : Int} (hk : k < R.length) : rat (put R k j x) m = if m = k then (rat R k).set j x else rat R m := rat_set hk
theorem put_row_len {R : List (List Int)} {k j m : Nat} {x : Int} (hk : k < R.length) : (rat (put R k j x) m).length = (rat R m).length := by
  rw [put_rat hk]; split
  · rename_i h; subst h; simp
  · rfl
theorem Tbl.put {base G : Nat} {K : Nat → Nat} {w : World} {R : List (List Int)} (h : Tbl base G K w R) {k j : Nat} (x : Int) (hk : k < R.length) (hj : j < (rat R k).length) : Tbl base G K (w.setCell ⟨K k, j, none⟩ (.int .i64 x)) (put R k j x) := by
  have hG : (w.setCell ⟨K k, j, none⟩ (.int .i64 x)).heap[G]? = w.heap[G]? := Below.heap_setCell _ _ _ _ (fun e => (h.new.2 k hk).2 e.symm)
  refine ⟨lt_of_same h.lt hG, fun m hm => ?_, fun m hm => ?_, fun a b ha hb => ?_, ⟨h.new.1, fun m hm => ?_⟩, fun m => by rw [World.frozen?_setCell]; exact h.soft m⟩
  · rw [put_len] at hm
    rw [put_row_len hk]
    exact (World.cell?_of_block (w := w) (a := ⟨G, m, none⟩) hG).trans (h.out m hm)
  · rw [put_len] at hm
    rw [put_rat hk]
    by_cases e : m = k
    · subst e; rw [if_pos rfl]; exact (h.row m hm).set x hj
    · rw [if_neg e]; exact (h.row m hm).block (Below.heap_setCell _ _ _ _ (fun e1 => e (h.inj m k hm hk e1)))
  · rw [put_len] at ha hb; exact h.inj a b ha hb
  · rw [put_len] at hm; exact h.new.2 m hm
theorem Tbl.lst {base G cap : Nat} {K : Nat → Nat} {w : World} {R : List (List Int)} (h : Tbl base G K w R) (hc : R.length ≤ cap) : LstR w.heap.size w (some ⟨G, 0, none⟩) cap R :=
  ⟨fun k hk => ⟨G, 0, _, _, rfl, h.lt, by rw [Nat.zero_add]; exact h.out k hk, (h.row k hk).lst (h.row k hk).lt⟩, hc, fun e => by cases e⟩
/-- writing turns none that is older -/
theorem Tbl.put_below {base G n0 : Nat} {K : Nat → Nat} {w0 w : World} {R : List (List Int)} (h : Tbl base G K w R) (e : Below n0 w0 w) (hb : n0 ≤ base) {k j : Nat} (x : Int) (hk : k < R.length) : Below n0 w0 (w.setCell ⟨K k, j, none⟩ (.int .i64 x)) :=
  e.setCell (p := ⟨K k, j, none⟩) (Nat.le_trans hb (h.new.2 k hk).1) _

end Go.Proofs.YtdpdmgmeieijaaaGreatDoor

namespace Go.Proofs
open Go.Shelf

def Tryz.lays189_ren : Go.Shelf.Ren := ⟨fun | 189 => 60 | 125 => 49 | 257 => 86 | 128 => 75 | 129 => 76 | 294 => 111 | 295 => 112 | 296 => 113 | 297 => 114 | 298 => 115 | 299 => 116 | 216 => 117 | 300 => 118 | 301 => 119 | 328 => 123 | 329 => 102 | 330 => 103 | 331 => 124 | 332 => 125 | 215 => 50 | 343 => 126 | n => n, fun | 28 => 49 | 3 => 3 | 46 => 105 | 0 => 0 | 51 => 135 | 53 => 137 | 4 => 4 | 183 => 128 | 182 => 127 | 131 => 132 | 5 => 5 | 9 => 9 | 218 => 158 | 222 => 162 | 228 => 172 | 229 => 173 | n => n, fun | n => n⟩
theorem Tryz.lays189 : Go.Proofs.Lays.n189 Tryz.prog Tryz.lays189_ren := {
  mixed := by kernel_rfl
  f125 := Tryz.func49.trans (congrArg some (by kernel_rfl))
  f128 := Tryz.func75.trans (congrArg some (by kernel_rfl))
  f129 := Tryz.func76.trans (congrArg some (by kernel_rfl))
  f189 := Tryz.func60.trans (congrArg some (by kernel_rfl))
  f215 := Tryz.func50.trans (congrArg some (by kernel_rfl))
  f216 := Tryz.func117.trans (congrArg some (by kernel_rfl))
  f257 := Tryz.func86.trans (congrArg some (by kernel_rfl))
  f294 := Tryz.func111.trans (congrArg some (by kernel_rfl))
  f295 := Tryz.func112.trans (congrArg some (by kernel_rfl))
  f296 := Tryz.func113.trans (congrArg some (by kernel_rfl))
  f297 := Tryz.func114.trans (congrArg some (by kernel_rfl))
  f298 := Tryz.func115.trans (congrArg some (by kernel_rfl))
  f299 := Tryz.func116.trans (congrArg some (by kernel_rfl))
  f300 := Tryz.func118.trans (congrArg some (by kernel_rfl))
  f301 := Tryz.func119.trans (congrArg some (by kernel_rfl))
  f328 := Tryz.func123.trans (congrArg some (by kernel_rfl))
  f329 := Tryz.func102.trans (congrArg some (by kernel_rfl))
  f330 := Tryz.func103.trans (congrArg some (by kernel_rfl))
  f331 := Tryz.func124.trans (congrArg some (by kernel_rfl))
  f332 := Tryz.func125.trans (congrArg some (by kernel_rfl))
  f343 := Tryz.func126.trans (congrArg some (by kernel_rfl))
  t0 := Tryz.underlying0
  a0 := Tryz.isAgg0
  z0 := Tryz.sizeOf0
  v0 := Tryz.zeroValue0
  t3 := Tryz.underlying3
  a3 := Tryz.isAgg3
  z3 := Tryz.sizeOf3
  v3 := Tryz.zeroValue3
  t4 := Tryz.underlying4
  a4 := Tryz.isAgg4
  z4 := Tryz.sizeOf4
  v4 := Tryz.zeroValue4
  t5 := Tryz.underlying5
  a5 := Tryz.isAgg5
  z5 := Tryz.sizeOf5
  v5 := Tryz.zeroValue5
  t9 := Tryz.underlying9
  a9 := Tryz.isAgg9
  z9 := Tryz.sizeOf9
  v9 := Tryz.zeroValue9
  t28 := Tryz.underlying49
  a28 := Tryz.isAgg49
  z28 := Tryz.sizeOf49
  v28 := Tryz.zeroValue49
  t46 := Tryz.underlying105
  a46 := Tryz.isAgg105
  z46 := Tryz.sizeOf105
  v46 := Tryz.zeroValue105
  t51 := Tryz.underlying135
  a51 := Tryz.isAgg135
  z51 := Tryz.sizeOf135
  v51 := Tryz.zeroValue135
  t53 := Tryz.underlying137
  a53 := Tryz.isAgg137
  z53 := Tryz.sizeOf137
  v53 := Tryz.zeroValue137
  t131 := Tryz.underlying132
  a131 := Tryz.isAgg132
  z131 := Tryz.sizeOf132
  v131 := Tryz.zeroValue132
  t182 := Tryz.underlying127
  a182 := Tryz.isAgg127
  z182 := Tryz.sizeOf127
  v182 := Tryz.zeroValue127
  t183 := Tryz.underlying128
  a183 := Tryz.isAgg128
  z183 := Tryz.sizeOf128
  v183 := Tryz.zeroValue128
  t218 := Tryz.underlying158
  a218 := Tryz.isAgg158
  z218 := Tryz.sizeOf158
  v218 := Tryz.zeroValue158
  t222 := Tryz.underlying162
  a222 := Tryz.isAgg162
  z222 := Tryz.sizeOf162
  v222 := Tryz.zeroValue162
  t228 := Tryz.underlying172
  a228 := Tryz.isAgg172
  z228 := Tryz.sizeOf172
  v228 := Tryz.zeroValue172
  t229 := Tryz.underlying173
  a229 := Tryz.isAgg173
  z229 := Tryz.sizeOf173
  v229 := Tryz.zeroValue173 }

def Tryz.laysNm220_ren : Go.Shelf.Ren := ⟨fun | 20 => 61 | n => n, fun | 22 => 49 | 3 => 3 | 4 => 4 | 0 => 0 | n => n, fun | n => n⟩
theorem Tryz.laysNm220 : Go.Proofs.Lays2.n20 Tryz.prog Tryz.laysNm220_ren := {
  mixed := by kernel_rfl
  f20 := Tryz.func61.trans (congrArg some (by kernel_rfl))
  t0 := Tryz.underlying0
  a0 := Tryz.isAgg0
  z0 := Tryz.sizeOf0
  v0 := Tryz.zeroValue0
  t3 := Tryz.underlying3
  a3 := Tryz.isAgg3
  z3 := Tryz.sizeOf3
  v3 := Tryz.zeroValue3
  t4 := Tryz.underlying4
  a4 := Tryz.isAgg4
  z4 := Tryz.sizeOf4
  v4 := Tryz.zeroValue4
  t22 := Tryz.underlying49
  a22 := Tryz.isAgg49
  z22 := Tryz.sizeOf49
  v22 := Tryz.zeroValue49
  i3 := by kernel_rfl }

open Go.Sort Go.RowKit in
theorem Tryz.sort_any (blk off cap : Nat) (zs : List Int) (w : World) (hH : Holds (Value.int .i64) w blk off zs.toArray) (hblk : blk < w.heap.size) (hsz : zs.length < 4611686018427387904) :
    Calls Tryz.prog 60 #[.slice (some ⟨blk, off, none⟩) zs.length cap] w fun e w' =>
      e = .returned (.tuple #[]) ∧ ∃ n os, w' = grow (putRow (Value.int .i64) (Sort.ahead w n) blk off (zs.mergeSort fun x y => decide (x ≤ y)).toArray) os := Any.slices_Sort_int Tryz.lays189 blk off cap zs w hH hblk hsz

open Go.RowKit Go.Lib Go.Sort in
theorem Tryz.compact_any (blk off cap : Nat) (zs : List Int) (w : World) (hH : Holds (Value.int .i64) w blk off zs.toArray) (hsz : zs.length ≤ 9223372036854775807) (hcap : zs.length ≤ cap) :
    Calls Tryz.prog 61 #[.slice (some ⟨blk, off, none⟩) zs.length cap] w fun e w' => e = .returned (.slice (some ⟨blk, off, none⟩) (Lib.compact zs).length cap) ∧ ∃ q, w' = putRow (Value.int .i64) (Sort.ahead w q) blk off (Lib.compact zs ++ List.replicate (zs.length - (Lib.compact zs).length) 0).toArray :=
  Any.slices_Compact_int Tryz.laysNm220 blk off cap zs w hH hsz hcap
end Go.Proofs

namespace Go.Proofs.YtdpdmgmeieijaaaGreatDoor
open Go.RowKit Go.Shelf

attribute [local go_sem] Oper.semAt_some

end Go.Proofs.YtdpdmgmeieijaaaGreatDoor
