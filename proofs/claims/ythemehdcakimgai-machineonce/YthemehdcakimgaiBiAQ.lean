/- attestlaw6.copied; what both runs give. MachineRuns: the walk. slices.SortFunc at cells: laid for this program. Package machine: slices.SortFunc at cells. -/
import Derived.Test.YthemehdcakimgaiBiAP
import Derived.Test.YthemehdcakimgaiMrnB
import Derived.Test.YthemehdcakimgaiBiAL
import Derived.Shelf.SlLaysF0
import Derived.Test.YthemehdcakimgaiProg
import Derived.Shelf.SlSortCmp.WholeK
import Derived.Lib.Small
import Derived.Test.YthemehdcakimgaiBiAO
namespace Go.Proofs.Ythemehdcakimgai
open Go.RowKit Go.Maps

theorem row2_of {W : World} {g : Nat} {t : TypeId} {a b : Value} (h : W.heap[g]? = some (.cells #[a, b] t (0, 0))) : W.rowIs g t 2 (fun i => #[a, b].getD i .nilFunc) :=
  ⟨_, h, rfl, fun i hi => by
    have : i = 0 ∨ i = 1 := by omega
    rcases this with rfl | rfl <;> rfl⟩
theorem row2_arr {W : World} {g : Nat} {t : TypeId} {f : Nat → Value} (h : W.rowIs g t 2 f) : W.heap[g]? = some (.cells #[f 0, f 1] t (0, 0)) := by
  obtain ⟨c, hb, hs, hc⟩ := h
  rw [hb]
  congr 2
  apply Array.ext
  · simpa using hs
  · intro i h1 h2
    have h4 : i < 2 := by simpa using h2
    have := hc i h4
    rw [Array.getElem?_eq_getElem h1] at this
    injection this with this
    rw [this]
    have : i = 0 ∨ i = 1 := by omega
    rcases this with rfl | rfl <;> rfl
theorem put2_heap {W : World} {g : Nat} {t : TypeId} {z0 z1 : Value} (h : W.heap[g]? = some (.cells #[z0, z1] t (0, 0))) (a b : Value) : ((W.setCell ⟨g, 0, none⟩ a).setCell ⟨g, 1, none⟩ b).heap[g]? = some (.cells #[a, b] t (0, 0)) := by
  have := row2_arr (((row2_of h).set 0 a).set 1 b)
  simpa using this
theorem put2_below {N : Nat} {w W : World} {g : Nat} (e : Below N w W) (hg : N ≤ g) (a b : Value) : Below N w ((W.setCell ⟨g, 0, none⟩ a).setCell ⟨g, 1, none⟩ b) :=
  ⟨e.os, e.tape, e.output, by simpa [World.setCell] using e.size, fun k hk => by
    rw [Below.heap_setCell _ _ _ _ (by show k ≠ g; omega), Below.heap_setCell _ _ _ _ (by show k ≠ g; omega)]
    exact e.block k hk⟩
theorem lstI_put2 {W : World} {n0 g : Nat} {a : Option Addr} {cap : Nat} {L : List InsZ} (x y : Value) (h : LstI n0 W a cap L) (hg : ∀ b o, a = some ⟨b, o, none⟩ → b ≠ g) : LstI n0 ((W.setCell ⟨g, 0, none⟩ x).setCell ⟨g, 1, none⟩ y) a cap L := by
  refine ⟨fun k hk => ?_, h.room, h.nil⟩
  obtain ⟨b, o, h1, h2, c0, c1, c2, c3⟩ := h.row k hk
  have hne := hg b o h1
  have hc : ∀ i v, W.cell? ⟨b, i, none⟩ = some v → ((W.setCell ⟨g, 0, none⟩ x).setCell ⟨g, 1, none⟩ y).cell? ⟨b, i, none⟩ = some v := fun i v hv => by
    unfold World.cell? at hv ⊢
    rw [Below.heap_setCell _ _ _ _ (by show b ≠ g; omega), Below.heap_setCell _ _ _ _ (by show b ≠ g; omega)]
    exact hv
  exact ⟨b, o, h1, h2, hc _ _ c0, hc _ _ c1, hc _ _ c2, hc _ _ c3⟩

/-- what the program's Run gives, the document's gives -/
theorem runs_both {p : Nat} {size limit : Int} {L : List InsZ} {w1 w2 : World} {e : Ending} (h : RuR p size L limit w1 e w2) :
    ∃ (o k : Int) (v : Value) (l' : List (Int × Int)) (z : Int), e = .returned (.tuple #[.agg #[.int .i64 o, .int .i64 k, v], errV z]) ∧ CelR w1.heap.size w2 v l' ∧ Below w1.heap.size w1 w2 ∧
      ∀ W e' W', RfR p size L limit W e' W' → ∃ v2, e' = .returned (.tuple #[.agg #[.int .i64 o, .int .i64 k, v2], .int .i64 z]) ∧ CelR W.heap.size W' v2 l' ∧ Below W.heap.size W W' := by
  obtain ⟨hb, h2⟩ := h
  by_cases hz : fz6 (p : Int) size L.length limit ≠ 0
  · rw [if_pos hz] at h2
    refine ⟨0, 0, _, [], _, h2, World.ownsRow_nil _ _ _ _, hb, fun W e' W' h' => ?_⟩
    obtain ⟨hb', h3⟩ := h'
    rw [if_pos hz] at h3
    exact ⟨_, h3, World.ownsRow_nil _ _ _ _, hb'⟩
  · rw [if_neg hz] at h2
    cases hX : mwalk p size L limit.toNat with
    | bad z =>
      rw [hX] at h2
      refine ⟨0, 0, _, [], z, h2, World.ownsRow_nil _ _ _ _, hb, fun W e' W' h' => ?_⟩
      obtain ⟨hb', h3⟩ := h'
      rw [if_neg hz, hX] at h3
      exact ⟨_, h3, World.ownsRow_nil _ _ _ _, hb'⟩
    | good l cs =>
      rw [hX] at h2
      obtain ⟨v, l', he, hc, ha⟩ := h2
      refine ⟨_, _, v, l', 0, he, hc, hb, fun W e' W' h' => ?_⟩
      obtain ⟨hb', h3⟩ := h'
      rw [if_neg hz, hX] at h3
      obtain ⟨v2, l2, he2, hc2, ha2⟩ := h3
      obtain rfl := ha2.unique ha
      exact ⟨v2, he2, hc2, hb'⟩

end Go.Proofs.Ythemehdcakimgai

namespace Go.Proofs.Ythemehdcakimgai
open Go.RowKit Go.Maps

end Go.Proofs.Ythemehdcakimgai

namespace Go.Proofs
open Go.Shelf

def Try.sortC_ren : Go.Shelf.Ren := ⟨fun | 6 => 17 | 15 => 25 | 14 => 24 | 28 => 40 | 29 => 41 | 20 => 32 | 21 => 33 | 22 => 34 | 23 => 35 | 24 => 36 | 25 => 37 | 26 => 38 | 27 => 39 | 46 => 49 | 47 => 50 | 48 => 51 | 49 => 52 | 50 => 53 | 57 => 55 | n => n, fun | 22 => 28 | 24 => 52 | 25 => 69 | 3 => 3 | 39 => 75 | 0 => 0 | 53 => 89 | 55 => 91 | 4 => 4 | 46 => 82 | 45 => 81 | 50 => 86 | 5 => 5 | 9 => 9 | 66 => 94 | 70 => 98 | 76 => 100 | 77 => 101 | n => n, fun | n => n⟩
theorem Try.sortC : Go.Proofs.SlLaysF0.n6 Try.prog Try.sortC_ren := {
  mixed := by kernel_rfl
  f6 := ⟨Try.f17.name, by decide, Try.func17.trans (congrArg some (by kernel_rfl))⟩
  f14 := ⟨Try.f24.name, by decide, Try.func24.trans (congrArg some (by kernel_rfl))⟩
  f15 := Try.func25.trans (congrArg some (by kernel_rfl))
  f20 := ⟨Try.f32.name, by decide, Try.func32.trans (congrArg some (by kernel_rfl))⟩
  f21 := ⟨Try.f33.name, by decide, Try.func33.trans (congrArg some (by kernel_rfl))⟩
  f22 := ⟨Try.f34.name, by decide, Try.func34.trans (congrArg some (by kernel_rfl))⟩
  f23 := ⟨Try.f35.name, by decide, Try.func35.trans (congrArg some (by kernel_rfl))⟩
  f24 := ⟨Try.f36.name, by decide, Try.func36.trans (congrArg some (by kernel_rfl))⟩
  f25 := ⟨Try.f37.name, by decide, Try.func37.trans (congrArg some (by kernel_rfl))⟩
  f26 := ⟨Try.f38.name, by decide, Try.func38.trans (congrArg some (by kernel_rfl))⟩
  f27 := ⟨Try.f39.name, by decide, Try.func39.trans (congrArg some (by kernel_rfl))⟩
  f28 := Try.func40.trans (congrArg some (by kernel_rfl))
  f29 := Try.func41.trans (congrArg some (by kernel_rfl))
  f46 := ⟨Try.f49.name, by decide, Try.func49.trans (congrArg some (by kernel_rfl))⟩
  f47 := Try.func50.trans (congrArg some (by kernel_rfl))
  f48 := Try.func51.trans (congrArg some (by kernel_rfl))
  f49 := ⟨Try.f52.name, by decide, Try.func52.trans (congrArg some (by kernel_rfl))⟩
  f50 := ⟨Try.f53.name, by decide, Try.func53.trans (congrArg some (by kernel_rfl))⟩
  f57 := ⟨Try.f55.name, by decide, Try.func55.trans (congrArg some (by kernel_rfl))⟩
  t0 := Try.underlying0
  a0 := Try.isAgg0
  z0 := Try.sizeOf0
  v0 := Try.zeroValue0
  t3 := Try.underlying3
  a3 := Try.isAgg3
  z3 := Try.sizeOf3
  v3 := Try.zeroValue3
  t4 := Try.underlying4
  a4 := Try.isAgg4
  z4 := Try.sizeOf4
  v4 := Try.zeroValue4
  t5 := Try.underlying5
  a5 := Try.isAgg5
  z5 := Try.sizeOf5
  v5 := Try.zeroValue5
  t9 := Try.underlying9
  a9 := Try.isAgg9
  z9 := Try.sizeOf9
  v9 := Try.zeroValue9
  t22 := Try.underlying28
  a22 := Try.isAgg28
  z22 := Try.sizeOf28
  v22 := Try.zeroValue28
  t25 := Try.underlying69
  a25 := Try.isAgg69
  z25 := Try.sizeOf69
  v25 := Try.zeroValue69
  t39 := Try.underlying75
  a39 := Try.isAgg75
  z39 := Try.sizeOf75
  v39 := Try.zeroValue75
  t45 := Try.underlying81
  a45 := Try.isAgg81
  z45 := Try.sizeOf81
  v45 := Try.zeroValue81
  t46 := Try.underlying82
  a46 := Try.isAgg82
  z46 := Try.sizeOf82
  v46 := Try.zeroValue82
  t50 := Try.underlying86
  a50 := Try.isAgg86
  z50 := Try.sizeOf86
  v50 := Try.zeroValue86
  t53 := Try.underlying89
  a53 := Try.isAgg89
  z53 := Try.sizeOf89
  v53 := Try.zeroValue89
  t55 := Try.underlying91
  a55 := Try.isAgg91
  z55 := Try.sizeOf91
  v55 := Try.zeroValue91
  t66 := Try.underlying94
  a66 := Try.isAgg94
  z66 := Try.sizeOf94
  v66 := Try.zeroValue94
  t70 := Try.underlying98
  a70 := Try.isAgg98
  z70 := Try.sizeOf98
  v70 := Try.zeroValue98
  t76 := Try.underlying100
  a76 := Try.isAgg100
  z76 := Try.sizeOf100
  v76 := Try.zeroValue100
  t77 := Try.underlying101
  a77 := Try.isAgg101
  z77 := Try.sizeOf101
  v77 := Try.zeroValue101 }
end Go.Proofs

namespace Go.Proofs.Ythemehdcakimgai
open Go.RowKit Go.Maps

set_option maxHeartbeats 1000000 in
theorem nani_any (x : Int) (w : World) : Calls Try.prog 26 #[.int .i64 x] w fun e w' => e = .returned (.bool false) ∧ w' = w := by
  go_enter Try.func26, Try.ntmps26
  go_wp2_with fail
  go_ret
  exact ⟨by simp, rfl⟩

set_option maxHeartbeats 1000000 in
theorem cmpi_any (x y : Int) (w : World) : Calls Try.prog 19 #[.int .i64 x, .int .i64 y] w fun e w' => e = .returned (.int .i64 (Lib.compareInt x y)) ∧ w' = w := by
  go_enter Try.func19, Try.ntmps19
  go_wp2_with fail
  refine (nani_any x _).mono ?_
  rintro e w1 ⟨rfl, h1⟩
  rw [h1]
  go_wp2_with fail
  refine (nani_any y _).mono ?_
  rintro e w2 ⟨rfl, h2⟩
  rw [h2]
  go_wp2_with fail
  all_goals (go_ret; refine ⟨?_, rfl⟩; unfold Lib.compareInt; (repeat' split) <;> first | rfl | (exfalso; omega))

set_option maxHeartbeats 1000000 in
/-- ascending's own comparison -/
theorem casc_any (x y : Int × Int) (W : World) : Calls Try.prog 18 #[.agg #[.int .i64 x.1, .int .i64 x.2], .agg #[.int .i64 y.1, .int .i64 y.2]] W fun e w' => e = .returned (.int .i64 (Lib.compareInt x.1 y.1)) ∧ ∃ q os', w' = Sort.grow (W.drewN q) os' := by
  have hcon := fun W' => cmpi_any x.1 y.1 W'
  generalize Lib.compareInt x.1 y.1 = r at hcon ⊢
  go_enter Try.func18, Try.ntmps18
  go_wp2_with fail
  refine (hcon _).mono ?_
  rintro e w' ⟨rfl, rfl⟩
  go_wp2_with fail
  go_ret
  exact ⟨rfl, 0, _, by rw [Sort.alloc_eq_grow, Sort.alloc_eq_grow, Sort.grow_grow]; rfl⟩

end Go.Proofs.Ythemehdcakimgai
