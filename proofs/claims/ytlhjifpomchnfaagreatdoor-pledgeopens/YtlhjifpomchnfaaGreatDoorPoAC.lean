/- What package poly's slopes and addWithoutRoot answer; plain facts on the polynomial through points. slices.Sort and slices.Compact at lists of numbers, by the library's own contracts: laid for this program. attestref1.Unlike: whether all of a list are unlike, as elements. areUnlike: sorted and compacted as long as before if and only if no two are the same element. slices.Backward over a list of numbers, by its own text: what comes round by round, from the end of the list on. What the field's method Invs answers: a new list, what makes 1 of each number of the given list; nothing that was there has turned. -/
import Derived.Test.YtlhjifpomchnfaaGreatDoorPoAB
import Derived.Test.YtlhjifpomchnfaaGreatDoorPls
import Derived.Shelf.Sort.Plain
import Derived.Shelf.Slices.CompactI
import Derived.Test.YtlhjifpomchnfaaGreatDoorProg
import Derived.Deep.QuietTactic
import Derived.BigQuiet
import Derived.Sort.OwnSortedInts
import Derived.RangeFuncNested
import Derived.RangeFuncBound
import Derived.RangeFuncCalls
import Derived.RangeFuncLeaves
import Derived.RangeFuncBox
import Derived.RangeFuncWrites
import Derived.Shelf.Abstract
import Derived.WalkKit
import Derived.OwnWalkIn
import Derived.TacticsInMore
import Derived.LoopNIn
import Derived.LoopIn
import Derived.Test.YtlhjifpomchnfaaGreatDoorFld
import Derived.Deep.OwnRows
import Derived.Shelf.RegionOpen
import Derived.RegionIn
namespace Go.Proofs.YtlhjifpomchnfaaGreatDoor
open Go.RowKit

theorem Cells.drewN {g o n : Nat} {f : Nat → Int} {W : World} (h : Cells g o n f W) (k : Nat) : Cells g o n f (W.drewN k) := ⟨h.cells, h.soft⟩

theorem ps_more' {p : Nat} {f : Nat → Int} (x : Int) (n m : Nat) (hnm : n ≤ m) (h : ∀ j, n ≤ j → j < m → (p : Int) ∣ f j) : (p : Int) ∣ Pol.ps f x m - Pol.ps f x n := by
  induction m with
  | zero => obtain rfl : n = 0 := by omega
            simp
  | succ m ih =>
    by_cases e : n = m + 1
    · subst e; simp
    · have := Int.dvd_add (ih (by omega) (fun j h1 h2 => h j h1 (by omega))) (Int.dvd_mul_of_dvd_left (c := x ^ m) (h m (by omega) (by omega)))
      simp only [Pol.ps]
      rwa [show Pol.ps f x m - Pol.ps f x n + f m * x ^ m = Pol.ps f x m + f m * x ^ m - Pol.ps f x n from by omega] at this

theorem evz_mk {p : Nat} (h3 : 3 ≤ p) (F : Nat → Int) (N : Nat) (x : Int) : evz p (Pol.mk p F N) x = Pol.ps F x N % (p : Int) := by
  unfold evz
  rw [Pol.mk_length]
  refine (Pol.emod_eq_iff (by omega)).2 ?_
  have h1 : (p : Int) ∣ Pol.ps (zat (Pol.mk p F N)) x (Pol.tp p F N) - Pol.ps F x (Pol.tp p F N) := Pol.ps_congr x _ (fun j hj => by
    rw [show zat (Pol.mk p F N) j = (Pol.mk p F N).getD j 0 from rfl, Pol.mk_at p F N j hj]
    exact Pol.emod_dvd p _)
  have h2 := ps_more' (p := p) (f := F) x (Pol.tp p F N) N (Pol.tp_le p F N) (fun j h1 h2 => Pol.emod_zero_iff.1 (Pol.tp_behind p F N j h1 h2))
  have := Int.dvd_sub h1 h2
  rwa [show ∀ a b c : Int, a - b - (c - b) = a - c from fun a b c => by omega] at this

/-- the list of the product without x - xs[k], of the first i -/
def vskl (p : Nat) (xs : List Int) (k i : Nat) : List Int := Pol.mk p (Pol.vsk (zat xs) k i) (i + 1)

/-- what comes of dividing by x - root, from the last place down -/
def sd (p : Nat) (zs : List Int) (root : Int) (n : Nat) : Nat → Int
  | 0 => 0
  | i + 1 => (zat zs (n - i) + sd p zs root n i * root % (p : Int)) % (p : Int)
end Go.Proofs.YtlhjifpomchnfaaGreatDoor

namespace Go.Proofs
open Go.Shelf

def Tryz.lays189_ren : Go.Shelf.Ren := ⟨fun | 189 => 116 | 125 => 181 | 257 => 180 | 128 => 228 | 129 => 229 | 294 => 219 | 295 => 220 | 296 => 221 | 297 => 222 | 298 => 223 | 299 => 224 | 216 => 225 | 300 => 226 | 301 => 227 | 328 => 248 | 329 => 249 | 330 => 250 | 331 => 251 | 332 => 252 | 215 => 253 | 343 => 258 | n => n, fun | 28 => 22 | 3 => 3 | 46 => 158 | 0 => 0 | 51 => 196 | 53 => 198 | 4 => 4 | 183 => 275 | 182 => 274 | 131 => 53 | 5 => 5 | 9 => 9 | 218 => 289 | 222 => 293 | 228 => 300 | 229 => 301 | n => n, fun | n => n⟩
theorem Tryz.lays189 : Go.Proofs.Lays.n189 Tryz.prog Tryz.lays189_ren := {
  mixed := by kernel_rfl
  f125 := Tryz.func181.trans (congrArg some (by kernel_rfl))
  f128 := Tryz.func228.trans (congrArg some (by kernel_rfl))
  f129 := Tryz.func229.trans (congrArg some (by kernel_rfl))
  f189 := Tryz.func116.trans (congrArg some (by kernel_rfl))
  f215 := Tryz.func253.trans (congrArg some (by kernel_rfl))
  f216 := Tryz.func225.trans (congrArg some (by kernel_rfl))
  f257 := Tryz.func180.trans (congrArg some (by kernel_rfl))
  f294 := Tryz.func219.trans (congrArg some (by kernel_rfl))
  f295 := Tryz.func220.trans (congrArg some (by kernel_rfl))
  f296 := Tryz.func221.trans (congrArg some (by kernel_rfl))
  f297 := Tryz.func222.trans (congrArg some (by kernel_rfl))
  f298 := Tryz.func223.trans (congrArg some (by kernel_rfl))
  f299 := Tryz.func224.trans (congrArg some (by kernel_rfl))
  f300 := Tryz.func226.trans (congrArg some (by kernel_rfl))
  f301 := Tryz.func227.trans (congrArg some (by kernel_rfl))
  f328 := Tryz.func248.trans (congrArg some (by kernel_rfl))
  f329 := Tryz.func249.trans (congrArg some (by kernel_rfl))
  f330 := Tryz.func250.trans (congrArg some (by kernel_rfl))
  f331 := Tryz.func251.trans (congrArg some (by kernel_rfl))
  f332 := Tryz.func252.trans (congrArg some (by kernel_rfl))
  f343 := Tryz.func258.trans (congrArg some (by kernel_rfl))
  t0 := Tryz.underlying0
  a0 := Tryz.isAgg0
  z0 := Tryz.sizeOf0
  v0 := Tryz.zeroValue0
  t3 := Tryz.underlying3
  a3 := Tryz.isAgg3
  z3 := Tryz.sizeOf3
  v3 := Tryz.zeroValue3
  t4 := Tryz.underlying4
  a4 := Tryz.isAgg4
  z4 := Tryz.sizeOf4
  v4 := Tryz.zeroValue4
  t5 := Tryz.underlying5
  a5 := Tryz.isAgg5
  z5 := Tryz.sizeOf5
  v5 := Tryz.zeroValue5
  t9 := Tryz.underlying9
  a9 := Tryz.isAgg9
  z9 := Tryz.sizeOf9
  v9 := Tryz.zeroValue9
  t28 := Tryz.underlying22
  a28 := Tryz.isAgg22
  z28 := Tryz.sizeOf22
  v28 := Tryz.zeroValue22
  t46 := Tryz.underlying158
  a46 := Tryz.isAgg158
  z46 := Tryz.sizeOf158
  v46 := Tryz.zeroValue158
  t51 := Tryz.underlying196
  a51 := Tryz.isAgg196
  z51 := Tryz.sizeOf196
  v51 := Tryz.zeroValue196
  t53 := Tryz.underlying198
  a53 := Tryz.isAgg198
  z53 := Tryz.sizeOf198
  v53 := Tryz.zeroValue198
  t131 := Tryz.underlying53
  a131 := Tryz.isAgg53
  z131 := Tryz.sizeOf53
  v131 := Tryz.zeroValue53
  t182 := Tryz.underlying274
  a182 := Tryz.isAgg274
  z182 := Tryz.sizeOf274
  v182 := Tryz.zeroValue274
  t183 := Tryz.underlying275
  a183 := Tryz.isAgg275
  z183 := Tryz.sizeOf275
  v183 := Tryz.zeroValue275
  t218 := Tryz.underlying289
  a218 := Tryz.isAgg289
  z218 := Tryz.sizeOf289
  v218 := Tryz.zeroValue289
  t222 := Tryz.underlying293
  a222 := Tryz.isAgg293
  z222 := Tryz.sizeOf293
  v222 := Tryz.zeroValue293
  t228 := Tryz.underlying300
  a228 := Tryz.isAgg300
  z228 := Tryz.sizeOf300
  v228 := Tryz.zeroValue300
  t229 := Tryz.underlying301
  a229 := Tryz.isAgg301
  z229 := Tryz.sizeOf301
  v229 := Tryz.zeroValue301 }

def Tryz.laysNm220_ren : Go.Shelf.Ren := ⟨fun | 20 => 117 | n => n, fun | 22 => 22 | 3 => 3 | 4 => 4 | 0 => 0 | n => n, fun | n => n⟩
theorem Tryz.laysNm220 : Go.Proofs.Lays2.n20 Tryz.prog Tryz.laysNm220_ren := {
  mixed := by kernel_rfl
  f20 := Tryz.func117.trans (congrArg some (by kernel_rfl))
  t0 := Tryz.underlying0
  a0 := Tryz.isAgg0
  z0 := Tryz.sizeOf0
  v0 := Tryz.zeroValue0
  t3 := Tryz.underlying3
  a3 := Tryz.isAgg3
  z3 := Tryz.sizeOf3
  v3 := Tryz.zeroValue3
  t4 := Tryz.underlying4
  a4 := Tryz.isAgg4
  z4 := Tryz.sizeOf4
  v4 := Tryz.zeroValue4
  t22 := Tryz.underlying22
  a22 := Tryz.isAgg22
  z22 := Tryz.sizeOf22
  v22 := Tryz.zeroValue22
  i3 := by kernel_rfl }

open Go.Sort Go.RowKit in
theorem Tryz.sort_any (blk off cap : Nat) (zs : List Int) (w : World) (hH : Holds (Value.int .i64) w blk off zs.toArray) (hblk : blk < w.heap.size) (hsz : zs.length < 4611686018427387904) :
    Calls Tryz.prog 116 #[.slice (some ⟨blk, off, none⟩) zs.length cap] w fun e w' =>
      e = .returned (.tuple #[]) ∧ ∃ n os, w' = grow (putRow (Value.int .i64) (Sort.ahead w n) blk off (zs.mergeSort fun x y => decide (x ≤ y)).toArray) os := Any.slices_Sort_int Tryz.lays189 blk off cap zs w hH hblk hsz

open Go.RowKit Go.Lib Go.Sort in
theorem Tryz.compact_any (blk off cap : Nat) (zs : List Int) (w : World) (hH : Holds (Value.int .i64) w blk off zs.toArray) (hsz : zs.length ≤ 9223372036854775807) (hcap : zs.length ≤ cap) :
    Calls Tryz.prog 117 #[.slice (some ⟨blk, off, none⟩) zs.length cap] w fun e w' => e = .returned (.slice (some ⟨blk, off, none⟩) (Lib.compact zs).length cap) ∧ ∃ q, w' = putRow (Value.int .i64) (Sort.ahead w q) blk off (Lib.compact zs ++ List.replicate (zs.length - (Lib.compact zs).length) 0).toArray :=
  Any.slices_Compact_int Tryz.laysNm220 blk off cap zs w hH hsz hcap
end Go.Proofs

namespace Go.Proofs.YtlhjifpomchnfaaGreatDoor
open Go.RowKit

end Go.Proofs.YtlhjifpomchnfaaGreatDoor

namespace Go.Proofs.YtlhjifpomchnfaaGreatDoor
open Go.RowKit Go.Sort

end Go.Proofs.YtlhjifpomchnfaaGreatDoor

namespace Go.Proofs.YtlhjifpomchnfaaGreatDoor
open Go.RowKit Go.Shelf

attribute [local go_sem] Oper.semAt_some

/-- what has come when k rounds are over -/
def upto {α : Type} (f : Nat → α) (k : Nat) : List α := (List.range k).map f
/-- what a round keeps: all below n0, and the box of the list -/
def KeepsB (n0 Bs : Nat) (A B : World) : Prop := Below n0 A B ∧ B.cell? ⟨Bs, 0, none⟩ = A.cell? ⟨Bs, 0, none⟩
theorem KeepsB.refl (n0 Bs : Nat) (A : World) : KeepsB n0 Bs A A := ⟨Below.refl _ _, rfl⟩
theorem KeepsB.trans {n0 Bs : Nat} {A B C : World} (h : KeepsB n0 Bs A B) (k : KeepsB n0 Bs B C) : KeepsB n0 Bs A C := ⟨h.1.trans k.1, k.2.trans h.2⟩

end Go.Proofs.YtlhjifpomchnfaaGreatDoor

namespace Go.Proofs.YtlhjifpomchnfaaGreatDoor
open Go.RowKit Go.Shelf

attribute [local go_sem] Oper.semAt_some

/-- the product of all of a list that are not 0, as elements -/
def prz (p : Nat) (l : List Int) : Nat := l.foldl (fun acc z => if z % (p : Int) = 0 then acc else acc * el p z % p) 1

theorem prz_snoc (p : Nat) (l : List Int) (z : Int) : prz p (l ++ [z]) = if z % (p : Int) = 0 then prz p l else prz p l * el p z % p := by simp [prz]

theorem el_pos {p : Nat} {z : Int} (h3 : 3 ≤ p) (h : z % (p : Int) ≠ 0) : 0 < el p z := by
  have := (emod_bounds z p h3).1; unfold el; omega

/-- the product of those ahead of a place -/
def pkI (p : Nat) (zs : List Int) (k : Nat) : Nat := prz p (zs.take k)

theorem pkI_succ (p : Nat) (zs : List Int) (k : Nat) (h : k < zs.length) : pkI p zs (k + 1) = if zat zs k % (p : Int) = 0 then pkI p zs k else pkI p zs k * el p (zat zs k) % p := by
  unfold pkI
  rw [List.take_succ_eq_append_getElem h, prz_snoc]; simp [h, zat]

theorem inv_one {p : Nat} (hp : Num.Prime p) (h3 : 3 ≤ p) {z : Int} (h : z % (p : Int) ≠ 0) : invn p z * el p z % p = 1 := by
  have h1 := el_pos h3 h
  have h2 := el_lt p z h3
  unfold invn
  have : el p z = Num.pwm p (el p z) 1 := (Num.pwm_one p _ h2).symm
  rw [show Num.pwm p (el p z) (p - 2) * el p z = Num.pwm p (el p z) (p - 2) * Num.pwm p (el p z) 1 from by rw [← this], Num.pwm_add, show p - 2 + 1 = p - 1 from by omega]
  exact Num.pwm_fermat hp h1 h2

theorem inv_zero {p : Nat} (h3 : 3 ≤ p) {z : Int} (h : z % (p : Int) = 0) : invn p z = 0 := by
  have he : el p z = 0 := by unfold el; rw [h]; rfl
  unfold invn; rw [he, pwm_zero_left p _ (by omega)]

/-- what makes 1 of an element is one alone -/
theorem inv_unique {p x y e : Nat} (hp : Num.Prime p) (hx : x < p) (hy : y < p) (he : ¬ p ∣ e) (h1 : x * e % p = 1) (h2 : y * e % p = 1) : x = y := by
  have : e * x % p = e * y % p := by rw [Nat.mul_comm, h1, Nat.mul_comm, h2]
  have := Num.cancel hp he this
  rwa [Nat.mod_eq_of_lt hx, Nat.mod_eq_of_lt hy] at this

/-- what is known of the new list and of the inverse while the last n - i are done -/
structure IG (p : Nat) (zs : List Int) (i : Nat) (o : Nat → Nat) (v : Nat) : Prop where
  ahead : ∀ j, j < i → o j = pkI p zs j
  behind : ∀ j, i ≤ j → j < zs.length → o j = invn p (zat zs j)
  one : v * pkI p zs i % p = 1

/-- one place turned -/
def updI (o : Nat → Nat) (i x : Nat) : Nat → Nat := fun j => if j = i then x else o j

theorem IG.skip {p : Nat} {zs : List Int} {i : Nat} {o : Nat → Nat} {v : Nat} (h3 : 3 ≤ p) (h : IG p zs (i + 1) o v) (hi : i < zs.length) (hz : zat zs i % (p : Int) = 0) : IG p zs i (updI o i 0) v := by
  have e := pkI_succ p zs i hi
  rw [if_pos hz] at e
  refine ⟨fun j hj => ?_, fun j h1 h2 => ?_, by rw [← e]; exact h.one⟩
  · unfold updI; rw [if_neg (by omega)]; exact h.ahead j (by omega)
  · unfold updI
    by_cases hji : j = i
    · rw [if_pos hji, hji]; exact (inv_zero h3 hz).symm
    · rw [if_neg hji]; exact h.behind j (by omega) h2

theorem IG.take {p : Nat} {zs : List Int} {i : Nat} {o : Nat → Nat} {v : Nat} (hp : Num.Prime p) (h3 : 3 ≤ p) (h : IG p zs (i + 1) o v) (hi : i < zs.length) (hz : zat zs i % (p : Int) ≠ 0) :
    IG p zs i (updI o i (o i * v % p)) (v * el p (zat zs i) % p) := by
  have e := pkI_succ p zs i hi
  rw [if_neg hz] at e
  have hone := h.one
  rw [e] at hone
  have hoi := h.ahead i (by omega)
  refine ⟨fun j hj => ?_, fun j h1 h2 => ?_, ?_⟩
  · unfold updI; rw [if_neg (by omega)]; exact h.ahead j (by omega)
  · unfold updI
    by_cases hji : j = i
    · rw [if_pos hji, hji]
      refine inv_unique hp (Nat.mod_lt _ (by omega)) (invn_lt p _ h3) (Num.not_dvd_lt (el_pos h3 hz) (el_lt p _ h3)) ?_ (inv_one hp h3 hz)
      rw [hoi, Nat.mod_mul_mod, show pkI p zs i * v * el p (zat zs i) = v * (pkI p zs i * el p (zat zs i)) from by grind, ← Nat.mul_mod_mod]
      exact hone
    · rw [if_neg hji]; exact h.behind j (by omega) h2
  · rw [Nat.mod_mul_mod, show v * el p (zat zs i) * pkI p zs i = v * (pkI p zs i * el p (zat zs i)) from by grind, ← Nat.mul_mod_mod]
    exact hone

end Go.Proofs.YtlhjifpomchnfaaGreatDoor
