/- What package poly's Vanish and its helpers answer. What package poly's slopes and addWithoutRoot answer; plain facts on the polynomial through points. slices.Sort and slices.Compact at lists of numbers, by the library's own contracts: laid for this program. -/
import Derived.Test.YtpgnabmkfkcogaaGreatDoorGxAC
import Derived.Deep.RegionWith
import Derived.Test.YtpgnabmkfkcogaaGreatDoorPls
import Derived.Shelf.Sort.Plain
import Derived.Shelf.Slices.CompactI
import Derived.Test.YtpgnabmkfkcogaaGreatDoorProg
namespace Go.Proofs.YtpgnabmkfkcogaaGreatDoor
open Go.RowKit

end Go.Proofs.YtpgnabmkfkcogaaGreatDoor

namespace Go.Proofs.YtpgnabmkfkcogaaGreatDoor
open Go.RowKit

theorem Cells.drewN {g o n : Nat} {f : Nat → Int} {W : World} (h : Cells g o n f W) (k : Nat) : Cells g o n f (W.drewN k) := ⟨h.cells, h.soft⟩

theorem ps_more' {p : Nat} {f : Nat → Int} (x : Int) (n m : Nat) (hnm : n ≤ m) (h : ∀ j, n ≤ j → j < m → (p : Int) ∣ f j) : (p : Int) ∣ Pol.ps f x m - Pol.ps f x n := by
  induction m with
  | zero => obtain rfl : n = 0 := by omega
            simp
  | succ m ih =>
    by_cases e : n = m + 1
    · subst e; simp
    · have := Int.dvd_add (ih (by omega) (fun j h1 h2 => h j h1 (by omega))) (Int.dvd_mul_of_dvd_left (c := x ^ m) (h m (by omega) (by omega)))
      simp only [Pol.ps]
      rwa [show Pol.ps f x m - Pol.ps f x n + f m * x ^ m = Pol.ps f x m + f m * x ^ m - Pol.ps f x n from by omega] at this

theorem evz_mk {p : Nat} (h3 : 3 ≤ p) (F : Nat → Int) (N : Nat) (x : Int) : evz p (Pol.mk p F N) x = Pol.ps F x N % (p : Int) := by
  unfold evz
  rw [Pol.mk_length]
  refine (Pol.emod_eq_iff (by omega)).2 ?_
  have h1 : (p : Int) ∣ Pol.ps (zat (Pol.mk p F N)) x (Pol.tp p F N) - Pol.ps F x (Pol.tp p F N) := Pol.ps_congr x _ (fun j hj => by
    rw [show zat (Pol.mk p F N) j = (Pol.mk p F N).getD j 0 from rfl, Pol.mk_at p F N j hj]
    exact Pol.emod_dvd p _)
  have h2 := ps_more' (p := p) (f := F) x (Pol.tp p F N) N (Pol.tp_le p F N) (fun j h1 h2 => Pol.emod_zero_iff.1 (Pol.tp_behind p F N j h1 h2))
  have := Int.dvd_sub h1 h2
  rwa [show ∀ a b c : Int, a - b - (c - b) = a - c from fun a b c => by omega] at this

/-- the list of the product without x - xs[k], of the first i -/
def vskl (p : Nat) (xs : List Int) (k i : Nat) : List Int := Pol.mk p (Pol.vsk (zat xs) k i) (i + 1)

/-- what comes of dividing by x - root, from the last place down -/
def sd (p : Nat) (zs : List Int) (root : Int) (n : Nat) : Nat → Int
  | 0 => 0
  | i + 1 => (zat zs (n - i) + sd p zs root n i * root % (p : Int)) % (p : Int)
end Go.Proofs.YtpgnabmkfkcogaaGreatDoor

namespace Go.Proofs
open Go.Shelf

def Tryz.lays189_ren : Go.Shelf.Ren := ⟨fun | 189 => 136 | 125 => 201 | 257 => 200 | 128 => 245 | 129 => 246 | 294 => 236 | 295 => 237 | 296 => 238 | 297 => 239 | 298 => 240 | 299 => 241 | 216 => 242 | 300 => 243 | 301 => 244 | 328 => 264 | 329 => 265 | 330 => 266 | 331 => 267 | 332 => 268 | 215 => 269 | 343 => 274 | n => n, fun | 28 => 23 | 3 => 3 | 46 => 179 | 0 => 0 | 51 => 220 | 53 => 222 | 4 => 4 | 183 => 290 | 182 => 289 | 131 => 62 | 5 => 5 | 9 => 9 | 218 => 304 | 222 => 308 | 228 => 315 | 229 => 316 | n => n, fun | n => n⟩
theorem Tryz.lays189 : Go.Proofs.Lays.n189 Tryz.prog Tryz.lays189_ren := {
  mixed := by kernel_rfl
  f125 := Tryz.func201.trans (congrArg some (by kernel_rfl))
  f128 := Tryz.func245.trans (congrArg some (by kernel_rfl))
  f129 := Tryz.func246.trans (congrArg some (by kernel_rfl))
  f189 := Tryz.func136.trans (congrArg some (by kernel_rfl))
  f215 := Tryz.func269.trans (congrArg some (by kernel_rfl))
  f216 := Tryz.func242.trans (congrArg some (by kernel_rfl))
  f257 := Tryz.func200.trans (congrArg some (by kernel_rfl))
  f294 := Tryz.func236.trans (congrArg some (by kernel_rfl))
  f295 := Tryz.func237.trans (congrArg some (by kernel_rfl))
  f296 := Tryz.func238.trans (congrArg some (by kernel_rfl))
  f297 := Tryz.func239.trans (congrArg some (by kernel_rfl))
  f298 := Tryz.func240.trans (congrArg some (by kernel_rfl))
  f299 := Tryz.func241.trans (congrArg some (by kernel_rfl))
  f300 := Tryz.func243.trans (congrArg some (by kernel_rfl))
  f301 := Tryz.func244.trans (congrArg some (by kernel_rfl))
  f328 := Tryz.func264.trans (congrArg some (by kernel_rfl))
  f329 := Tryz.func265.trans (congrArg some (by kernel_rfl))
  f330 := Tryz.func266.trans (congrArg some (by kernel_rfl))
  f331 := Tryz.func267.trans (congrArg some (by kernel_rfl))
  f332 := Tryz.func268.trans (congrArg some (by kernel_rfl))
  f343 := Tryz.func274.trans (congrArg some (by kernel_rfl))
  t0 := Tryz.underlying0
  a0 := Tryz.isAgg0
  z0 := Tryz.sizeOf0
  v0 := Tryz.zeroValue0
  t3 := Tryz.underlying3
  a3 := Tryz.isAgg3
  z3 := Tryz.sizeOf3
  v3 := Tryz.zeroValue3
  t4 := Tryz.underlying4
  a4 := Tryz.isAgg4
  z4 := Tryz.sizeOf4
  v4 := Tryz.zeroValue4
  t5 := Tryz.underlying5
  a5 := Tryz.isAgg5
  z5 := Tryz.sizeOf5
  v5 := Tryz.zeroValue5
  t9 := Tryz.underlying9
  a9 := Tryz.isAgg9
  z9 := Tryz.sizeOf9
  v9 := Tryz.zeroValue9
  t28 := Tryz.underlying23
  a28 := Tryz.isAgg23
  z28 := Tryz.sizeOf23
  v28 := Tryz.zeroValue23
  t46 := Tryz.underlying179
  a46 := Tryz.isAgg179
  z46 := Tryz.sizeOf179
  v46 := Tryz.zeroValue179
  t51 := Tryz.underlying220
  a51 := Tryz.isAgg220
  z51 := Tryz.sizeOf220
  v51 := Tryz.zeroValue220
  t53 := Tryz.underlying222
  a53 := Tryz.isAgg222
  z53 := Tryz.sizeOf222
  v53 := Tryz.zeroValue222
  t131 := Tryz.underlying62
  a131 := Tryz.isAgg62
  z131 := Tryz.sizeOf62
  v131 := Tryz.zeroValue62
  t182 := Tryz.underlying289
  a182 := Tryz.isAgg289
  z182 := Tryz.sizeOf289
  v182 := Tryz.zeroValue289
  t183 := Tryz.underlying290
  a183 := Tryz.isAgg290
  z183 := Tryz.sizeOf290
  v183 := Tryz.zeroValue290
  t218 := Tryz.underlying304
  a218 := Tryz.isAgg304
  z218 := Tryz.sizeOf304
  v218 := Tryz.zeroValue304
  t222 := Tryz.underlying308
  a222 := Tryz.isAgg308
  z222 := Tryz.sizeOf308
  v222 := Tryz.zeroValue308
  t228 := Tryz.underlying315
  a228 := Tryz.isAgg315
  z228 := Tryz.sizeOf315
  v228 := Tryz.zeroValue315
  t229 := Tryz.underlying316
  a229 := Tryz.isAgg316
  z229 := Tryz.sizeOf316
  v229 := Tryz.zeroValue316 }

def Tryz.laysNm220_ren : Go.Shelf.Ren := ⟨fun | 20 => 137 | n => n, fun | 22 => 23 | 3 => 3 | 4 => 4 | 0 => 0 | n => n, fun | n => n⟩
theorem Tryz.laysNm220 : Go.Proofs.Lays2.n20 Tryz.prog Tryz.laysNm220_ren := {
  mixed := by kernel_rfl
  f20 := Tryz.func137.trans (congrArg some (by kernel_rfl))
  t0 := Tryz.underlying0
  a0 := Tryz.isAgg0
  z0 := Tryz.sizeOf0
  v0 := Tryz.zeroValue0
  t3 := Tryz.underlying3
  a3 := Tryz.isAgg3
  z3 := Tryz.sizeOf3
  v3 := Tryz.zeroValue3
  t4 := Tryz.underlying4
  a4 := Tryz.isAgg4
  z4 := Tryz.sizeOf4
  v4 := Tryz.zeroValue4
  t22 := Tryz.underlying23
  a22 := Tryz.isAgg23
  z22 := Tryz.sizeOf23
  v22 := Tryz.zeroValue23
  i3 := by kernel_rfl }

open Go.Sort Go.RowKit in
theorem Tryz.sort_any (blk off cap : Nat) (zs : List Int) (w : World) (hH : Holds (Value.int .i64) w blk off zs.toArray) (hblk : blk < w.heap.size) (hsz : zs.length < 4611686018427387904) :
    Calls Tryz.prog 136 #[.slice (some ⟨blk, off, none⟩) zs.length cap] w fun e w' =>
      e = .returned (.tuple #[]) ∧ ∃ n os, w' = grow (putRow (Value.int .i64) (Sort.ahead w n) blk off (zs.mergeSort fun x y => decide (x ≤ y)).toArray) os := Any.slices_Sort_int Tryz.lays189 blk off cap zs w hH hblk hsz

open Go.RowKit Go.Lib Go.Sort in
theorem Tryz.compact_any (blk off cap : Nat) (zs : List Int) (w : World) (hH : Holds (Value.int .i64) w blk off zs.toArray) (hsz : zs.length ≤ 9223372036854775807) (hcap : zs.length ≤ cap) :
    Calls Tryz.prog 137 #[.slice (some ⟨blk, off, none⟩) zs.length cap] w fun e w' => e = .returned (.slice (some ⟨blk, off, none⟩) (Lib.compact zs).length cap) ∧ ∃ q, w' = putRow (Value.int .i64) (Sort.ahead w q) blk off (Lib.compact zs ++ List.replicate (zs.length - (Lib.compact zs).length) 0).toArray :=
  Any.slices_Compact_int Tryz.laysNm220 blk off cap zs w hH hsz hcap
end Go.Proofs
