/- attestref6.Run. Plain facts on products of x less numbers: they tell lists apart. Steps of a walk: their bounds. A run, step by step, plainly: what each step shows, and what comes of it. slices.SortFunc at cells: laid for this program. -/
import Derived.Test.YtdpdmgmeieijaaaGreatDoorSndAN
import Derived.Test.YtdpdmgmeieijaaaGreatDoorHeldS
import Derived.Test.YtdpdmgmeieijaaaGreatDoorPlain
import Derived.Test.YtdpdmgmeieijaaaGreatDoorSndAK
import Derived.Shelf.SlLaysF0
import Derived.Test.YtdpdmgmeieijaaaGreatDoorProg
namespace Go.Proofs.YtdpdmgmeieijaaaGreatDoor
open Go.RowKit Go.Maps

/-- what stands in Run's loop -/
structure RnI (p RB : Nat) (cs : List (Int × Int)) (o : Int) (k : Nat) (low : Int) (pre : List (Int × Int)) (v : Value) (w1 wr : World) : Prop where
  pr : Pre6 cs low pre
  lt : low < (p : Int)
  r : wr.heap[RB]? = some (.cells #[.int .i64 o, .int .i64 (k : Int), v] 36 (0, 0))
  own : CelR (RB + 1) wr v pre
  bel : Below RB w1 wr
  sz : RB + 1 ≤ wr.heap.size
  len : pre.length ≤ cs.countP (fun c => decide (c.1 ≤ low))

end Go.Proofs.YtdpdmgmeieijaaaGreatDoor

namespace Go.Proofs.YtdpdmgmeieijaaaGreatDoor.Pol

/-- the product of x less each of a list, as a polynomial -/
def pl : List Int → S
  | [] => one
  | r :: l => mul (pl l) (lin r)
end Go.Proofs.YtdpdmgmeieijaaaGreatDoor.Pol

namespace Go.Proofs.YtdpdmgmeieijaaaGreatDoor
open Go.RowKit Go.Maps

/-- a step: ten elements, its instruction is one of nL -/
def StB (p nL : Nat) (s : List Int) : Prop := s.length = 10 ∧ (∀ j, j < 10 → 0 ≤ zat s j ∧ zat s j < (p : Int)) ∧ zat s 0 < (nL : Int)
theorem cel3_bd {p : Nat} (h3 : 3 ≤ p) (op a b c fp ap : Int) (i : Nat) : 0 ≤ cel3 p op a b c fp ap i ∧ cel3 p op a b c fp ap i < (p : Int) := by
  have e : ∀ x : Int, 0 ≤ x % (p : Int) ∧ x % (p : Int) < (p : Int) := fun x => emod_bounds x p h3
  have z : 0 ≤ (0 : Int) ∧ (0 : Int) < (p : Int) := ⟨by decide, by omega⟩
  unfold cel3
  repeat' split
  all_goals first | exact e _ | exact z
theorem mgo_steps (p : Nat) (L : List InsZ) (limit : Nat) (h3 : 3 ≤ p) : ∀ (f : Nat) (k : Nat) (n : Rg) (cs1 : List (Int × Int)) (done l : List (List Int)) (cs : List (Int × Int)), mgo p L limit f (freshM cs1 n) done = .good l cs → SOk p k 0 (freshM cs1 n) → RgB p n → Zer cs1 → (∀ s, s ∈ done → StB p L.length s) → (∀ s, s ∈ l → StB p L.length s) ∧ 0 < l.length
  | 0, _, _, _, _, _, _, h, _, _, _, _ => by simp [mgo] at h
  | f + 1, k, n, cs1, done, l, cs, h, hs, hr, hz, hd => by
    rw [mgo] at h
    split at h
    · cases h
    · rename_i hpc
      split at h
      · cases h
      · split at h
        · cases h
        · rename_i herr
          have hso := step_ok h3 hs hr (insat L (freshM cs1 n).pc.toNat).op (insat L (freshM cs1 n).pc.toNat).a (insat L (freshM cs1 n).pc.toNat).b (insat L (freshM cs1 n).pc.toNat).c
          have hcb : CsB p cs1 := fun j hj => hs.1 j hj
          have hst := step_is (a := (insat L (freshM cs1 n).pc.toNat).a) (b := (insat L (freshM cs1 n).pc.toNat).b) (c := (insat L (freshM cs1 n).pc.toNat).c) (n := n) (insat L (freshM cs1 n).pc.toNat).op h3 hz hr (csB_cvl h3 hcb)
          generalize (insat L (freshM cs1 n).pc.toNat).op = op at *
          generalize (insat L (freshM cs1 n).pc.toNat).a = ia at *
          generalize (insat L (freshM cs1 n).pc.toNat).b = ib at *
          generalize (insat L (freshM cs1 n).pc.toNat).c = ic at *
          obtain ⟨he, hnow⟩ := hst
          have he0 : ((freshM cs1 n).step p op ia ib ic).1.err = 0 := Decidable.byContradiction herr
          obtain ⟨hcs, hnw, _⟩ := hnow (he.symm.trans he0)
          have hzz : Zer ((freshM cs1 n).step p op ia ib ic).1.cs := by
            rw [hcs]
            exact wrk_zer hz (he.symm.trans he0)
          have hcb2 : CsB p ((freshM cs1 n).step p op ia ib ic).1.cs := fun j hj => hso.1.1 j hj
          have hv := csB_cvl h3 hcb2
          have hone : StB p L.length ((freshM cs1 n).step p op ia ib ic).1.now := by
            rw [hnw, ← hcs]
            have hx := cel3_bd h3 op ia ib ic n.fp n.ap
            have hpc' : n.pc < (L.length : Int) := by
              have : ¬ (L.length : Int) ≤ n.pc := hpc
              omega
            refine ⟨rfl, fun j hj => ?_, hpc'⟩
            obtain ⟨r1, r2, r3, r4⟩ := hr
            have : j = 0 ∨ j = 1 ∨ j = 2 ∨ j = 3 ∨ j = 4 ∨ j = 5 ∨ j = 6 ∨ j = 7 ∨ j = 8 ∨ j = 9 := by omega
            rcases this with rfl | rfl | rfl | rfl | rfl | rfl | rfl | rfl | rfl | rfl
            · exact r1
            · exact r2
            · exact r3
            · exact r4
            · exact hx 0
            · exact hx 1
            · exact hx 2
            · exact hv _
            · exact hv _
            · exact hv _
          have hd2 : ∀ s, s ∈ done ++ [((freshM cs1 n).step p op ia ib ic).1.now] → StB p L.length s := fun s hs => by
            rcases List.mem_append.1 hs with h1 | h1
            · exact hd s h1
            · rw [List.mem_singleton] at h1; rw [h1]; exact hone
          split at h
          · injection h with h1 h2
            rw [← h1]
            exact ⟨hd2, by simp⟩
          · exact mgo_steps p L limit h3 f (k + 2) _ _ _ l cs h ⟨hso.1.1, hso.1.2.1, fun _ => Nat.le_refl _⟩ hso.2 hzz hd2
theorem mwalk_steps {p : Nat} {size : Int} {L : List InsZ} {limit : Nat} {l : List (List Int)} {cs : List (Int × Int)} (h3 : 3 ≤ p) (h : mwalk p size L limit = .good l cs) : (∀ s, s ∈ l → StB p L.length s) ∧ 0 < l.length := by
  refine mgo_steps p L limit h3 _ 1 _ _ _ l cs h ⟨fun j hj => ?_, Nat.le_refl _, fun _ => Nat.le_refl _⟩ ⟨⟨Int.le_refl _, by show (0 : Int) < p; omega⟩, ⟨by show (0 : Int) ≤ 1; omega, by show (1 : Int) < p; omega⟩, emod_bounds _ p h3, ⟨Int.le_refl _, by show (0 : Int) < p; omega⟩⟩ ⟨by decide, by decide⟩ (fun s hs => by cases hs)
  have : j = 0 := by simpa [freshM] using hj
  subst this
  show 0 ≤ (0 : Int) ∧ (0 : Int) < p
  omega

end Go.Proofs.YtdpdmgmeieijaaaGreatDoor

namespace Go.Proofs.YtdpdmgmeieijaaaGreatDoor
open Go.RowKit Go.Maps

/-- the instruction of a step -/
def sin' (L : List InsZ) (s : List Int) : InsZ := insat L (zat s 0).toNat
/-- the registers of a step -/
def rgs (s : List Int) : Rg := ⟨zat s 0, zat s 1, zat s 2, zat s 3⟩
/-- what a step shows -/
structure StpF (p : Nat) (L : List InsZ) (s : List Int) : Prop where
  bd : StB p L.length s
  at3 : ∀ j, j < 3 → zat s (4 + j) = cel3 p (sin' L s).op (sin' L s).a (sin' L s).b (sin' L s).c (zat s 1) (zat s 2) j
  rk : (sin' L s).op = 1 ∨ (sin' L s).op = 2 ∨ (sin' L s).op = 3 ∨ (sin' L s).op = 4 ∨ (sin' L s).op = 6 → zat s 9 = rkn p (sin' L s).op (zat s 7) (zat s 8)
  dv : (sin' L s).op = 4 → zat s 8 ≠ 0
  st : (sin' L s).op = 5 → zat s 7 = (sin' L s).b % (p : Int)
  mu : (sin' L s).op = 7 → zat s 7 = zat s 8
  ca : (sin' L s).op = 10 → zat s 7 = zat s 1 ∧ zat s 8 = (zat s 0 + 1) % (p : Int)
  ta : (sin' L s).op = 12 → zat s 7 = zat s 3
  pa : (sin' L s).op = 13 → zat s 7 = zat s 8
  op : 0 ≤ (sin' L s).op ∧ (sin' L s).op ≤ 13
/-- what comes behind a step -/
def Nxt (p : Nat) (L : List InsZ) (s : List Int) (n : Rg) : Prop := n = mvg p (sin' L s).op (sin' L s).a (sin' L s).b (rgs s) (zat s 7) (zat s 8) (zat s 9)
/-- steps so far -/
structure RnS (p : Nat) (L : List InsZ) (n0 : Rg) (done : List (List Int)) (n : Rg) : Prop where
  fs : ∀ i, i < done.length → StpF p L (rat done i) ∧ (sin' L (rat done i)).op ≠ 0
  nx : ∀ i, i + 1 < done.length → Nxt p L (rat done i) (rgs (rat done (i + 1)))
  lst : 0 < done.length → Nxt p L (rat done (done.length - 1)) n
  f0 : done.length = 0 → n = n0
  f1 : 0 < done.length → rgs (rat done 0) = n0
/-- a run, whole -/
structure RnW (p : Nat) (L : List InsZ) (n0 : Rg) (limit : Nat) (l : List (List Int)) : Prop where
  fs : ∀ i, i < l.length → StpF p L (rat l i)
  nx : ∀ i, i + 1 < l.length → Nxt p L (rat l i) (rgs (rat l (i + 1))) ∧ (sin' L (rat l i)).op ≠ 0
  f1 : rgs (rat l 0) = n0
  len : 0 < l.length ∧ l.length ≤ limit + 1
  hlt : (sin' L (rat l (l.length - 1))).op = 0

theorem rat_end {l : List (List Int)} {x : List Int} : rat (l ++ [x]) l.length = x := by simp [rat]

end Go.Proofs.YtdpdmgmeieijaaaGreatDoor

namespace Go.Proofs
open Go.Shelf

def Tryz.sortC_ren : Go.Shelf.Ren := ⟨fun | 6 => 34 | 15 => 49 | 14 => 48 | 28 => 75 | 29 => 76 | 20 => 67 | 21 => 68 | 22 => 69 | 23 => 70 | 24 => 71 | 25 => 72 | 26 => 73 | 27 => 74 | 46 => 101 | 47 => 102 | 48 => 103 | 49 => 104 | 50 => 105 | 57 => 122 | n => n, fun | 22 => 34 | 24 => 58 | 25 => 84 | 3 => 3 | 39 => 105 | 0 => 0 | 53 => 135 | 55 => 137 | 4 => 4 | 46 => 128 | 45 => 127 | 50 => 132 | 5 => 5 | 9 => 9 | 66 => 158 | 70 => 162 | 76 => 172 | 77 => 173 | n => n, fun | n => n⟩
theorem Tryz.sortC : Go.Proofs.SlLaysF0.n6 Tryz.prog Tryz.sortC_ren := {
  mixed := by kernel_rfl
  f6 := ⟨Tryz.f34.name, by decide, Tryz.func34.trans (congrArg some (by kernel_rfl))⟩
  f14 := ⟨Tryz.f48.name, by decide, Tryz.func48.trans (congrArg some (by kernel_rfl))⟩
  f15 := Tryz.func49.trans (congrArg some (by kernel_rfl))
  f20 := ⟨Tryz.f67.name, by decide, Tryz.func67.trans (congrArg some (by kernel_rfl))⟩
  f21 := ⟨Tryz.f68.name, by decide, Tryz.func68.trans (congrArg some (by kernel_rfl))⟩
  f22 := ⟨Tryz.f69.name, by decide, Tryz.func69.trans (congrArg some (by kernel_rfl))⟩
  f23 := ⟨Tryz.f70.name, by decide, Tryz.func70.trans (congrArg some (by kernel_rfl))⟩
  f24 := ⟨Tryz.f71.name, by decide, Tryz.func71.trans (congrArg some (by kernel_rfl))⟩
  f25 := ⟨Tryz.f72.name, by decide, Tryz.func72.trans (congrArg some (by kernel_rfl))⟩
  f26 := ⟨Tryz.f73.name, by decide, Tryz.func73.trans (congrArg some (by kernel_rfl))⟩
  f27 := ⟨Tryz.f74.name, by decide, Tryz.func74.trans (congrArg some (by kernel_rfl))⟩
  f28 := Tryz.func75.trans (congrArg some (by kernel_rfl))
  f29 := Tryz.func76.trans (congrArg some (by kernel_rfl))
  f46 := ⟨Tryz.f101.name, by decide, Tryz.func101.trans (congrArg some (by kernel_rfl))⟩
  f47 := Tryz.func102.trans (congrArg some (by kernel_rfl))
  f48 := Tryz.func103.trans (congrArg some (by kernel_rfl))
  f49 := ⟨Tryz.f104.name, by decide, Tryz.func104.trans (congrArg some (by kernel_rfl))⟩
  f50 := ⟨Tryz.f105.name, by decide, Tryz.func105.trans (congrArg some (by kernel_rfl))⟩
  f57 := ⟨Tryz.f122.name, by decide, Tryz.func122.trans (congrArg some (by kernel_rfl))⟩
  t0 := Tryz.underlying0
  a0 := Tryz.isAgg0
  z0 := Tryz.sizeOf0
  v0 := Tryz.zeroValue0
  t3 := Tryz.underlying3
  a3 := Tryz.isAgg3
  z3 := Tryz.sizeOf3
  v3 := Tryz.zeroValue3
  t4 := Tryz.underlying4
  a4 := Tryz.isAgg4
  z4 := Tryz.sizeOf4
  v4 := Tryz.zeroValue4
  t5 := Tryz.underlying5
  a5 := Tryz.isAgg5
  z5 := Tryz.sizeOf5
  v5 := Tryz.zeroValue5
  t9 := Tryz.underlying9
  a9 := Tryz.isAgg9
  z9 := Tryz.sizeOf9
  v9 := Tryz.zeroValue9
  t22 := Tryz.underlying34
  a22 := Tryz.isAgg34
  z22 := Tryz.sizeOf34
  v22 := Tryz.zeroValue34
  t25 := Tryz.underlying84
  a25 := Tryz.isAgg84
  z25 := Tryz.sizeOf84
  v25 := Tryz.zeroValue84
  t39 := Tryz.underlying105
  a39 := Tryz.isAgg105
  z39 := Tryz.sizeOf105
  v39 := Tryz.zeroValue105
  t45 := Tryz.underlying127
  a45 := Tryz.isAgg127
  z45 := Tryz.sizeOf127
  v45 := Tryz.zeroValue127
  t46 := Tryz.underlying128
  a46 := Tryz.isAgg128
  z46 := Tryz.sizeOf128
  v46 := Tryz.zeroValue128
  t50 := Tryz.underlying132
  a50 := Tryz.isAgg132
  z50 := Tryz.sizeOf132
  v50 := Tryz.zeroValue132
  t53 := Tryz.underlying135
  a53 := Tryz.isAgg135
  z53 := Tryz.sizeOf135
  v53 := Tryz.zeroValue135
  t55 := Tryz.underlying137
  a55 := Tryz.isAgg137
  z55 := Tryz.sizeOf137
  v55 := Tryz.zeroValue137
  t66 := Tryz.underlying158
  a66 := Tryz.isAgg158
  z66 := Tryz.sizeOf158
  v66 := Tryz.zeroValue158
  t70 := Tryz.underlying162
  a70 := Tryz.isAgg162
  z70 := Tryz.sizeOf162
  v70 := Tryz.zeroValue162
  t76 := Tryz.underlying172
  a76 := Tryz.isAgg172
  z76 := Tryz.sizeOf172
  v76 := Tryz.zeroValue172
  t77 := Tryz.underlying173
  a77 := Tryz.isAgg173
  z77 := Tryz.sizeOf173
  v77 := Tryz.zeroValue173 }
end Go.Proofs
