/- attestref6.Run. Plain facts on products of x less numbers: they tell lists apart. Steps of a walk: their bounds. A run, step by step, plainly: what each step shows, and what comes of it. -/
import Derived.Test.YtfppkjpgihnibaaGreatShwAN
import Derived.Test.YtfppkjpgihnibaaGreatHeldS
import Derived.Test.YtfppkjpgihnibaaGreatPlain
import Derived.Test.YtfppkjpgihnibaaGreatShwAK
namespace Go.Proofs.YtfppkjpgihnibaaGreat
open Go.RowKit Go.Maps

/-- what stands in Run's loop -/
structure RnI (p RB : Nat) (cs : List (Int × Int)) (o : Int) (k : Nat) (low : Int) (pre : List (Int × Int)) (v : Value) (w1 wr : World) : Prop where
  pr : Pre6 cs low pre
  lt : low < (p : Int)
  r : wr.heap[RB]? = some (.cells #[.int .i64 o, .int .i64 (k : Int), v] 39 (0, 0))
  own : CelR (RB + 1) wr v pre
  bel : Below RB w1 wr
  sz : RB + 1 ≤ wr.heap.size
  len : pre.length ≤ cs.countP (fun c => decide (c.1 ≤ low))

end Go.Proofs.YtfppkjpgihnibaaGreat

namespace Go.Proofs.YtfppkjpgihnibaaGreat.Pol

/-- the product of x less each of a list, as a polynomial -/
def pl : List Int → S
  | [] => one
  | r :: l => mul (pl l) (lin r)
end Go.Proofs.YtfppkjpgihnibaaGreat.Pol

namespace Go.Proofs.YtfppkjpgihnibaaGreat
open Go.RowKit Go.Maps

/-- a step: ten elements, its instruction is one of nL -/
def StB (p nL : Nat) (s : List Int) : Prop := s.length = 10 ∧ (∀ j, j < 10 → 0 ≤ zat s j ∧ zat s j < (p : Int)) ∧ zat s 0 < (nL : Int)
theorem cel3_bd {p : Nat} (h3 : 3 ≤ p) (op a b c fp ap : Int) (i : Nat) : 0 ≤ cel3 p op a b c fp ap i ∧ cel3 p op a b c fp ap i < (p : Int) := by
  have e : ∀ x : Int, 0 ≤ x % (p : Int) ∧ x % (p : Int) < (p : Int) := fun x => emod_bounds x p h3
  have z : 0 ≤ (0 : Int) ∧ (0 : Int) < (p : Int) := ⟨by decide, by omega⟩
  unfold cel3
  repeat' split
  all_goals first | exact e _ | exact z
theorem mgo_steps (p : Nat) (L : List InsZ) (limit : Nat) (h3 : 3 ≤ p) : ∀ (f : Nat) (k : Nat) (n : Rg) (cs1 : List (Int × Int)) (done l : List (List Int)) (cs : List (Int × Int)), mgo p L limit f (freshM cs1 n) done = .good l cs → SOk p k 0 (freshM cs1 n) → RgB p n → Zer cs1 → (∀ s, s ∈ done → StB p L.length s) → (∀ s, s ∈ l → StB p L.length s) ∧ 0 < l.length
  | 0, _, _, _, _, _, _, h, _, _, _, _ => by simp [mgo] at h
  | f + 1, k, n, cs1, done, l, cs, h, hs, hr, hz, hd => by
    rw [mgo] at h
    split at h
    · cases h
    · rename_i hpc
      split at h
      · cases h
      · split at h
        · cases h
        · rename_i herr
          have hso := step_ok h3 hs hr (insat L (freshM cs1 n).pc.toNat).op (insat L (freshM cs1 n).pc.toNat).a (insat L (freshM cs1 n).pc.toNat).b (insat L (freshM cs1 n).pc.toNat).c
          have hcb : CsB p cs1 := fun j hj => hs.1 j hj
          have hst := step_is (a := (insat L (freshM cs1 n).pc.toNat).a) (b := (insat L (freshM cs1 n).pc.toNat).b) (c := (insat L (freshM cs1 n).pc.toNat).c) (n := n) (insat L (freshM cs1 n).pc.toNat).op h3 hz hr (csB_cvl h3 hcb)
          generalize (insat L (freshM cs1 n).pc.toNat).op = op at *
          generalize (insat L (freshM cs1 n).pc.toNat).a = ia at *
          generalize (insat L (freshM cs1 n).pc.toNat).b = ib at *
          generalize (insat L (freshM cs1 n).pc.toNat).c = ic at *
          obtain ⟨he, hnow⟩ := hst
          have he0 : ((freshM cs1 n).step p op ia ib ic).1.err = 0 := Decidable.byContradiction herr
          obtain ⟨hcs, hnw, _⟩ := hnow (he.symm.trans he0)
          have hzz : Zer ((freshM cs1 n).step p op ia ib ic).1.cs := by
            rw [hcs]
            exact wrk_zer hz (he.symm.trans he0)
          have hcb2 : CsB p ((freshM cs1 n).step p op ia ib ic).1.cs := fun j hj => hso.1.1 j hj
          have hv := csB_cvl h3 hcb2
          have hone : StB p L.length ((freshM cs1 n).step p op ia ib ic).1.now := by
            rw [hnw, ← hcs]
            have hx := cel3_bd h3 op ia ib ic n.fp n.ap
            have hpc' : n.pc < (L.length : Int) := by
              have : ¬ (L.length : Int) ≤ n.pc := hpc
              omega
            refine ⟨rfl, fun j hj => ?_, hpc'⟩
            obtain ⟨r1, r2, r3, r4⟩ := hr
            have : j = 0 ∨ j = 1 ∨ j = 2 ∨ j = 3 ∨ j = 4 ∨ j = 5 ∨ j = 6 ∨ j = 7 ∨ j = 8 ∨ j = 9 := by omega
            rcases this with rfl | rfl | rfl | rfl | rfl | rfl | rfl | rfl | rfl | rfl
            · exact r1
            · exact r2
            · exact r3
            · exact r4
            · exact hx 0
            · exact hx 1
            · exact hx 2
            · exact hv _
            · exact hv _
            · exact hv _
          have hd2 : ∀ s, s ∈ done ++ [((freshM cs1 n).step p op ia ib ic).1.now] → StB p L.length s := fun s hs => by
            rcases List.mem_append.1 hs with h1 | h1
            · exact hd s h1
            · rw [List.mem_singleton] at h1; rw [h1]; exact hone
          split at h
          · injection h with h1 h2
            rw [← h1]
            exact ⟨hd2, by simp⟩
          · exact mgo_steps p L limit h3 f (k + 2) _ _ _ l cs h ⟨hso.1.1, hso.1.2.1, fun _ => Nat.le_refl _⟩ hso.2 hzz hd2
theorem mwalk_steps {p : Nat} {size : Int} {L : List InsZ} {limit : Nat} {l : List (List Int)} {cs : List (Int × Int)} (h3 : 3 ≤ p) (h : mwalk p size L limit = .good l cs) : (∀ s, s ∈ l → StB p L.length s) ∧ 0 < l.length := by
  refine mgo_steps p L limit h3 _ 1 _ _ _ l cs h ⟨fun j hj => ?_, Nat.le_refl _, fun _ => Nat.le_refl _⟩ ⟨⟨Int.le_refl _, by show (0 : Int) < p; omega⟩, ⟨by show (0 : Int) ≤ 1; omega, by show (1 : Int) < p; omega⟩, emod_bounds _ p h3, ⟨Int.le_refl _, by show (0 : Int) < p; omega⟩⟩ ⟨by decide, by decide⟩ (fun s hs => by cases hs)
  have : j = 0 := by simpa [freshM] using hj
  subst this
  show 0 ≤ (0 : Int) ∧ (0 : Int) < p
  omega

end Go.Proofs.YtfppkjpgihnibaaGreat

namespace Go.Proofs.YtfppkjpgihnibaaGreat
open Go.RowKit Go.Maps

/-- the instruction of a step -/
def sin' (L : List InsZ) (s : List Int) : InsZ := insat L (zat s 0).toNat
/-- the registers of a step -/
def rgs (s : List Int) : Rg := ⟨zat s 0, zat s 1, zat s 2, zat s 3⟩
/-- what a step shows -/
structure StpF (p : Nat) (L : List InsZ) (s : List Int) : Prop where
  bd : StB p L.length s
  at3 : ∀ j, j < 3 → zat s (4 + j) = cel3 p (sin' L s).op (sin' L s).a (sin' L s).b (sin' L s).c (zat s 1) (zat s 2) j
  rk : (sin' L s).op = 1 ∨ (sin' L s).op = 2 ∨ (sin' L s).op = 3 ∨ (sin' L s).op = 4 ∨ (sin' L s).op = 6 → zat s 9 = rkn p (sin' L s).op (zat s 7) (zat s 8)
  dv : (sin' L s).op = 4 → zat s 8 ≠ 0
  st : (sin' L s).op = 5 → zat s 7 = (sin' L s).b % (p : Int)
  mu : (sin' L s).op = 7 → zat s 7 = zat s 8
  ca : (sin' L s).op = 10 → zat s 7 = zat s 1 ∧ zat s 8 = (zat s 0 + 1) % (p : Int)
  ta : (sin' L s).op = 12 → zat s 7 = zat s 3
  pa : (sin' L s).op = 13 → zat s 7 = zat s 8
  op : 0 ≤ (sin' L s).op ∧ (sin' L s).op ≤ 13
/-- what comes behind a step -/
def Nxt (p : Nat) (L : List InsZ) (s : List Int) (n : Rg) : Prop := n = mvg p (sin' L s).op (sin' L s).a (sin' L s).b (rgs s) (zat s 7) (zat s 8) (zat s 9)
/-- steps so far -/
structure RnS (p : Nat) (L : List InsZ) (n0 : Rg) (done : List (List Int)) (n : Rg) : Prop where
  fs : ∀ i, i < done.length → StpF p L (rat done i) ∧ (sin' L (rat done i)).op ≠ 0
  nx : ∀ i, i + 1 < done.length → Nxt p L (rat done i) (rgs (rat done (i + 1)))
  lst : 0 < done.length → Nxt p L (rat done (done.length - 1)) n
  f0 : done.length = 0 → n = n0
  f1 : 0 < done.length → rgs (rat done 0) = n0
/-- a run, whole -/
structure RnW (p : Nat) (L : List InsZ) (n0 : Rg) (limit : Nat) (l : List (List Int)) : Prop where
  fs : ∀ i, i < l.length → StpF p L (rat l i)
  nx : ∀ i, i + 1 < l.length → Nxt p L (rat l i) (rgs (rat l (i + 1))) ∧ (sin' L (rat l i)).op ≠ 0
  f1 : rgs (rat l 0) = n0
  len : 0 < l.length ∧ l.length ≤ limit + 1
  hlt : (sin' L (rat l (l.length - 1))).op = 0

theorem rat_left {l : List (List Int)} {x : List Int} {i : Nat} (h : i < l.length) : rat (l ++ [x]) i = rat l i := by simp [rat, List.getElem?_append_left h]
theorem rat_end {l : List (List Int)} {x : List Int} : rat (l ++ [x]) l.length = x := by simp [rat]

theorem wrk_told {p : Nat} {op b : Int} {n : Rg} {cs : List (Int × Int)} (x0 x1 x2 : Int) (h : (wrk p op b x0 x1 x2 n cs).1 = 0) :
    ((op = 1 ∨ op = 2 ∨ op = 3 ∨ op = 4 ∨ op = 6) → cvl (wrk p op b x0 x1 x2 n cs).2 x2 = rkn p op (cvl (wrk p op b x0 x1 x2 n cs).2 x0) (cvl (wrk p op b x0 x1 x2 n cs).2 x1)) ∧
    (op = 4 → cvl (wrk p op b x0 x1 x2 n cs).2 x1 ≠ 0) ∧
    (op = 5 → cvl (wrk p op b x0 x1 x2 n cs).2 x0 = b % (p : Int)) ∧
    (op = 7 → cvl (wrk p op b x0 x1 x2 n cs).2 x0 = cvl (wrk p op b x0 x1 x2 n cs).2 x1) ∧
    (op = 10 → cvl (wrk p op b x0 x1 x2 n cs).2 x0 = n.fp ∧ cvl (wrk p op b x0 x1 x2 n cs).2 x1 = (n.pc + 1) % (p : Int)) ∧
    (op = 12 → cvl (wrk p op b x0 x1 x2 n cs).2 x0 = n.rv) ∧
    (op = 13 → cvl (wrk p op b x0 x1 x2 n cs).2 x0 = cvl (wrk p op b x0 x1 x2 n cs).2 x1) ∧ 0 ≤ op ∧ op ≤ 13 := by
  have key : ∀ {x y : Int} {cs : List (Int × Int)}, (tel cs x y).1 = 0 → cvl (tel cs x y).2 x = y := fun h => tel_is h
  have keep : ∀ {x y u : Int} {cs : List (Int × Int)}, (tel cs x y).1 = 0 → 0 ≤ finz cs u → cvl (tel cs x y).2 u = cvl cs u := fun h hu => (tel_keep h hu).1
  unfold wrk at h ⊢
  by_cases e1 : op = 1 ∨ op = 2 ∨ op = 3 ∨ op = 6
  · rw [if_pos e1] at h ⊢
    by_cases g0 : ¬ 0 ≤ finz cs x0
    · rw [if_pos g0] at h; exact absurd h (by simp)
    · rw [if_neg g0] at h ⊢
      by_cases g1 : ¬ 0 ≤ finz cs x1
      · rw [if_pos g1] at h; exact absurd h (by simp)
      · rw [if_neg g1] at h ⊢
        have g0' := Decidable.not_not.1 g0
        have g1' := Decidable.not_not.1 g1
        refine ⟨fun _ => by rw [key h, keep h g0', keep h g1'], ?_, ?_, ?_, ?_, ?_, ?_, ?_, ?_⟩ <;> first | (intro e; omega) | omega
  rw [if_neg e1] at h ⊢
  by_cases e4 : op = 4
  · rw [if_pos e4] at h ⊢
    by_cases g0 : ¬ 0 ≤ finz cs x0
    · rw [if_pos g0] at h; exact absurd h (by simp)
    · rw [if_neg g0] at h ⊢
      by_cases g1 : ¬ 0 ≤ finz cs x1
      · rw [if_pos g1] at h; exact absurd h (by simp)
      · rw [if_neg g1] at h ⊢
        by_cases g2 : cvl cs x1 = 0
        · rw [if_pos g2] at h; exact absurd h (by simp)
        · rw [if_neg g2] at h ⊢
          have g0' := Decidable.not_not.1 g0
          have g1' := Decidable.not_not.1 g1
          subst e4
          refine ⟨fun _ => by rw [key h, keep h g0', keep h g1'], fun _ => by rw [keep h g1']; exact g2, ?_, ?_, ?_, ?_, ?_, ?_, ?_⟩ <;> first | (intro e; omega) | omega
  rw [if_neg e4] at h ⊢
  by_cases e5 : op = 5
  · rw [if_pos e5] at h ⊢
    refine ⟨?_, ?_, fun _ => key h, ?_, ?_, ?_, ?_, ?_, ?_⟩ <;> first | (intro e; omega) | omega
  rw [if_neg e5] at h ⊢
  by_cases e7 : op = 7
  · rw [if_pos e7] at h ⊢
    by_cases g0 : ¬ 0 ≤ finz cs x0
    · rw [if_pos g0] at h; exact absurd h (by simp)
    · rw [if_neg g0] at h ⊢
      by_cases g1 : ¬ 0 ≤ finz cs x1
      · rw [if_pos g1] at h; exact absurd h (by simp)
      · rw [if_neg g1] at h ⊢
        by_cases g2 : cvl cs x0 = cvl cs x1
        · rw [if_pos g2] at h ⊢
          refine ⟨?_, ?_, ?_, fun _ => g2, ?_, ?_, ?_, ?_, ?_⟩ <;> first | (intro e; omega) | omega
        · rw [if_neg g2] at h; exact absurd h (by simp)
  rw [if_neg e7] at h ⊢
  by_cases e10 : op = 10
  · rw [if_pos e10] at h ⊢
    by_cases g0 : (tel cs x0 n.fp).1 ≠ 0
    · rw [if_pos g0] at h; exact absurd h g0
    · rw [if_neg g0] at h ⊢
      have g0' : (tel cs x0 n.fp).1 = 0 := Decidable.not_not.1 g0
      have hx : 0 ≤ finz (tel cs x0 n.fp).2 x0 := by rw [(tel_same g0').1]; exact tld_finz.2 (.inr rfl)
      refine ⟨?_, ?_, ?_, ?_, fun _ => ⟨by rw [keep h hx, key g0'], key h⟩, ?_, ?_, ?_, ?_⟩ <;> first | (intro e; omega) | omega
  rw [if_neg e10] at h ⊢
  by_cases e11 : op = 11
  · refine ⟨?_, ?_, ?_, ?_, ?_, ?_, ?_, ?_, ?_⟩ <;> first | (intro e; omega) | omega
  rw [if_neg e11] at h ⊢
  by_cases e12 : op = 12
  · rw [if_pos e12] at h ⊢
    refine ⟨?_, ?_, ?_, ?_, ?_, fun _ => key h, ?_, ?_, ?_⟩ <;> first | (intro e; omega) | omega
  rw [if_neg e12] at h ⊢
  by_cases e13 : op = 13
  · rw [if_pos e13] at h ⊢
    by_cases g0 : ¬ 0 ≤ finz cs x0
    · rw [if_pos g0] at h; exact absurd h (by simp)
    · rw [if_neg g0] at h ⊢
      have g0' := Decidable.not_not.1 g0
      refine ⟨?_, ?_, ?_, ?_, ?_, ?_, fun _ => by rw [key h, keep h g0'], ?_, ?_⟩ <;> first | (intro e; omega) | omega
  rw [if_neg e13] at h ⊢
  by_cases e9 : op = 9 ∨ op = 0
  · refine ⟨?_, ?_, ?_, ?_, ?_, ?_, ?_, ?_, ?_⟩ <;> first | (intro e; omega) | omega
  rw [if_neg e9] at h ⊢
  by_cases e8 : op = 8
  · refine ⟨?_, ?_, ?_, ?_, ?_, ?_, ?_, ?_, ?_⟩ <;> first | (intro e; omega) | omega
  rw [if_neg e8] at h
  exact absurd h (by simp)

theorem mgo_run (p : Nat) (L : List InsZ) (limit : Nat) (n0 : Rg) (h3 : 3 ≤ p) : ∀ (f : Nat) (k : Nat) (n : Rg) (cs1 : List (Int × Int)) (done l : List (List Int)) (cs : List (Int × Int)), mgo p L limit f (freshM cs1 n) done = .good l cs → SOk p k 0 (freshM cs1 n) → RgB p n → Zer cs1 → RnS p L n0 done n → done.length ≤ limit → RnW p L n0 limit l
  | 0, _, _, _, _, _, _, h, _, _, _, _, _ => by simp [mgo] at h
  | f + 1, k, n, cs1, done, l, cs, h, hs, hr, hz, hd, hdl => by
    rw [mgo] at h
    split at h
    · cases h
    · rename_i hpc
      split at h
      · cases h
      · rename_i hlong
        split at h
        · cases h
        · rename_i herr
          have hso := step_ok h3 hs hr (insat L (freshM cs1 n).pc.toNat).op (insat L (freshM cs1 n).pc.toNat).a (insat L (freshM cs1 n).pc.toNat).b (insat L (freshM cs1 n).pc.toNat).c
          have hcb : CsB p cs1 := fun j hj => hs.1 j hj
          have hst := step_is (a := (insat L (freshM cs1 n).pc.toNat).a) (b := (insat L (freshM cs1 n).pc.toNat).b) (c := (insat L (freshM cs1 n).pc.toNat).c) (n := n) (insat L (freshM cs1 n).pc.toNat).op h3 hz hr (csB_cvl h3 hcb)
          obtain ⟨o, ho⟩ : ∃ o, o = insat L (freshM cs1 n).pc.toNat := ⟨_, rfl⟩
          rw [← ho] at h hlong herr hso hst
          obtain ⟨he, hnow⟩ := hst
          have he0 : ((freshM cs1 n).step p o.op o.a o.b o.c).1.err = 0 := Decidable.byContradiction herr
          have hw0 := he.symm.trans he0
          obtain ⟨hcs, hnw, hnx⟩ := hnow hw0
          have hzz : Zer ((freshM cs1 n).step p o.op o.a o.b o.c).1.cs := by
            rw [hcs]
            exact wrk_zer hz hw0
          have hcb2 : CsB p ((freshM cs1 n).step p o.op o.a o.b o.c).1.cs := fun j hj => hso.1.1 j hj
          have hv := csB_cvl h3 hcb2
          have htold := wrk_told _ _ _ hw0
          rw [← hcs] at htold hnx hnw
          obtain ⟨S, hS⟩ : ∃ S, S = ((freshM cs1 n).step p o.op o.a o.b o.c).1.now := ⟨_, rfl⟩
          rw [← hS] at h hnw
          have hpc' : n.pc < (L.length : Int) := by
            have : ¬ (L.length : Int) ≤ n.pc := hpc
            omega
          have z0 : zat S 0 = n.pc := by rw [hnw]; rfl
          have z1 : zat S 1 = n.fp := by rw [hnw]; rfl
          have z2 : zat S 2 = n.ap := by rw [hnw]; rfl
          have z3 : zat S 3 = n.rv := by rw [hnw]; rfl
          have hsin : sin' L S = o := by rw [ho]; unfold sin'; rw [z0]; rfl
          have hrg : rgs S = n := by unfold rgs; rw [z0, z1, z2, z3]
          have hbd : StB p L.length S := by
            rw [hnw]
            have hx := cel3_bd h3 o.op o.a o.b o.c n.fp n.ap
            refine ⟨rfl, fun j hj => ?_, hpc'⟩
            obtain ⟨r1, r2, r3, r4⟩ := hr
            have : j = 0 ∨ j = 1 ∨ j = 2 ∨ j = 3 ∨ j = 4 ∨ j = 5 ∨ j = 6 ∨ j = 7 ∨ j = 8 ∨ j = 9 := by omega
            rcases this with rfl | rfl | rfl | rfl | rfl | rfl | rfl | rfl | rfl | rfl
            · exact r1
            · exact r2
            · exact r3
            · exact r4
            · exact hx 0
            · exact hx 1
            · exact hx 2
            · exact hv _
            · exact hv _
            · exact hv _
          have z4 : ∀ j, j < 3 → zat S (4 + j) = cel3 p o.op o.a o.b o.c n.fp n.ap j := fun j hj => by
            rw [hnw]
            have : j = 0 ∨ j = 1 ∨ j = 2 := by omega
            rcases this with rfl | rfl | rfl <;> rfl
          have z7 : zat S 7 = cvl ((freshM cs1 n).step p o.op o.a o.b o.c).1.cs (cel3 p o.op o.a o.b o.c n.fp n.ap 0) := by rw [hnw]; rfl
          have z8 : zat S 8 = cvl ((freshM cs1 n).step p o.op o.a o.b o.c).1.cs (cel3 p o.op o.a o.b o.c n.fp n.ap 1) := by rw [hnw]; rfl
          have z9 : zat S 9 = cvl ((freshM cs1 n).step p o.op o.a o.b o.c).1.cs (cel3 p o.op o.a o.b o.c n.fp n.ap 2) := by rw [hnw]; rfl
          have hSF : StpF p L S := by
            refine ⟨hbd, ?_, ?_, ?_, ?_, ?_, ?_, ?_, ?_, ?_⟩
            all_goals rw [hsin]
            · rw [z1, z2]; exact z4
            · rw [z7, z8, z9]; exact htold.1
            · rw [z8]; exact htold.2.1
            · rw [z7]; exact htold.2.2.1
            · rw [z7, z8]; exact htold.2.2.2.1
            · rw [z7, z8, z1, z0]; exact htold.2.2.2.2.1
            · rw [z7, z3]; exact htold.2.2.2.2.2.1
            · rw [z7, z8]; exact htold.2.2.2.2.2.2.1
            · exact htold.2.2.2.2.2.2.2
          have hNX : ((freshM cs1 n).step p o.op o.a o.b o.c).2 = mvg p (sin' L S).op (sin' L S).a (sin' L S).b (rgs S) (zat S 7) (zat S 8) (zat S 9) := by rw [hsin, hrg, z7, z8, z9]; exact hnx
          have hlen : (done ++ [S]).length = done.length + 1 := by simp
          have hfs : ∀ i, i < (done ++ [S]).length → StpF p L (rat (done ++ [S]) i) := fun i hi => by
            by_cases e : i < done.length
            · rw [rat_left e]; exact (hd.fs i e).1
            · obtain rfl : i = done.length := by omega
              rw [rat_end]; exact hSF
          have hnx2 : ∀ i, i + 1 < (done ++ [S]).length → Nxt p L (rat (done ++ [S]) i) (rgs (rat (done ++ [S]) (i + 1))) ∧ (sin' L (rat (done ++ [S]) i)).op ≠ 0 := fun i hi => by
            rw [rat_left (show i < done.length by omega)]
            refine ⟨?_, (hd.fs i (by omega)).2⟩
            by_cases e : i + 1 < done.length
            · rw [rat_left e]; exact hd.nx i e
            · obtain e2 : i + 1 = done.length := by omega
              rw [e2, rat_end, hrg]
              have := hd.lst (by omega)
              rwa [show done.length - 1 = i by omega] at this
          have hf1 : rgs (rat (done ++ [S]) 0) = n0 := by
            by_cases e : done.length = 0
            · have : done = [] := List.length_eq_zero_iff.1 e
              subst this
              show rgs S = n0
              rw [hrg]; exact hd.f0 e
            · rw [rat_left (by omega)]; exact hd.f1 (by omega)
          split at h
          · rename_i hop
            injection h with h1 h2
            rw [← h1]
            exact ⟨hfs, hnx2, hf1, by omega, by rw [hlen, Nat.add_sub_cancel, rat_end, hsin]; exact hop⟩
          · rename_i hop
            have hlt : done.length ≠ limit := fun e => hlong ⟨e, hop⟩
            refine mgo_run p L limit n0 h3 f (k + 2) _ _ _ l cs h ⟨hso.1.1, hso.1.2.1, fun _ => Nat.le_refl _⟩ hso.2 hzz ⟨fun i hi => ⟨hfs i hi, ?_⟩, fun i hi => (hnx2 i hi).1, fun _ => ?_, fun e => by omega, fun _ => hf1⟩ (by omega)
            · by_cases e : i < done.length
              · rw [rat_left e]; exact (hd.fs i e).2
              · obtain rfl : i = done.length := by omega
                rw [rat_end, hsin]; exact hop
            · rw [hlen, Nat.add_sub_cancel, rat_end]; exact hNX
theorem mwalk_run {p : Nat} {size : Int} {L : List InsZ} {limit : Nat} {l : List (List Int)} {cs : List (Int × Int)} (h3 : 3 ≤ p) (h : mwalk p size L limit = .good l cs) : RnW p L ⟨0, 1, (1 + size) % (p : Int), 0⟩ limit l := by
  refine mgo_run p L limit _ h3 _ 1 _ _ _ l cs h ⟨fun j hj => ?_, Nat.le_refl _, fun _ => Nat.le_refl _⟩ ⟨⟨Int.le_refl _, by show (0 : Int) < p; omega⟩, ⟨by show (0 : Int) ≤ 1; omega, by show (1 : Int) < p; omega⟩, emod_bounds _ p h3, ⟨Int.le_refl _, by show (0 : Int) < p; omega⟩⟩ ⟨by decide, by decide⟩ ⟨fun i hi => absurd hi (Nat.not_lt_zero _), fun i hi => absurd hi (Nat.not_lt_zero _), fun hi => absurd hi (Nat.not_lt_zero _), fun _ => rfl, fun hi => absurd hi (Nat.not_lt_zero _)⟩ (Nat.zero_le _)
  have : j = 0 := by simpa [freshM] using hj
  subst this
  show 0 ≤ (0 : Int) ∧ (0 : Int) < p
  omega

end Go.Proofs.YtfppkjpgihnibaaGreat
