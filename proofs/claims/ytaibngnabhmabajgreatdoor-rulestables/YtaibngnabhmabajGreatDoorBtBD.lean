/- attestref6.Run. Steps of a walk: their bounds. -/
import Derived.Test.YtaibngnabhmabajGreatDoorBtBC
import Derived.Test.YtaibngnabhmabajGreatDoorHeldS
import Derived.Test.YtaibngnabhmabajGreatDoorBtAL
import Derived.Test.YtaibngnabhmabajGreatDoorBtAO
namespace Go.Proofs.YtaibngnabhmabajGreatDoor
open Go.RowKit Go.Maps

/-- what the document's Run gives -/
def RfR (p : Nat) (size : Int) (L : List InsZ) (limit : Int) (w : World) (e : Ending) (w' : World) : Prop := Below w.heap.size w w' ∧
  if fz6 (p : Int) size L.length limit ≠ 0 then e = .returned (.tuple #[.agg #[.int .i64 0, .int .i64 0, .slice none 0 0], .int .i64 (fz6 (p : Int) size L.length limit)])
  else match mwalk p size L limit.toNat with
    | .bad z => e = .returned (.tuple #[.agg #[.int .i64 0, .int .i64 0, .slice none 0 0], .int .i64 z])
    | .good l cs => ∃ v l', e = .returned (.tuple #[.agg #[.int .i64 (outv l), .int .i64 ((l.length - 1 : Nat) : Int), v], .int .i64 0]) ∧ CelR w.heap.size w' v l' ∧ AscC cs l'

theorem mgo_cells (p : Nat) (L : List InsZ) (limit : Nat) (hp : 3 ≤ p) : ∀ (f : Nat) (k : Nat) (n : Rg) (cs1 : List (Int × Int)) (done l : List (List Int)) (cs : List (Int × Int)), mgo p L limit f (freshM cs1 n) done = .good l cs → SOk p k 0 (freshM cs1 n) → RgB p n → cs.length ≤ k + 2 * f
  | 0, _, _, _, _, _, _, h, _, _ => by simp [mgo] at h
  | f + 1, k, n, cs1, done, l, cs, h, hs, hr => by
    rw [mgo] at h
    split at h
    · cases h
    · split at h
      · cases h
      · split at h
        · cases h
        · have hso := step_ok hp hs hr (insat L (freshM cs1 n).pc.toNat).op (insat L (freshM cs1 n).pc.toNat).a (insat L (freshM cs1 n).pc.toNat).b (insat L (freshM cs1 n).pc.toNat).c
          split at h
          · injection h with h1 h2
            rw [← h2]
            have := hso.1.2.1
            omega
          · have := mgo_cells p L limit hp f (k + 2) _ _ _ l cs h ⟨hso.1.1, hso.1.2.1, fun _ => Nat.le_refl _⟩ hso.2
            omega
theorem mwalk_cells {p : Nat} {size : Int} {L : List InsZ} {limit : Nat} {l : List (List Int)} {cs : List (Int × Int)} (hp : 3 ≤ p) (h : mwalk p size L limit = .good l cs) : cs.length ≤ 1 + 2 * (limit + 1) := by
  refine mgo_cells p L limit hp _ 1 _ _ _ l cs h ⟨fun j hj => ?_, Nat.le_refl _, fun _ => Nat.le_refl _⟩ ⟨⟨Int.le_refl _, by show (0 : Int) < p; omega⟩, ⟨by show (0 : Int) ≤ 1; omega, by show (1 : Int) < p; omega⟩, emod_bounds _ p hp, ⟨Int.le_refl _, by show (0 : Int) < p; omega⟩⟩
  have : j = 0 := by simpa [freshM] using hj
  subst this
  show 0 ≤ (0 : Int) ∧ (0 : Int) < p
  omega
/-- what Walk gives, for Run -/
theorem rwalk_cases {p : Nat} {size limit : Int} {aL : Option Addr} {cL : Nat} {L : List InsZ} {w : World} (h3 : 3 ≤ p) (h4 : p ≤ 2147483647) (hn : L.length ≤ 281474976710656) (hl : LstI w.heap.size w aL cL L) (hIB : InsB L) :
    (∃ z, z ≠ 0 ∧ (∀ W, Below w.heap.size w W → Calls Tryz.prog 52 #[.int .i64 p, .agg #[.int .i64 size, .slice aL L.length cL], .int .i64 limit] W fun e W' => e = .returned (.tuple #[.slice none 0 0, .slice none 0 0, .int .i64 z]) ∧ Below W.heap.size W W') ∧
      ∀ w', Below w.heap.size w w' → RfR p size L limit w (.returned (.tuple #[.agg #[.int .i64 0, .int .i64 0, .slice none 0 0], .int .i64 z])) w') ∨
    ∃ l cs, 0 < l.length ∧ l.length ≤ 16385 ∧ cs.length ≤ 4000000 ∧ (∀ u, 0 ≤ finz cs u → 0 ≤ u ∧ u < (p : Int)) ∧ (∀ W, Below w.heap.size w W → Calls Tryz.prog 52 #[.int .i64 p, .agg #[.int .i64 size, .slice aL L.length cL], .int .i64 limit] W fun e W' => ∃ v1 v2, e = .returned (.tuple #[v1, v2, .int .i64 0]) ∧ StR W.heap.size W' v1 l ∧ CelR W.heap.size W' v2 cs ∧ Below W.heap.size W W') ∧
      ∀ w' v l', Below w.heap.size w w' → CelR w.heap.size w' v l' → AscC cs l' → RfR p size L limit w (.returned (.tuple #[.agg #[.int .i64 (outv l), .int .i64 ((l.length - 1 : Nat) : Int), v], .int .i64 0])) w' := by
  by_cases hz : fz6 (p : Int) size L.length limit ≠ 0
  · refine .inl ⟨_, hz, fun W _ => rwalk_bad p size limit aL L.length cL W hn hz, fun w' hb => ⟨hb, by rw [if_pos hz]⟩⟩
  · have hz0 : fz6 (p : Int) size L.length limit = 0 := Decidable.byContradiction hz
    have hfz : 0 ≤ size ∧ size ≤ 65536 ∧ 0 < L.length ∧ L.length ≤ 4096 ∧ L.length ≤ p ∧ 0 ≤ limit ∧ limit ≤ 16384 := by
      unfold fz6 at hz0
      split at hz0
      · omega
      · split at hz0
        · omega
        · refine ⟨by omega, by omega, by omega, by omega, by omega, by omega, by omega⟩
    obtain ⟨m, rfl⟩ := Int.eq_ofNat_of_zero_le hfz.2.2.2.2.2.1
    have hR := fun (W : World) (hb : Below w.heap.size w W) => rwalk_any p m cL size aL L W h3 h4 hfz.1 hfz.2.1 hfz.2.2.1 hfz.2.2.2.1 hfz.2.2.2.2.1 (by omega) hIB ((hl.below hb).mono hb.size)
    cases hX : mwalk p size L m with
    | bad z =>
      rw [hX] at hR
      refine .inl ⟨z, mgo_bad _ _ _ _ _ _ _ hX, fun W hb => (hR W hb).mono ?_, fun w' hb => ⟨hb, by rw [if_neg hz, Int.toNat_natCast, hX]⟩⟩
      rintro e' W' ⟨hb', he⟩
      exact ⟨he, hb'⟩
    | good l cs =>
      rw [hX] at hR
      have hln := mgo_len _ _ _ _ _ _ _ _ hX
      refine .inr ⟨l, cs, hln.1, by have := hln.2; simp at this; omega, ?_, (mwalk_once h3 hX).2.1, fun W hb => (hR W hb).mono ?_, fun w' v l' hb hc ha => ⟨hb, by rw [if_neg hz, Int.toNat_natCast, hX]; exact ⟨v, l', rfl, hc, ha⟩⟩⟩
      · have := mwalk_cells h3 hX
        omega
      · rintro e' W' ⟨hb', v1, v2, he, hs, hc⟩
        exact ⟨v1, v2, he, hs, hc, hb'⟩

theorem cnt_lt {P Q : Int × Int → Bool} : ∀ (cs : List (Int × Int)), (∀ c, P c = true → Q c = true) → (∃ c, c ∈ cs ∧ Q c = true ∧ P c = false) → cs.countP P < cs.countP Q
  | [], _, h => by obtain ⟨c, hc, _⟩ := h; cases hc
  | x :: r, hPQ, h => by
    have hle : r.countP P ≤ r.countP Q := List.countP_mono_left (fun c _ => hPQ c)
    rw [List.countP_cons, List.countP_cons]
    obtain ⟨c, hc, h1, h2⟩ := h
    rcases List.mem_cons.1 hc with rfl | hc
    · rw [h1, h2]
      simp
      omega
    · have := cnt_lt r hPQ ⟨c, hc, h1, h2⟩
      cases hP : P x with
      | true => rw [hPQ x hP]; simp; omega
      | false => simp; omega
theorem oper_append {o : Oper} {a : Act} {w w2 : World} {K : Act → World → Prop} {Q : Exit → Act → World → Prop} (s x : Operand) (tS tX : TypeId)
    (ho : o.op = .call { callee := .builtin .append, args := #[s, x], argTypes := #[tS, tX] }) (v u r : Value) (hs : a.eval s = v) (hx : a.eval x = u) (hrun : (Builtin.append_ #[tS, tX] o.type #[v, u]).run Tryz.prog w = .ok r w2)
    (h : K (a.put o.dst r) w2) : Oper.wp Tryz.prog o a w K Q := by
  unfold Oper.wp
  simp [execOp, ho, resolve, invoke, builtin, hs, hx, hrun, Result.andThen]
  exact h
/-- what stands in Run's loop -/
structure RnI (p RB : Nat) (cs : List (Int × Int)) (o : Int) (k : Nat) (low : Int) (pre : List (Int × Int)) (v : Value) (w1 wr : World) : Prop where
  pr : Pre6 cs low pre
  lt : low < (p : Int)
  r : wr.heap[RB]? = some (.cells #[.int .i64 o, .int .i64 (k : Int), v] 66 (0, 0))
  own : CelR (RB + 1) wr v pre
  bel : Below RB w1 wr
  sz : RB + 1 ≤ wr.heap.size
  len : pre.length ≤ cs.countP (fun c => decide (c.1 ≤ low))

end Go.Proofs.YtaibngnabhmabajGreatDoor

namespace Go.Proofs.YtaibngnabhmabajGreatDoor
open Go.RowKit Go.Maps

/-- a step: ten elements, its instruction is one of nL -/
def StB (p nL : Nat) (s : List Int) : Prop := s.length = 10 ∧ (∀ j, j < 10 → 0 ≤ zat s j ∧ zat s j < (p : Int)) ∧ zat s 0 < (nL : Int)
theorem cel3_bd {p : Nat} (h3 : 3 ≤ p) (op a b c fp ap : Int) (i : Nat) : 0 ≤ cel3 p op a b c fp ap i ∧ cel3 p op a b c fp ap i < (p : Int) := by
  have e : ∀ x : Int, 0 ≤ x % (p : Int) ∧ x % (p : Int) < (p : Int) := fun x => emod_bounds x p h3
  have z : 0 ≤ (0 : Int) ∧ (0 : Int) < (p : Int) := ⟨by decide, by omega⟩
  unfold cel3
  repeat' split
  all_goals first | exact e _ | exact z
theorem mgo_steps (p : Nat) (L : List InsZ) (limit : Nat) (h3 : 3 ≤ p) : ∀ (f : Nat) (k : Nat) (n : Rg) (cs1 : List (Int × Int)) (done l : List (List Int)) (cs : List (Int × Int)), mgo p L limit f (freshM cs1 n) done = .good l cs → SOk p k 0 (freshM cs1 n) → RgB p n → Zer cs1 → (∀ s, s ∈ done → StB p L.length s) → (∀ s, s ∈ l → StB p L.length s) ∧ 0 < l.length
  | 0, _, _, _, _, _, _, h, _, _, _, _ => by simp [mgo] at h
  | f + 1, k, n, cs1, done, l, cs, h, hs, hr, hz, hd => by
    rw [mgo] at h
    split at h
    · cases h
    · rename_i hpc
      split at h
      · cases h
      · split at h
        · cases h
        · rename_i herr
          have hso := step_ok h3 hs hr (insat L (freshM cs1 n).pc.toNat).op (insat L (freshM cs1 n).pc.toNat).a (insat L (freshM cs1 n).pc.toNat).b (insat L (freshM cs1 n).pc.toNat).c
          have hcb : CsB p cs1 := fun j hj => hs.1 j hj
          have hst := step_is (a := (insat L (freshM cs1 n).pc.toNat).a) (b := (insat L (freshM cs1 n).pc.toNat).b) (c := (insat L (freshM cs1 n).pc.toNat).c) (n := n) (insat L (freshM cs1 n).pc.toNat).op h3 hz hr (csB_cvl h3 hcb)
          generalize (insat L (freshM cs1 n).pc.toNat).op = op at *
          generalize (insat L (freshM cs1 n).pc.toNat).a = ia at *
          generalize (insat L (freshM cs1 n).pc.toNat).b = ib at *
          generalize (insat L (freshM cs1 n).pc.toNat).c = ic at *
          obtain ⟨he, hnow⟩ := hst
          have he0 : ((freshM cs1 n).step p op ia ib ic).1.err = 0 := Decidable.byContradiction herr
          obtain ⟨hcs, hnw, _⟩ := hnow (he.symm.trans he0)
          have hzz : Zer ((freshM cs1 n).step p op ia ib ic).1.cs := by
            rw [hcs]
            exact wrk_zer hz (he.symm.trans he0)
          have hcb2 : CsB p ((freshM cs1 n).step p op ia ib ic).1.cs := fun j hj => hso.1.1 j hj
          have hv := csB_cvl h3 hcb2
          have hone : StB p L.length ((freshM cs1 n).step p op ia ib ic).1.now := by
            rw [hnw, ← hcs]
            have hx := cel3_bd h3 op ia ib ic n.fp n.ap
            have hpc' : n.pc < (L.length : Int) := by
              have : ¬ (L.length : Int) ≤ n.pc := hpc
              omega
            refine ⟨rfl, fun j hj => ?_, hpc'⟩
            obtain ⟨r1, r2, r3, r4⟩ := hr
            have : j = 0 ∨ j = 1 ∨ j = 2 ∨ j = 3 ∨ j = 4 ∨ j = 5 ∨ j = 6 ∨ j = 7 ∨ j = 8 ∨ j = 9 := by omega
            rcases this with rfl | rfl | rfl | rfl | rfl | rfl | rfl | rfl | rfl | rfl
            · exact r1
            · exact r2
            · exact r3
            · exact r4
            · exact hx 0
            · exact hx 1
            · exact hx 2
            · exact hv _
            · exact hv _
            · exact hv _
          have hd2 : ∀ s, s ∈ done ++ [((freshM cs1 n).step p op ia ib ic).1.now] → StB p L.length s := fun s hs => by
            rcases List.mem_append.1 hs with h1 | h1
            · exact hd s h1
            · rw [List.mem_singleton] at h1; rw [h1]; exact hone
          split at h
          · injection h with h1 h2
            rw [← h1]
            exact ⟨hd2, by simp⟩
          · exact mgo_steps p L limit h3 f (k + 2) _ _ _ l cs h ⟨hso.1.1, hso.1.2.1, fun _ => Nat.le_refl _⟩ hso.2 hzz hd2
theorem mwalk_steps {p : Nat} {size : Int} {L : List InsZ} {limit : Nat} {l : List (List Int)} {cs : List (Int × Int)} (h3 : 3 ≤ p) (h : mwalk p size L limit = .good l cs) : (∀ s, s ∈ l → StB p L.length s) ∧ 0 < l.length := by
  refine mgo_steps p L limit h3 _ 1 _ _ _ l cs h ⟨fun j hj => ?_, Nat.le_refl _, fun _ => Nat.le_refl _⟩ ⟨⟨Int.le_refl _, by show (0 : Int) < p; omega⟩, ⟨by show (0 : Int) ≤ 1; omega, by show (1 : Int) < p; omega⟩, emod_bounds _ p h3, ⟨Int.le_refl _, by show (0 : Int) < p; omega⟩⟩ ⟨by decide, by decide⟩ (fun s hs => by cases hs)
  have : j = 0 := by simpa [freshM] using hj
  subst this
  show 0 ≤ (0 : Int) ∧ (0 : Int) < p
  omega

end Go.Proofs.YtaibngnabhmabajGreatDoor
