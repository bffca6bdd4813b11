/- attestref6.Run. Steps of a walk: their bounds. Package rules and its reference: what shows that something is not 0. Package rules: a row that shows one step. Package rules: Said, RowsOf, has, brokenIn, isWide. -/
import Derived.Test.YtaibngnabhmabajDoorBbBC
import Derived.Test.YtaibngnabhmabajDoorBbAO
import Derived.Test.YtaibngnabhmabajDoorBbAV
import Derived.Test.YtaibngnabhmabajDoorBbAG
import Derived.Test.YtaibngnabhmabajDoorBbAX
import Derived.Test.YtaibngnabhmabajDoorFld
import Derived.Test.YtaibngnabhmabajDoorBbBB
import Derived.Laws.CopyOwn
import Derived.Deep.RegionLaw
import Derived.Test.YtaibngnabhmabajDoorBbAQ
namespace Go.Proofs.YtaibngnabhmabajDoor
open Go.RowKit Go.Maps

theorem mgo_cells (p : Nat) (L : List InsZ) (limit : Nat) (hp : 3 ≤ p) : ∀ (f : Nat) (k : Nat) (n : Rg) (cs1 : List (Int × Int)) (done l : List (List Int)) (cs : List (Int × Int)), mgo p L limit f (freshM cs1 n) done = .good l cs → SOk p k 0 (freshM cs1 n) → RgB p n → cs.length ≤ k + 2 * f
  | 0, _, _, _, _, _, _, h, _, _ => by simp [mgo] at h
  | f + 1, k, n, cs1, done, l, cs, h, hs, hr => by
    rw [mgo] at h
    split at h
    · cases h
    · split at h
      · cases h
      · split at h
        · cases h
        · have hso := step_ok hp hs hr (insat L (freshM cs1 n).pc.toNat).op (insat L (freshM cs1 n).pc.toNat).a (insat L (freshM cs1 n).pc.toNat).b (insat L (freshM cs1 n).pc.toNat).c
          split at h
          · injection h with h1 h2
            rw [← h2]
            have := hso.1.2.1
            omega
          · have := mgo_cells p L limit hp f (k + 2) _ _ _ l cs h ⟨hso.1.1, hso.1.2.1, fun _ => Nat.le_refl _⟩ hso.2
            omega
theorem mwalk_cells {p : Nat} {size : Int} {L : List InsZ} {limit : Nat} {l : List (List Int)} {cs : List (Int × Int)} (hp : 3 ≤ p) (h : mwalk p size L limit = .good l cs) : cs.length ≤ 1 + 2 * (limit + 1) := by
  refine mgo_cells p L limit hp _ 1 _ _ _ l cs h ⟨fun j hj => ?_, Nat.le_refl _, fun _ => Nat.le_refl _⟩ ⟨⟨Int.le_refl _, by show (0 : Int) < p; omega⟩, ⟨by show (0 : Int) ≤ 1; omega, by show (1 : Int) < p; omega⟩, emod_bounds _ p hp, ⟨Int.le_refl _, by show (0 : Int) < p; omega⟩⟩
  have : j = 0 := by simpa [freshM] using hj
  subst this
  show 0 ≤ (0 : Int) ∧ (0 : Int) < p
  omega
theorem cnt_lt {P Q : Int × Int → Bool} : ∀ (cs : List (Int × Int)), (∀ c, P c = true → Q c = true) → (∃ c, c ∈ cs ∧ Q c = true ∧ P c = false) → cs.countP P < cs.countP Q
  | [], _, h => by obtain ⟨c, hc, _⟩ := h; cases hc
  | x :: r, hPQ, h => by
    have hle : r.countP P ≤ r.countP Q := List.countP_mono_left (fun c _ => hPQ c)
    rw [List.countP_cons, List.countP_cons]
    obtain ⟨c, hc, h1, h2⟩ := h
    rcases List.mem_cons.1 hc with rfl | hc
    · rw [h1, h2]
      simp
      omega
    · have := cnt_lt r hPQ ⟨c, hc, h1, h2⟩
      cases hP : P x with
      | true => rw [hPQ x hP]; simp; omega
      | false => simp; omega
theorem oper_append {o : Oper} {a : Act} {w w2 : World} {K : Act → World → Prop} {Q : Exit → Act → World → Prop} (s x : Operand) (tS tX : TypeId)
    (ho : o.op = .call { callee := .builtin .append, args := #[s, x], argTypes := #[tS, tX] }) (v u r : Value) (hs : a.eval s = v) (hx : a.eval x = u) (hrun : (Builtin.append_ #[tS, tX] o.type #[v, u]).run Tryd.prog w = .ok r w2)
    (h : K (a.put o.dst r) w2) : Oper.wp Tryd.prog o a w K Q := by
  unfold Oper.wp
  simp [execOp, ho, resolve, invoke, builtin, hs, hx, hrun, Result.andThen]
  exact h
end Go.Proofs.YtaibngnabhmabajDoor

namespace Go.Proofs.YtaibngnabhmabajDoor
open Go.RowKit Go.Maps

/-- a step: ten elements, its instruction is one of nL -/
def StB (p nL : Nat) (s : List Int) : Prop := s.length = 10 ∧ (∀ j, j < 10 → 0 ≤ zat s j ∧ zat s j < (p : Int)) ∧ zat s 0 < (nL : Int)
theorem cel3_bd {p : Nat} (h3 : 3 ≤ p) (op a b c fp ap : Int) (i : Nat) : 0 ≤ cel3 p op a b c fp ap i ∧ cel3 p op a b c fp ap i < (p : Int) := by
  have e : ∀ x : Int, 0 ≤ x % (p : Int) ∧ x % (p : Int) < (p : Int) := fun x => emod_bounds x p h3
  have z : 0 ≤ (0 : Int) ∧ (0 : Int) < (p : Int) := ⟨by decide, by omega⟩
  unfold cel3
  repeat' split
  all_goals first | exact e _ | exact z
theorem mgo_steps (p : Nat) (L : List InsZ) (limit : Nat) (h3 : 3 ≤ p) : ∀ (f : Nat) (k : Nat) (n : Rg) (cs1 : List (Int × Int)) (done l : List (List Int)) (cs : List (Int × Int)), mgo p L limit f (freshM cs1 n) done = .good l cs → SOk p k 0 (freshM cs1 n) → RgB p n → Zer cs1 → (∀ s, s ∈ done → StB p L.length s) → (∀ s, s ∈ l → StB p L.length s) ∧ 0 < l.length
  | 0, _, _, _, _, _, _, h, _, _, _, _ => by simp [mgo] at h
  | f + 1, k, n, cs1, done, l, cs, h, hs, hr, hz, hd => by
    rw [mgo] at h
    split at h
    · cases h
    · rename_i hpc
      split at h
      · cases h
      · split at h
        · cases h
        · rename_i herr
          have hso := step_ok h3 hs hr (insat L (freshM cs1 n).pc.toNat).op (insat L (freshM cs1 n).pc.toNat).a (insat L (freshM cs1 n).pc.toNat).b (insat L (freshM cs1 n).pc.toNat).c
          have hcb : CsB p cs1 := fun j hj => hs.1 j hj
          have hst := step_is (a := (insat L (freshM cs1 n).pc.toNat).a) (b := (insat L (freshM cs1 n).pc.toNat).b) (c := (insat L (freshM cs1 n).pc.toNat).c) (n := n) (insat L (freshM cs1 n).pc.toNat).op h3 hz hr (csB_cvl h3 hcb)
          generalize (insat L (freshM cs1 n).pc.toNat).op = op at *
          generalize (insat L (freshM cs1 n).pc.toNat).a = ia at *
          generalize (insat L (freshM cs1 n).pc.toNat).b = ib at *
          generalize (insat L (freshM cs1 n).pc.toNat).c = ic at *
          obtain ⟨he, hnow⟩ := hst
          have he0 : ((freshM cs1 n).step p op ia ib ic).1.err = 0 := Decidable.byContradiction herr
          obtain ⟨hcs, hnw, _⟩ := hnow (he.symm.trans he0)
          have hzz : Zer ((freshM cs1 n).step p op ia ib ic).1.cs := by
            rw [hcs]
            exact wrk_zer hz (he.symm.trans he0)
          have hcb2 : CsB p ((freshM cs1 n).step p op ia ib ic).1.cs := fun j hj => hso.1.1 j hj
          have hv := csB_cvl h3 hcb2
          have hone : StB p L.length ((freshM cs1 n).step p op ia ib ic).1.now := by
            rw [hnw, ← hcs]
            have hx := cel3_bd h3 op ia ib ic n.fp n.ap
            have hpc' : n.pc < (L.length : Int) := by
              have : ¬ (L.length : Int) ≤ n.pc := hpc
              omega
            refine ⟨rfl, fun j hj => ?_, hpc'⟩
            obtain ⟨r1, r2, r3, r4⟩ := hr
            have : j = 0 ∨ j = 1 ∨ j = 2 ∨ j = 3 ∨ j = 4 ∨ j = 5 ∨ j = 6 ∨ j = 7 ∨ j = 8 ∨ j = 9 := by omega
            rcases this with rfl | rfl | rfl | rfl | rfl | rfl | rfl | rfl | rfl | rfl
            · exact r1
            · exact r2
            · exact r3
            · exact r4
            · exact hx 0
            · exact hx 1
            · exact hx 2
            · exact hv _
            · exact hv _
            · exact hv _
          have hd2 : ∀ s, s ∈ done ++ [((freshM cs1 n).step p op ia ib ic).1.now] → StB p L.length s := fun s hs => by
            rcases List.mem_append.1 hs with h1 | h1
            · exact hd s h1
            · rw [List.mem_singleton] at h1; rw [h1]; exact hone
          split at h
          · injection h with h1 h2
            rw [← h1]
            exact ⟨hd2, by simp⟩
          · exact mgo_steps p L limit h3 f (k + 2) _ _ _ l cs h ⟨hso.1.1, hso.1.2.1, fun _ => Nat.le_refl _⟩ hso.2 hzz hd2
theorem mwalk_steps {p : Nat} {size : Int} {L : List InsZ} {limit : Nat} {l : List (List Int)} {cs : List (Int × Int)} (h3 : 3 ≤ p) (h : mwalk p size L limit = .good l cs) : (∀ s, s ∈ l → StB p L.length s) ∧ 0 < l.length := by
  refine mgo_steps p L limit h3 _ 1 _ _ _ l cs h ⟨fun j hj => ?_, Nat.le_refl _, fun _ => Nat.le_refl _⟩ ⟨⟨Int.le_refl _, by show (0 : Int) < p; omega⟩, ⟨by show (0 : Int) ≤ 1; omega, by show (1 : Int) < p; omega⟩, emod_bounds _ p h3, ⟨Int.le_refl _, by show (0 : Int) < p; omega⟩⟩ ⟨by decide, by decide⟩ (fun s hs => by cases hs)
  have : j = 0 := by simpa [freshM] using hj
  subst this
  show 0 ≤ (0 : Int) ∧ (0 : Int) < p
  omega

end Go.Proofs.YtaibngnabhmabajDoor

namespace Go.Proofs.YtaibngnabhmabajDoor
open Go.RowKit

/-- what shows that something is not 0 -/
def hlp (p : Nat) (op i0 i1 : Int) : Int := if op = 4 then (invn p i1 : Int) else if op = 6 then (invn p ((i0 - i1) % (p : Int)) : Int) else if op = 9 then (invn p i0 : Int) else 0

end Go.Proofs.YtaibngnabhmabajDoor

namespace Go.Proofs.YtaibngnabhmabajDoor
open Go.RowKit Go.Maps

/-- a row of numbers that is a block, whole -/
def BRow (g : Nat) (w : World) (l : List Int) : Prop := w.heap[g]? = some (.cells (l.map (Value.int .i64)).toArray 3 (0, 0))
theorem BRow.rowIs {g : Nat} {w : World} {l : List Int} (h : BRow g w l) : w.rowIs g 3 l.length (fun i => .int .i64 (zat l i)) :=
  ⟨_, h, by simp, fun i hi => by simp [zat, hi]⟩
theorem brow_of {g : Nat} {w : World} {l : List Int} (h : w.rowIs g 3 l.length (fun i => .int .i64 (zat l i))) : BRow g w l := by
  obtain ⟨c, hb, hs, hc⟩ := h
  unfold BRow
  rw [hb]
  congr 2
  apply Array.ext
  · simpa using hs
  · intro i h1 h2
    have h4 : i < l.length := by simpa using h2
    have := hc i h4
    rw [Array.getElem?_eq_getElem h1] at this
    injection this with this
    rw [this]
    simp [zat, h4]
theorem BRow.set {g : Nat} {w : World} {l : List Int} (h : BRow g w l) {k : Nat} (x : Int) (hk : k < l.length) : BRow g (w.setCell ⟨g, k, none⟩ (.int .i64 x)) (l.set k x) := by
  apply brow_of
  rw [List.length_set]
  have := h.rowIs.set k (.int .i64 x)
  obtain ⟨c, h1, h2, h3⟩ := this
  refine ⟨c, h1, h2, fun i hi => ?_⟩
  rw [h3 i hi]
  show some (if i = k then Value.int .i64 x else .int .i64 (zat l i)) = some (.int .i64 (zat (l.set k x) i))
  rw [zat_set hk]
  split <;> rfl
theorem BRow.row {g : Nat} {w : World} {l : List Int} (h : BRow g w l) : IRow g w l :=
  ⟨(Array.getElem?_eq_some_iff.1 h).1, fun k hk => by simp [World.cell?, show w.heap[g]? = _ from h, zat, hk], fun j => by simp [World.frozen?, show w.heap[g]? = _ from h]⟩
theorem BRow.block {g : Nat} {w w' : World} {l : List Int} (h : BRow g w l) (e : w'.heap[g]? = w.heap[g]?) : BRow g w' l := e.trans h
theorem made_zero (n : Nat) : (madeCells (Value.int .i64 0).cells (n * 1)).toList = (List.replicate n (0 : Int)).map (Value.int .i64) := by
  apply List.ext_getElem?
  intro i
  by_cases h : i < n
  · simp [madeCells, h]
    show (#[Value.int .i64 0])[i % 1]! = _
    rw [Nat.mod_one]
    rfl
  · simp [madeCells, h]
theorem brow_made {base g n : Nat} {w : World} (h : w.ownsRow base 3 1 (.slice (some ⟨g, 0, none⟩) n n) n (madeCells (Value.int .i64 0).cells (n * 1)).toList) : BRow g w (List.replicate n 0) := by
  rcases h.2 with ⟨e, _⟩ | ⟨g', cap, cur, e1, _, hg, _, _, hs, ht⟩
  · cases e
  · injection e1 with e1 _ e3
    injection e1 with e1
    injection e1 with e1
    subst e1 e3
    unfold BRow
    rw [hg]
    congr 2
    rw [made_zero] at ht
    apply Array.toList_inj.1
    rw [← ht, List.take_of_length_le (by simp; omega)]
theorem splice_three (l : List Value) (o : Nat) (a b c : Value) (h : o + 3 ≤ l.length) : splice l o [a, b, c] = ((l.set o a).set (o + 1) b).set (o + 2) c := by
  apply List.ext_getElem?
  intro i
  unfold splice
  simp only [List.getElem?_append, List.getElem?_set, List.length_take, List.getElem?_take, List.getElem?_drop, List.length_set, List.length_cons, List.length_nil]
  by_cases h1 : i < o
  · rw [if_pos (by omega), if_pos h1, if_neg (by omega), if_neg (by omega), if_neg (by omega)]
  · rw [if_neg (by omega)]
    by_cases h2 : i = o
    · subst h2; simp [show min i l.length = i by omega]; omega
    · by_cases h3 : i = o + 1
      · subst h3; simp [show min o l.length = o by omega]; omega
      · by_cases h4 : i = o + 2
        · subst h4; simp [show min o l.length = o by omega]; omega
        · rw [if_neg (by omega), if_neg (by omega), if_neg (by omega), if_neg (by omega)]
          congr 1
          omega
theorem brow_spl {g o : Nat} {w : World} {l : List Int} {a b c : Int} (h : w.heap[g]? = some (.cells (splice (l.map (Value.int .i64)) o [.int .i64 a, .int .i64 b, .int .i64 c]).toArray 3 (0, 0))) (ho : o + 3 ≤ l.length) : BRow g w (((l.set o a).set (o + 1) b).set (o + 2) c) := by
  rw [splice_three _ _ _ _ _ (by simpa using ho)] at h
  unfold BRow
  rw [h]
  simp [List.map_set]

/-- a row that shows a step -/
def srow (p nL : Nat) (op : Int) (s : List Int) : List Int :=
  (((((((((((List.replicate (20 + nL) (0 : Int)).set 0 (zat s 1)).set 1 (zat s 2)).set 2 (zat s 3)).set 3 (zat s 4)).set 4 (zat s 5)).set 5 (zat s 6)).set 7 (zat s 7)).set 8 (zat s 8)).set 9 (zat s 9)).set 11 (hlp p op (zat s 7) (zat s 8))).set (20 + (zat s 0).toNat) 1
theorem srow_len (p nL : Nat) (op : Int) (s : List Int) : (srow p nL op s).length = 20 + nL := by simp [srow]

set_option maxRecDepth 100000 in
set_option maxHeartbeats 1000000 in
theorem pwidth_any (size : Int) (aL : Option Addr) (nL cL : Nat) (w : World) (hn : nL ≤ 281474976710656) :
    Calls Tryd.prog 13 #[.agg #[.int .i64 size, .slice aL nL cL]] w fun e w' => e = .returned (.int .i64 ((20 + nL : Nat) : Int)) ∧ Below w.heap.size w w' := by
  obtain ⟨W0, hW0⟩ : ∃ W0, W0 = w.alloc (.cells #[.int .i64 size, .slice aL nL cL] 24) := ⟨_, rfl⟩
  have hb0 : Below w.heap.size w W0 := by rw [hW0]; exact (Below.refl _ _).alloc (Nat.le_refl _) _
  have hs0 : W0.heap[w.heap.size]? = some (.cells #[.int .i64 size, .slice aL nL cL] 24 (0, 0)) := by rw [hW0]; exact heap_alloc_new w _
  have k1 : W0.cell? ⟨w.heap.size, 1, none⟩ = some (.slice aL nL cL) := by simp [World.cell?, hs0]
  have HB0 := hid hb0
  have hwr : IntKind.i64.wrap (20 + (nL : Int)) = ((20 + nL : Nat) : Int) := by rw [IntKind.wrap_i64]; omega
  clear hb0 hs0
  go_enter Tryd.func13, Tryd.ntmps13
  go_wp2_with fail
  rw [← hW0]
  clear hW0
  go_wp2_with fail
  go_ret
  exact ⟨by first | rfl | simp, HB0.out⟩

end Go.Proofs.YtaibngnabhmabajDoor

namespace Go.Proofs.YtaibngnabhmabajDoor
open Go.RowKit Go.Maps

/-- code as an argument -/
def codV (size : Int) (aL : Option Addr) (nL cL : Nat) : Value := .agg #[.int .i64 size, .slice aL nL cL]

theorem ownsRow_base {w : World} {b1 b2 : Nat} {t : TypeId} {k : Nat} {v : Value} {n : Nat} {xs : List Value} (h : w.ownsRow b1 t k v n xs) (hb : b2 ≤ b1) : w.ownsRow b2 t k v n xs := by
  refine ⟨h.1, ?_⟩
  rcases h.2 with h1 | ⟨g, cap, cur, h1, h2, h3⟩
  · exact .inl h1
  · exact .inr ⟨g, cap, cur, h1, Nat.le_trans hb h2, h3⟩

set_option maxRecDepth 100000 in
set_option maxHeartbeats 4000000 in
theorem psaid_any (p b : Nat) (L : List InsZ) (size out : Int) (r n : List Int) (aL : Option Addr) (cL : Nat) (ar : Option Addr) (cr : Nat) (an : Option Addr) (cn : Nat) (w : World) (H : VF p L size out r n) (hp : w.cell? ⟨b, 0, none⟩ = some (.int .i64 p)) (hI : LstI w.heap.size w aL cL L) (hr : RowB w.heap.size w ar r) (hn : RowB w.heap.size w an n) :
    Calls Tryd.prog 20 #[.pointer (some ⟨b, 0, none⟩), .agg #[.int .i64 size, .slice aL L.length cL], .int .i64 out, .slice ar r.length cr, .slice an n.length cn] w fun e w' => ∃ v, e = .returned v ∧ w'.ownsRow w.heap.size 3 1 v (rls p L size out r n).length ((rls p L size out r n).map (Value.int .i64)) ∧ Below w.heap.size w w' := by
  obtain ⟨R, hR⟩ : ∃ R : Ending → World → Prop, R = fun e w' => ∃ v, e = .returned v ∧ w'.ownsRow w.heap.size 3 1 v (rls p L size out r n).length ((rls p L size out r n).map (Value.int .i64)) ∧ Below w.heap.size w w' := ⟨_, rfl⟩
  rw [← hR]
  have HRR : Hid (∀ v W, W.ownsRow w.heap.size 3 1 v (rls p L size out r n).length ((rls p L size out r n).map (Value.int .i64)) → Below w.heap.size w W → R (.returned v) W) := fun v W h1 h2 => by rw [hR]; exact ⟨v, rfl, h1, h2⟩
  obtain ⟨W0, hW0⟩ : ∃ W0, W0 = w.alloc (.cells #[.int .i64 size, .slice aL L.length cL] 24) := ⟨_, rfl⟩
  have hb0 : Below w.heap.size w W0 := by rw [hW0]; exact (Below.refl _ _).alloc (Nat.le_refl _) _
  have hs0 : W0.heap[w.heap.size]? = some (.cells #[.int .i64 size, .slice aL L.length cL] 24 (0, 0)) := by rw [hW0]; exact heap_alloc_new w _
  have hCl : w.heap.size < W0.heap.size := (Array.getElem?_eq_some_iff.1 hs0).1
  have HB0 := hid hb0
  have HH := hid H
  have HCO : Hid (∀ W, Below W0.heap.size W0 W → W.cell? ⟨w.heap.size, 0, none⟩ = some (.int .i64 size) ∧ W.cell? ⟨w.heap.size, 1, none⟩ = some (.slice aL L.length cL)) := fun W h => by
    have := (h.block w.heap.size hCl).trans hs0
    exact ⟨by simp [World.cell?, this], by simp [World.cell?, this]⟩
  have HVW : Hid (∀ W G, Below w.heap.size w W → W.heap[G]? = some (.cells #[.pointer (some ⟨b, 0, none⟩), .int .i64 size, .slice aL L.length cL, .int .i64 out, .slice ar r.length cr, .slice an n.length cn] 65 (0, 0)) → VW p b G L size out r n aL cL ar cr an cn W) := fun W G h hG =>
    ⟨hG, (h.cell (p := ⟨b, 0, none⟩) (World.block_lt_of_cell? _ _ hp)).trans hp, (hI.below h).mono h.size, RowB.mono h.size (RowB.below h hr), RowB.mono h.size (RowB.below h hn)⟩
  have HWD := hid (fun W => pwidth_any size aL L.length cL W (by have := H.hl; omega))
  obtain ⟨nL, hnL⟩ : ∃ nL, nL = L.length := ⟨_, rfl⟩
  have hn0 : ((nL : Int) == 0) = false := by rw [beq_eq_false_iff_ne]; have := H.h1; omega
  have er : r.length = 20 + nL := by rw [hnL]; exact H.hr
  have en : n.length = 20 + nL := by rw [hnL]; exact H.hn
  rw [← hnL] at hW0 HCO HWD HVW ⊢
  rw [er, en] at HVW ⊢
  obtain ⟨m, hm⟩ : ∃ m, m = 20 + nL := ⟨_, rfl⟩
  rw [← hm] at HVW HWD ⊢
  have qm : ((m : Int) == (m : Int)) = true := by simp
  have qm2 : ((m : Int) != (m : Int)) = false := by simp
  have HSA := hid (fun W G (h : VW p b G L size out r n aL cL ar cr an cn W) => vsaid_any p b G L size out r n aL cL ar cr an cn W HH.out h)
  have HM : Hid (r.length = m ∧ n.length = m) := ⟨by rw [er, hm], by rw [en, hm]⟩
  clear hR hp hI hr hn H hnL hs0 hb0 er en hm
  go_enter Tryd.func20, Tryd.ntmps20
  go_wp2_with fail
  rw [← hW0]
  obtain ⟨k0, k1⟩ := HCO.out W0 (Below.refl _ _)
  clear hW0
  go_wp2_with fail
  refine (HWD.out _).mono ?_
  rintro e w1 ⟨rfl, hb1⟩
  have HB1 := hid hb1
  obtain ⟨k0', k1'⟩ := HCO.out w1 hb1
  clear hb1 k0 k1
  go_wp2_with fail
  refine (HWD.out _).mono ?_
  rintro e w2 ⟨rfl, hb2⟩
  have HB2 := hid (HB1.out.trans (hb2.mono HB1.out.size))
  obtain ⟨k0, k1⟩ := HCO.out w2 HB2.out
  obtain ⟨W3, hW3⟩ : ∃ W3, W3 = w2.alloc (.cells #[.pointer (some ⟨b, 0, none⟩), .int .i64 size, .slice aL nL cL, .int .i64 out, .slice ar m cr, .slice an m cn] 65) := ⟨_, rfl⟩
  have hb3 : Below w2.heap.size w2 W3 := by rw [hW3]; exact (Below.refl _ _).alloc (Nat.le_refl _) _
  have hb02 := HB0.out.trans (HB2.out.mono HB0.out.size)
  have hb03 := hb02.trans (hb3.mono hb02.size)
  have HB3 := hid hb03
  have hVW := HVW.out W3 w2.heap.size hb03 (by rw [hW3]; exact heap_alloc_new w2 _)
  have HS3 := hid (HSA.out W3 w2.heap.size hVW)
  clear hb2 hb3 hb02 hb03 hVW k0' k1' HB1 HSA HVW
  go_wp2_with fail
  rw [← hW3]
  clear hW3 k0 k1
  refine HS3.out.mono ?_
  rintro e w4 ⟨v, rfl, hsd⟩
  have HE := hid (HRR.out v w4 (ownsRow_base hsd.own HB3.out.size) (HB3.out.trans (hsd.bel.mono HB3.out.size)))
  clear hsd HS3
  go_wp2_with fail
  exact HE.out

end Go.Proofs.YtaibngnabhmabajDoor
