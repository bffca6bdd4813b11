/- attestref6: the cells that are told, and the machine's own words. attestref6: shown, look, tell, must. attestref6: look, tell, must. attestref6: tell, reckoned. -/
import Derived.Test.YtaibngnabhmabajGreatDoorFld
import Derived.StillTailTactics
namespace Go.Proofs.YtaibngnabhmabajGreatDoor
open Go.RowKit

/-- cells, as they lie in memory -/
def celv : List (Int × Int) → List Value
  | [] => []
  | c :: r => .int .i64 c.1 :: .int .i64 c.2 :: celv r
def cat (cs : List (Int × Int)) (j : Nat) : Int × Int := cs.getD j (0, 0)
theorem celv_len : ∀ cs, (celv cs).length = cs.length * 2
  | [] => rfl
  | c :: r => by simp [celv, celv_len r]; omega
theorem celv_app : ∀ cs ds, celv (cs ++ ds) = celv cs ++ celv ds
  | [], ds => rfl
  | c :: r, ds => by simp [celv, celv_app r ds]
theorem celv_at : ∀ (cs : List (Int × Int)) (j : Nat), j < cs.length → (celv cs)[j * 2]? = some (.int .i64 (cat cs j).1) ∧ (celv cs)[j * 2 + 1]? = some (.int .i64 (cat cs j).2)
  | [], _, h => absurd h (Nat.not_lt_zero _)
  | c :: r, 0, _ => ⟨rfl, rfl⟩
  | c :: r, j + 1, h => by
    have ih := celv_at r j (by simpa using h)
    have e1 : (j + 1) * 2 = j * 2 + 2 := by omega
    rw [e1]
    exact ih
/-- the place of a cell; -1: there is none -/
def finz (cs : List (Int × Int)) (x : Int) : Int := match cs.findIdx? (fun c => c.1 == x) with
  | some i => i
  | none => -1
theorem finz_hit {cs : List (Int × Int)} {x : Int} {i : Nat} (hi : i < cs.length) (hx : (cat cs i).1 = x) (hn : ∀ j, j < i → (cat cs j).1 ≠ x) : finz cs x = i := by
  have h : cs.findIdx? (fun c => c.1 == x) = some i := by
    rw [List.findIdx?_eq_some_iff_getElem]
    refine ⟨hi, by simpa [cat, hi] using hx, fun j hj => ?_⟩
    have := hn j hj
    have hj' : j < cs.length := by omega
    simpa [cat, hj'] using this
  unfold finz
  rw [h]
theorem finz_miss {cs : List (Int × Int)} {x : Int} (hn : ∀ j, j < cs.length → (cat cs j).1 ≠ x) : finz cs x = -1 := by
  have h : cs.findIdx? (fun c => c.1 == x) = none := by
    rw [List.findIdx?_eq_none_iff]
    intro c hc
    obtain ⟨j, hj, rfl⟩ := List.getElem_of_mem hc
    have := hn j hj
    simpa [cat, hj] using this
  unfold finz
  rw [h]
/-- cells of the call's own -/
def CelR (base : Nat) (w : World) (v : Value) (cs : List (Int × Int)) : Prop := w.ownsRow base 149 2 v cs.length (celv cs)
theorem CelR.form {base : Nat} {w : World} {v : Value} {cs : List (Int × Int)} (h : CelR base w v cs) : ∃ a c, v = .slice a cs.length c := by
  obtain ⟨_, h2⟩ := h
  rcases h2 with ⟨rfl, h0⟩ | ⟨g, cap, cur, rfl, _⟩
  · exact ⟨none, 0, by rw [h0]⟩
  · exact ⟨_, _, rfl⟩
theorem CelR.at {base : Nat} {w : World} {v : Value} {cs : List (Int × Int)} (h : CelR base w v cs) {j : Nat} (hj : j < cs.length) : ∃ g cap, v = .slice (some ⟨g, 0, none⟩) cs.length cap ∧ base ≤ g ∧ w.cell? ⟨g, j * 2, none⟩ = some (.int .i64 (cat cs j).1) ∧ w.cell? ⟨g, j * 2 + 1, none⟩ = some (.int .i64 (cat cs j).2) := by
  have h' := h
  obtain ⟨_, h2⟩ := h
  rcases h2 with ⟨rfl, h0⟩ | ⟨g, cap, cur, rfl, hb, hg, hn, hm, hs, ht⟩
  · omega
  · have hc : ∀ j u, (celv cs)[j]? = some u → w.cell? ⟨g, j, none⟩ = some u := fun j u hu => by
      have := World.ownsRow.cells h' (g := g) rfl j u hu
      have hadd : (⟨g, 0, none⟩ : Addr).add j = ⟨g, 0 + j, none⟩ := by unfold Addr.add; split <;> simp_all
      rw [hadd, Nat.zero_add] at this
      exact this
    exact ⟨g, cap, rfl, hb, hc _ _ (celv_at cs j hj).1, hc _ _ (celv_at cs j hj).2⟩

set_option maxRecDepth 100000 in
set_option maxHeartbeats 1000000 in
theorem rfind_any (M base : Nat) (v : Value) (cs : List (Int × Int)) (x : Int) (w : World) (hc : w.cell? ⟨M, 1, none⟩ = some v) (hr : CelR base w v cs) (hl : cs.length ≤ 1000000) :
    Calls Tryz.prog 184 #[.pointer (some ⟨M, 0, none⟩), .int .i64 x] w fun e w' => e = .returned (.int .i64 (finz cs x)) ∧ w' = w := by
  have HR := hid hr
  obtain ⟨a, c, rfl⟩ := hr.form
  obtain ⟨n, hn⟩ : ∃ n, n = cs.length := ⟨_, rfl⟩
  have HN := hid hn
  rw [← hn] at hc hl
  obtain ⟨z, hz⟩ : ∃ z, z = finz cs x := ⟨_, rfl⟩
  have HZ := hid hz
  rw [← hz]
  clear hr hn hz
  go_enter Tryz.func184, Tryz.ntmps184
  go_wp2_with fail
  go_loop [5] (fun iv => ∃ i : Nat, i ≤ n ∧ iv = .int .i64 (i : Int) ∧ Hid (∀ j, j < i → (cat cs j).1 ≠ x)) (fun iv => n - (intOf iv).toNat)
  case atStart => exact ⟨0, Nat.zero_le _, rfl, fun j hj => absurd hj (Nat.not_lt_zero _)⟩
  case round =>
    obtain ⟨i, hi, rfl, hI⟩ := hrel
    by_cases hlt : i < n
    · have hlt2 : (i : Int) < (n : Int) := by omega
      have his : IntKind.i64.wrap ((i : Int) + 1) = (i : Int) + 1 := by rw [IntKind.wrap_i64]; omega
      obtain ⟨g, cap, hv, hb, h1, h2⟩ := HR.out.at (j := i) (by rw [← HN.out]; exact hlt)
      have ha : a = some ⟨g, 0, none⟩ := by injection hv
      clear hv h2
      subst ha
      obtain ⟨y, hy⟩ : ∃ y, y = (cat cs i).1 := ⟨_, rfl⟩
      rw [← hy] at h1
      have HY := hid hy
      clear hy
      by_cases hxy : y = x
      · have hxb : (y == x) = true := by simp [hxy]
        have HE : Hid (z = (i : Int)) := by unfold Hid; rw [HZ.out]; exact finz_hit (by rw [← HN.out]; exact hlt) (by rw [← HY.out]; exact hxy) hI.out
        clear hxy hI
        go_wp2_with fail
        go_ret
        rw [HE.out]
        exact ⟨rfl, rfl⟩
      · have hxb : (y == x) = false := by simp [hxy]
        have HI2 : Hid (∀ j, j < i + 1 → (cat cs j).1 ≠ x) := fun j hj => by
          by_cases e : j = i
          · rw [e, ← HY.out]; exact hxy
          · exact hI.out j (by omega)
        clear hxy hI
        go_wp2_with fail
        go_round
        case rel => exact ⟨i + 1, by omega, by go_num, HI2.out⟩
        case measure => simp [intOf]; omega
    · obtain rfl : i = n := by omega
      have hlt2 : ¬ (i : Int) < (i : Int) := by omega
      have HE : Hid (z = -1) := by unfold Hid; rw [HZ.out]; exact finz_miss (fun j hj => hI.out j (by rw [HN.out]; exact hj))
      clear hI
      go_wp2_with fail
      go_ret
      rw [HE.out]
      exact ⟨rfl, rfl⟩

/-- the reference's machine -/
structure RM where
  cs : List (Int × Int)
  pc : Int
  fp : Int
  ap : Int
  rv : Int
  at' : Nat → Int
  is' : Nat → Int
  slot : Nat
  err : Int
def rmv (p : Nat) (v : Value) (s : RM) : Nat → Value
  | 0 => .int .i64 p
  | 1 => v
  | 2 => .int .i64 s.pc
  | 3 => .int .i64 s.fp
  | 4 => .int .i64 s.ap
  | 5 => .int .i64 s.rv
  | 6 => .int .i64 (s.at' 0)
  | 7 => .int .i64 (s.at' 1)
  | 8 => .int .i64 (s.at' 2)
  | 9 => .int .i64 (s.is' 0)
  | 10 => .int .i64 (s.is' 1)
  | 11 => .int .i64 (s.is' 2)
  | 12 => .int .i64 s.slot
  | _ => .int .i64 s.err

end Go.Proofs.YtaibngnabhmabajGreatDoor

namespace Go.Proofs.YtaibngnabhmabajGreatDoor
open Go.RowKit

def updM (f : Nat → Int) (i : Nat) (x : Int) : Nat → Int := fun j => if j = i then x else f j
def RM.shown (s : RM) (x y : Int) : RM := { s with at' := updM s.at' s.slot x, is' := updM s.is' s.slot y, slot := s.slot + 1 }
theorem gbM {w w' : World} {M i : Nat} {v : Value} (h : w.grownBy w' (some M)) : w.grownBy (w'.setCell ⟨M, i, none⟩ v) (some M) :=
  ⟨h.os, h.tape, h.output, by have := h.size; simpa [World.setCell] using this, fun k hk hne => (Below.heap_setCell _ _ _ _ (by show k ≠ M; intro e; exact hne (by rw [e]))).trans (h.block k hk hne)⟩

theorem gb_same (w : World) (M : Nat) : w.grownBy w (some M) := ⟨rfl, rfl, rfl, Nat.le_refl _, fun _ _ _ => rfl⟩
theorem gb_drewB {w w' : World} {g : Option Nat} (h : w.grownBy w' g) : w.grownBy w'.drew g := ⟨h.os, h.tape, h.output, h.size, h.block⟩
theorem fourteen {i : Nat} (h : i < 14) : i = 0 ∨ i = 1 ∨ i = 2 ∨ i = 3 ∨ i = 4 ∨ i = 5 ∨ i = 6 ∨ i = 7 ∨ i = 8 ∨ i = 9 ∨ i = 10 ∨ i = 11 ∨ i = 12 ∨ i = 13 := by omega
theorem rmv_at (k : Nat) (hk : k < 3) (p : Nat) (v : Value) (s : RM) (x : Int) : ∀ i, i < 14 → (if i = 6 + k then Value.int .i64 x else rmv p v s i) = rmv p v { s with at' := updM s.at' k x } i := fun i hi => by
  have h3 : k = 0 ∨ k = 1 ∨ k = 2 := by omega
  rcases h3 with rfl | rfl | rfl <;> rcases fourteen hi with rfl | rfl | rfl | rfl | rfl | rfl | rfl | rfl | rfl | rfl | rfl | rfl | rfl | rfl <;> simp [rmv, updM]
theorem rmv_is (k : Nat) (hk : k < 3) (p : Nat) (v : Value) (s : RM) (x : Int) : ∀ i, i < 14 → (if i = 9 + k then Value.int .i64 x else rmv p v s i) = rmv p v { s with is' := updM s.is' k x } i := fun i hi => by
  have h3 : k = 0 ∨ k = 1 ∨ k = 2 := by omega
  rcases h3 with rfl | rfl | rfl <;> rcases fourteen hi with rfl | rfl | rfl | rfl | rfl | rfl | rfl | rfl | rfl | rfl | rfl | rfl | rfl | rfl <;> simp [rmv, updM]
theorem rmv_slot (p : Nat) (v : Value) (s : RM) (k : Nat) : ∀ i, i < 14 → (if i = 12 then Value.int .i64 (k : Int) else rmv p v s i) = rmv p v { s with slot := k } i := fun i hi => by
  rcases fourteen hi with rfl | rfl | rfl | rfl | rfl | rfl | rfl | rfl | rfl | rfl | rfl | rfl | rfl | rfl <;> simp [rmv]
theorem rmv_err (p : Nat) (v : Value) (s : RM) (e : Int) : ∀ i, i < 14 → (if i = 13 then Value.int .i64 e else rmv p v s i) = rmv p v { s with err := e } i := fun i hi => by
  rcases fourteen hi with rfl | rfl | rfl | rfl | rfl | rfl | rfl | rfl | rfl | rfl | rfl | rfl | rfl | rfl <;> simp [rmv]
theorem rmv_cs (p : Nat) (v v' : Value) (s : RM) (c : List (Int × Int)) : ∀ i, i < 14 → (if i = 1 then v' else rmv p v s i) = rmv p v' { s with cs := c } i := fun i hi => by
  rcases fourteen hi with rfl | rfl | rfl | rfl | rfl | rfl | rfl | rfl | rfl | rfl | rfl | rfl | rfl | rfl <;> simp [rmv]

set_option maxRecDepth 100000 in
set_option maxHeartbeats 1000000 in
theorem rshown_any (M p : Nat) (v : Value) (s : RM) (x y : Int) (w : World) (h : w.rowIs M 207 14 (rmv p v s)) (hs : s.slot < 3) :
    Calls Tryz.prog 185 #[.pointer (some ⟨M, 0, none⟩), .int .i64 x, .int .i64 y] w fun e w' => e = .returned (.tuple #[]) ∧ w'.rowIs M 207 14 (rmv p v (s.shown x y)) ∧ w.grownBy w' (some M) ∧ w'.heap.size = w.heap.size := by
  have hmx : Tryz.prog.follows .mixedOrders = true := by kernel_rfl
  have H := hid h
  have c12 : w.cell? ⟨M, 12, none⟩ = some (.int .i64 (s.slot : Int)) := h.cell (i := 12) (by decide)
  have c6 : w.cell? ⟨M, 6, none⟩ = some (.int .i64 (s.at' 0)) := h.cell (i := 6) (by decide)
  have c7 : w.cell? ⟨M, 7, none⟩ = some (.int .i64 (s.at' 1)) := h.cell (i := 7) (by decide)
  have c8 : w.cell? ⟨M, 8, none⟩ = some (.int .i64 (s.at' 2)) := h.cell (i := 8) (by decide)
  have c9 : w.cell? ⟨M, 9, none⟩ = some (.int .i64 (s.is' 0)) := h.cell (i := 9) (by decide)
  have c10 : w.cell? ⟨M, 10, none⟩ = some (.int .i64 (s.is' 1)) := h.cell (i := 10) (by decide)
  have c11 : w.cell? ⟨M, 11, none⟩ = some (.int .i64 (s.is' 2)) := h.cell (i := 11) (by decide)
  have f := h.frozen
  have h3 : s.slot = 0 ∨ s.slot = 1 ∨ s.slot = 2 := by omega
  obtain ⟨k, hk⟩ : ∃ k, k = s.slot := ⟨_, rfl⟩
  rw [← hk] at c12 h3
  have HK := hid hk
  clear h hs hk
  rcases h3 with rfl | rfl | rfl
  · have R1 : (w.setCell ⟨M, 6, none⟩ (.int .i64 x)).drew.rowIs M 207 14 (rmv p v { s with at' := updM s.at' 0 x }) := ((H.out.set 6 (.int .i64 x)).congr (rmv_at 0 (by decide) p v s x)).drew
    have HG1 : Hid (w.grownBy (w.setCell ⟨M, 6, none⟩ (.int .i64 x)).drew (some M)) := gb_drewB (gbM (gb_same w M))
    have hz1 : Hid ((w.setCell ⟨M, 6, none⟩ (.int .i64 x)).drew.heap.size = w.heap.size) := by unfold Hid; simp [World.setCell, World.drew]
    have HR1 := hid R1
    have d12 := R1.cell (i := 12) (by decide)
    have d9 := R1.cell (i := 9) (by decide)
    have g := R1.frozen
    change _ = some (Value.int .i64 (s.slot : Int)) at d12
    change _ = some (Value.int .i64 (s.is' 0)) at d9
    rw [← HK.out] at d12
    go_enter Tryz.func185, Tryz.ntmps185
    go_wp2_with fail
    go_still_tail 10, hmx
    go_wp2_with fail
    clear R1 c6 c7 c8 c9 c10 c11 c12 f
    generalize (w.setCell ⟨M, 6, none⟩ (.int .i64 x)).drew = W1 at *
    have R2 : (W1.setCell ⟨M, 9, none⟩ (.int .i64 y)).drew.rowIs M 207 14 (rmv p v { s with at' := updM s.at' 0 x, is' := updM s.is' 0 y }) := ((HR1.out.set 9 (.int .i64 y)).congr (rmv_is 0 (by decide) p v { s with at' := updM s.at' 0 x } y)).drew
    have HG2 : Hid (w.grownBy (W1.setCell ⟨M, 9, none⟩ (.int .i64 y)).drew (some M)) := gb_drewB (gbM HG1.out)
    have hz2 : Hid ((W1.setCell ⟨M, 9, none⟩ (.int .i64 y)).drew.heap.size = w.heap.size) := by unfold Hid; rw [← hz1.out]; simp [World.setCell, World.drew]
    have HR2 := hid R2
    have e12 := R2.cell (i := 12) (by decide)
    have g2 := R2.frozen
    change _ = some (Value.int .i64 (s.slot : Int)) at e12
    rw [← HK.out] at e12
    clear R2
    go_still_tail 10, hmx
    go_wp2_with fail
    go_end0
    have R3 := (HR2.out.set 12 (.int .i64 ((1 : Nat) : Int))).congr (rmv_slot p v { s with at' := updM s.at' 0 x, is' := updM s.is' 0 y } 1)
    refine ⟨rfl, ?_, gbM HG2.out, ?_⟩
    · have hE : s.shown x y = { s with at' := updM s.at' 0 x, is' := updM s.is' 0 y, slot := 1 } := by unfold RM.shown; rw [← HK.out]
      rw [hE]
      exact R3
    · rw [← hz2.out]; simp [World.setCell]
  · have R1 : (w.setCell ⟨M, 7, none⟩ (.int .i64 x)).drew.rowIs M 207 14 (rmv p v { s with at' := updM s.at' 1 x }) := ((H.out.set 7 (.int .i64 x)).congr (rmv_at 1 (by decide) p v s x)).drew
    have HG1 : Hid (w.grownBy (w.setCell ⟨M, 7, none⟩ (.int .i64 x)).drew (some M)) := gb_drewB (gbM (gb_same w M))
    have hz1 : Hid ((w.setCell ⟨M, 7, none⟩ (.int .i64 x)).drew.heap.size = w.heap.size) := by unfold Hid; simp [World.setCell, World.drew]
    have HR1 := hid R1
    have d12 := R1.cell (i := 12) (by decide)
    have d10 := R1.cell (i := 10) (by decide)
    have g := R1.frozen
    change _ = some (Value.int .i64 (s.slot : Int)) at d12
    change _ = some (Value.int .i64 (s.is' 1)) at d10
    rw [← HK.out] at d12
    go_enter Tryz.func185, Tryz.ntmps185
    go_wp2_with fail
    go_still_tail 10, hmx
    go_wp2_with fail
    clear R1 c6 c7 c8 c9 c10 c11 c12 f
    generalize (w.setCell ⟨M, 7, none⟩ (.int .i64 x)).drew = W1 at *
    have R2 : (W1.setCell ⟨M, 10, none⟩ (.int .i64 y)).drew.rowIs M 207 14 (rmv p v { s with at' := updM s.at' 1 x, is' := updM s.is' 1 y }) := ((HR1.out.set 10 (.int .i64 y)).congr (rmv_is 1 (by decide) p v { s with at' := updM s.at' 1 x } y)).drew
    have HG2 : Hid (w.grownBy (W1.setCell ⟨M, 10, none⟩ (.int .i64 y)).drew (some M)) := gb_drewB (gbM HG1.out)
    have hz2 : Hid ((W1.setCell ⟨M, 10, none⟩ (.int .i64 y)).drew.heap.size = w.heap.size) := by unfold Hid; rw [← hz1.out]; simp [World.setCell, World.drew]
    have HR2 := hid R2
    have e12 := R2.cell (i := 12) (by decide)
    have g2 := R2.frozen
    change _ = some (Value.int .i64 (s.slot : Int)) at e12
    rw [← HK.out] at e12
    clear R2
    go_still_tail 10, hmx
    go_wp2_with fail
    go_end0
    have R3 := (HR2.out.set 12 (.int .i64 ((2 : Nat) : Int))).congr (rmv_slot p v { s with at' := updM s.at' 1 x, is' := updM s.is' 1 y } 2)
    refine ⟨rfl, ?_, gbM HG2.out, ?_⟩
    · have hE : s.shown x y = { s with at' := updM s.at' 1 x, is' := updM s.is' 1 y, slot := 2 } := by unfold RM.shown; rw [← HK.out]
      rw [hE]
      exact R3
    · rw [← hz2.out]; simp [World.setCell]
  · have R1 : (w.setCell ⟨M, 8, none⟩ (.int .i64 x)).drew.rowIs M 207 14 (rmv p v { s with at' := updM s.at' 2 x }) := ((H.out.set 8 (.int .i64 x)).congr (rmv_at 2 (by decide) p v s x)).drew
    have HG1 : Hid (w.grownBy (w.setCell ⟨M, 8, none⟩ (.int .i64 x)).drew (some M)) := gb_drewB (gbM (gb_same w M))
    have hz1 : Hid ((w.setCell ⟨M, 8, none⟩ (.int .i64 x)).drew.heap.size = w.heap.size) := by unfold Hid; simp [World.setCell, World.drew]
    have HR1 := hid R1
    have d12 := R1.cell (i := 12) (by decide)
    have d11 := R1.cell (i := 11) (by decide)
    have g := R1.frozen
    change _ = some (Value.int .i64 (s.slot : Int)) at d12
    change _ = some (Value.int .i64 (s.is' 2)) at d11
    rw [← HK.out] at d12
    go_enter Tryz.func185, Tryz.ntmps185
    go_wp2_with fail
    go_still_tail 10, hmx
    go_wp2_with fail
    clear R1 c6 c7 c8 c9 c10 c11 c12 f
    generalize (w.setCell ⟨M, 8, none⟩ (.int .i64 x)).drew = W1 at *
    have R2 : (W1.setCell ⟨M, 11, none⟩ (.int .i64 y)).drew.rowIs M 207 14 (rmv p v { s with at' := updM s.at' 2 x, is' := updM s.is' 2 y }) := ((HR1.out.set 11 (.int .i64 y)).congr (rmv_is 2 (by decide) p v { s with at' := updM s.at' 2 x } y)).drew
    have HG2 : Hid (w.grownBy (W1.setCell ⟨M, 11, none⟩ (.int .i64 y)).drew (some M)) := gb_drewB (gbM HG1.out)
    have hz2 : Hid ((W1.setCell ⟨M, 11, none⟩ (.int .i64 y)).drew.heap.size = w.heap.size) := by unfold Hid; rw [← hz1.out]; simp [World.setCell, World.drew]
    have HR2 := hid R2
    have e12 := R2.cell (i := 12) (by decide)
    have g2 := R2.frozen
    change _ = some (Value.int .i64 (s.slot : Int)) at e12
    rw [← HK.out] at e12
    clear R2
    go_still_tail 10, hmx
    go_wp2_with fail
    go_end0
    have R3 := (HR2.out.set 12 (.int .i64 ((3 : Nat) : Int))).congr (rmv_slot p v { s with at' := updM s.at' 2 x, is' := updM s.is' 2 y } 3)
    refine ⟨rfl, ?_, gbM HG2.out, ?_⟩
    · have hE : s.shown x y = { s with at' := updM s.at' 2 x, is' := updM s.is' 2 y, slot := 3 } := by unfold RM.shown; rw [← HK.out]
      rw [hE]
      exact R3
    · rw [← hz2.out]; simp [World.setCell]

end Go.Proofs.YtaibngnabhmabajGreatDoor

namespace Go.Proofs.YtaibngnabhmabajGreatDoor
open Go.RowKit

/-- the machine in memory -/
def MacAt (M base p : Nat) (s : RM) (w : World) : Prop := base ≤ w.heap.size ∧ ∃ v, w.rowIs M 207 14 (rmv p v s) ∧ CelR base w v s.cs
theorem CelR.ne {base M n : Nat} {F : Nat → Value} {w : World} {v : Value} {cs : List (Int × Int)} (h : CelR base w v cs) (hr : w.rowIs M 207 n F) : v.ownBlock ≠ some M := fun e => by
  obtain ⟨cs', hb, _⟩ := hr
  rcases h.2 with ⟨rfl, _⟩ | ⟨g, cap, cur, rfl, _, hg, _⟩
  · cases e
  · simp [Value.ownBlock] at e
    subst e
    rw [hb] at hg
    injection hg with hg
    injection hg with _ hg _
    exact absurd hg (by decide)
theorem CelR.kept {base M n : Nat} {F : Nat → Value} {w w' : World} {v : Value} {cs : List (Int × Int)} (h : CelR base w v cs) (hr : w.rowIs M 207 n F) (g : w.grownBy w' (some M)) : CelR base w' v cs :=
  World.ownsRow.kept h g (.inr (h.ne hr))
theorem gb_low {N M : Nat} {w w' : World} (h : w.grownBy w' (some M)) (hN : N ≤ M) (hM : M < w.heap.size) : Below N w w' := ⟨h.os, h.tape, h.output, h.size, fun k hk => h.block k (by omega) (by intro e; injection e with e; omega)⟩
/-- what is no machine, and no list of cells, stays -/
def KM (w w' : World) : Prop := w.heap.size ≤ w'.heap.size ∧ ∀ (b : Nat) (cs : Array Value) (t : TypeId) (f : Nat × Nat), w.heap[b]? = some (.cells cs t f) → t ≠ 207 → t ≠ 149 → w'.heap[b]? = w.heap[b]?
def FrM (N : Nat) (w w' : World) : Prop := Below N w w' ∧ KM w w'
theorem FrM.refl (N : Nat) (w : World) : FrM N w w := ⟨Below.refl _ _, Nat.le_refl _, fun _ _ _ _ _ _ _ => rfl⟩
theorem FrM.trans {N : Nat} {a b c : World} (h : FrM N a b) (k : FrM N b c) : FrM N a c := ⟨h.1.trans k.1, Nat.le_trans h.2.1 k.2.1, fun g cs t f e h1 h2 => (k.2.2 g cs t f ((h.2.2 g cs t f e h1 h2).trans e) h1 h2).trans (h.2.2 g cs t f e h1 h2)⟩
theorem FrM.gb {N M n : Nat} {F : Nat → Value} {w w' : World} (h : w.grownBy w' (some M)) (hN : N ≤ M) (hr : w.rowIs M 207 n F) : FrM N w w' := by
  obtain ⟨cs, hb, _⟩ := hr
  refine ⟨gb_low h hN (Array.getElem?_eq_some_iff.1 hb).1, h.size, fun b cs' t f e h1 _ => h.block b (Array.getElem?_eq_some_iff.1 e).1 ?_⟩
  intro hh
  injection hh with hh
  subst hh
  rw [hb] at e
  injection e with e
  injection e with _ e _
  exact h1 e.symm
def RM.look (s : RM) (x : Int) : RM × Int := if s.err ≠ 0 then (s, 0) else if finz s.cs x < 0 then ({ s with err := 10 }, 0) else (s.shown x (cat s.cs (finz s.cs x).toNat).2, (cat s.cs (finz s.cs x).toNat).2)
def RM.must (s : RM) (b : Bool) : RM := if s.err = 0 ∧ b = false then { s with err := 7 } else s
def RM.tell (p : Nat) (s : RM) (x y : Int) : RM := if s.err ≠ 0 then s else if 0 ≤ finz s.cs x ∧ (cat s.cs (finz s.cs x).toNat).2 ≠ y % p then { s with err := 7 } else
  if finz s.cs x < 0 then ({ s with cs := s.cs ++ [(x, y % p)] } : RM).shown x (y % p) else s.shown x (y % p)
theorem finz_cases (cs : List (Int × Int)) (x : Int) : finz cs x = -1 ∨ ∃ i : Nat, finz cs x = i ∧ i < cs.length ∧ (cat cs i).1 = x := by
  unfold finz
  split
  · rename_i i h
    rw [List.findIdx?_eq_some_iff_getElem] at h
    obtain ⟨h1, h2, _⟩ := h
    exact .inr ⟨i, rfl, h1, by simpa [cat, h1] using h2⟩
  · exact .inl rfl

set_option maxRecDepth 100000 in
set_option maxHeartbeats 1000000 in
theorem rmust_any (N M base p : Nat) (s : RM) (b : Bool) (w : World) (h : MacAt M base p s w) (hN : N ≤ M) :
    Calls Tryz.prog 142 #[.pointer (some ⟨M, 0, none⟩), .bool b] w fun e w' => e = .returned (.tuple #[]) ∧ MacAt M base p (s.must b) w' ∧ FrM N w w' := by
  obtain ⟨hb, v, hr, hc⟩ := h
  have c13 : w.cell? ⟨M, 13, none⟩ = some (.int .i64 s.err) := hr.cell (i := 13) (by decide)
  have f := hr.frozen
  have HI := hid (⟨hb, v, hr, hc⟩ : MacAt M base p s w)
  have HR := hid hr
  have HC := hid hc
  have HG : Hid (w.grownBy (w.setCell ⟨M, 13, none⟩ (.int .i64 7)) (some M)) := gbM (gb_same w M)
  obtain ⟨e, he⟩ : ∃ e, e = s.err := ⟨_, rfl⟩
  rw [← he] at c13
  have HE := hid he
  obtain ⟨s', hs'⟩ : ∃ s', s' = s.must b := ⟨_, rfl⟩
  rw [← hs']
  have HS := hid hs'
  clear hr hc he hs'
  by_cases h0 : e = 0
  · subst h0
    cases b with
    | true =>
      go_enter Tryz.func142, Tryz.ntmps142
      go_wp2_with fail
      go_end0
      rw [HS.out]
      have : s.must true = s := by unfold RM.must; rw [if_neg (by simp)]
      rw [this]
      exact ⟨rfl, HI.out, FrM.refl _ _⟩
    | false =>
      go_enter Tryz.func142, Tryz.ntmps142
      go_wp2_with fail
      go_end0
      rw [HS.out]
      have : s.must false = { s with err := 7 } := by unfold RM.must; rw [if_pos ⟨HE.out.symm, rfl⟩]
      rw [this]
      exact ⟨rfl, ⟨by simpa [World.setCell] using hb, v, (HR.out.set 13 _).congr (rmv_err p v s 7), HC.out.kept HR.out HG.out⟩, FrM.gb HG.out hN HR.out⟩
  · have h1 : (e == 0) = false := by simp [h0]
    have h2 : s.must b = s := by unfold RM.must; rw [if_neg (fun hh => h0 (HE.out.trans hh.1))]
    have HX := hid h2
    clear h2 h0
    go_enter Tryz.func142, Tryz.ntmps142
    go_wp2_with fail
    go_end0
    rw [HS.out, HX.out]
    exact ⟨rfl, HI.out, FrM.refl _ _⟩

set_option maxRecDepth 100000 in
set_option maxHeartbeats 1000000 in
theorem rlook_any (N M base p : Nat) (s : RM) (x : Int) (w : World) (h : MacAt M base p s w) (hN : N ≤ M) (hl : s.cs.length ≤ 1000000) (h3 : s.err = 0 → s.slot < 3) :
    Calls Tryz.prog 139 #[.pointer (some ⟨M, 0, none⟩), .int .i64 x] w fun e w' => e = .returned (.int .i64 (s.look x).2) ∧ MacAt M base p (s.look x).1 w' ∧ FrM N w w' := by
  obtain ⟨hb, v, hr, hc⟩ := h
  have c13 : w.cell? ⟨M, 13, none⟩ = some (.int .i64 s.err) := hr.cell (i := 13) (by decide)
  have c1 : w.cell? ⟨M, 1, none⟩ = some v := hr.cell (i := 1) (by decide)
  have f := hr.frozen
  have HI := hid (⟨hb, v, hr, hc⟩ : MacAt M base p s w)
  have HR := hid hr
  have HC := hid hc
  have HG : Hid (w.grownBy (w.setCell ⟨M, 13, none⟩ (.int .i64 10)) (some M)) := gbM (gb_same w M)
  have HF := hid (rfind_any M base v s.cs x w c1 hc hl)
  obtain ⟨e, he⟩ : ∃ e, e = s.err := ⟨_, rfl⟩
  rw [← he] at c13 h3
  have HE := hid he
  obtain ⟨L, hL⟩ : ∃ L, L = s.look x := ⟨_, rfl⟩
  rw [← hL]
  have HL := hid hL
  clear hr hc he hL
  by_cases h0 : e = 0
  · subst h0
    have hs3 := h3 rfl
    rcases finz_cases s.cs x with hm | ⟨i, hi, hil, hix⟩
    · rw [hm] at HF
      have HX : Hid (L = ({ s with err := 10 }, 0)) := by unfold Hid; rw [HL.out]; unfold RM.look; rw [if_neg (by rw [← HE.out]; simp), if_pos (by rw [hm]; decide)]
      clear hm
      go_enter Tryz.func139, Tryz.ntmps139
      go_wp2_with fail
      refine HF.out.mono ?_
      rintro e w1 ⟨rfl, rfl⟩
      go_wp2_with fail
      go_ret
      rw [HX.out]
      exact ⟨rfl, ⟨by simpa [World.setCell] using hb, v, (HR.out.set 13 _).congr (rmv_err p v s 10), HC.out.kept HR.out HG.out⟩, FrM.gb HG.out hN HR.out⟩
    · rw [hi] at HF
      obtain ⟨g, cap, hv, hgb, d1, d2⟩ := HC.out.at hil
      obtain ⟨n, hn⟩ : ∃ n, n = s.cs.length := ⟨_, rfl⟩
      rw [← hn] at hv hil hl
      subst hv
      obtain ⟨y, hy⟩ : ∃ y, y = (cat s.cs i).2 := ⟨_, rfl⟩
      rw [← hy] at d2
      have HX : Hid (L = (s.shown x y, y)) := by
        unfold Hid
        rw [HL.out]
        unfold RM.look
        rw [if_neg (by rw [← HE.out]; simp), if_neg (by rw [hi]; omega), hi, Int.toNat_natCast, ← hy]
      have hn0 : ¬ (i : Int) < 0 := by omega
      have hin : (i : Int) < (n : Int) := by omega
      have HSH := hid (rshown_any M p (.slice (some ⟨g, 0, none⟩) n cap) s x y w HR.out hs3)
      clear hi hix d1 hn hy h3
      go_enter Tryz.func139, Tryz.ntmps139
      go_wp2_with fail
      refine HF.out.mono ?_
      rintro e w1 ⟨rfl, rfl⟩
      go_wp2_with fail
      refine HSH.out.mono ?_
      rintro e w2 ⟨rfl, hr2, hg2, hz2⟩
      have k1 : w2.cell? ⟨M, 1, none⟩ = some (.slice (some ⟨g, 0, none⟩) n cap) := hr2.cell (i := 1) (by decide)
      have hgl : g < w1.heap.size := World.block_lt_of_cell? _ _ d2
      have k2 := (World.cell?_of_block (a := ⟨g, i * 2 + 1, none⟩) (hg2.block g hgl (HC.out.ne HR.out))).trans d2
      have HE2 : Hid (MacAt M base p (s.shown x y) w2 ∧ FrM N w1 w2) := ⟨⟨by omega, _, hr2, HC.out.kept HR.out hg2⟩, FrM.gb hg2 hN HR.out⟩
      clear hr2 hg2 hz2 HSH HF
      go_wp2_with fail
      go_ret
      rw [HX.out]
      exact ⟨rfl, HE2.out⟩
  · have h1 : (e != 0) = true := by simp [h0]
    have HX : Hid (L = (s, 0)) := by unfold Hid; rw [HL.out]; unfold RM.look; rw [if_pos (by rw [← HE.out]; exact h0)]
    clear h0 h3
    go_enter Tryz.func139, Tryz.ntmps139
    go_wp2_with fail
    go_ret
    rw [HX.out]
    exact ⟨rfl, HI.out, FrM.refl _ _⟩

end Go.Proofs.YtaibngnabhmabajGreatDoor

namespace Go.Proofs.YtaibngnabhmabajGreatDoor
open Go.RowKit

theorem Tryz.infoCel : (Tryz.prog.info? 149).map (fun i => (i.zero, i.size, i.bytes)) = some (some (.agg #[.int .i64 0, .int .i64 0]), 2, 16) := by kernel_rfl

set_option maxRecDepth 100000 in
set_option maxHeartbeats 1000000 in
theorem rtell_any (N M base p : Nat) (s : RM) (x y : Int) (w : World) (h : MacAt M base p s w) (hN : N ≤ M) (hNb : N ≤ base) (hp3 : 3 ≤ p) (hp4 : p ≤ 2147483647) (hy1 : -9223372036854775808 ≤ y) (hy2 : y ≤ 9223372036854775807) (hl : s.cs.length ≤ 999999) (h3 : s.err = 0 → s.slot < 3) :
    Calls Tryz.prog 141 #[.pointer (some ⟨M, 0, none⟩), .int .i64 x, .int .i64 y] w fun e w' => e = .returned (.tuple #[]) ∧ MacAt M base p (s.tell p x y) w' ∧ FrM N w w' := by
  obtain ⟨i0, hi0, hz0, hz1, hz2⟩ := info_parts Tryz.infoCel
  obtain ⟨hb, v, hr, hc⟩ := h
  have c0 : w.cell? ⟨M, 0, none⟩ = some (.int .i64 p) := hr.cell (i := 0) (by decide)
  have c13 : w.cell? ⟨M, 13, none⟩ = some (.int .i64 s.err) := hr.cell (i := 13) (by decide)
  have c1 : w.cell? ⟨M, 1, none⟩ = some v := hr.cell (i := 1) (by decide)
  have f := hr.frozen
  have HI := hid (⟨hb, v, hr, hc⟩ : MacAt M base p s w)
  have HR := hid hr
  have HC := hid hc
  have HG : Hid (w.grownBy (w.setCell ⟨M, 13, none⟩ (.int .i64 7)) (some M)) := gbM (gb_same w M)
  have HF := hid (rfind_any M base v s.cs x w c1 hc (by omega))
  have HO := hid (rof_any p y w hp3 hp4 hy1 hy2)
  obtain ⟨e, he⟩ : ∃ e, e = s.err := ⟨_, rfl⟩
  rw [← he] at c13 h3
  have HE := hid he
  obtain ⟨L, hL⟩ : ∃ L, L = s.tell p x y := ⟨_, rfl⟩
  rw [← hL]
  have HL := hid hL
  obtain ⟨z, hz⟩ : ∃ z, z = y % (p : Int) := ⟨_, rfl⟩
  rw [← hz] at HO
  have HZ := hid hz
  clear hr hc he hL hz
  by_cases h0 : e = 0
  · subst h0
    have hs3 := h3 rfl
    rcases finz_cases s.cs x with hm | ⟨i, hi, hil, hix⟩
    · rw [hm] at HF
      have HX : Hid (L = ({ s with cs := s.cs ++ [(x, z)] } : RM).shown x z) := by
        unfold Hid
        rw [HL.out, HZ.out]
        unfold RM.tell
        rw [if_neg (by rw [← HE.out]; simp), if_neg (by rw [hm]; intro hh; exact absurd hh.1 (by decide)), if_pos (by rw [hm]; decide)]
      obtain ⟨a, cap, rfl⟩ := HC.out.form
      obtain ⟨n, hn⟩ : ∃ n, n = s.cs.length := ⟨_, rfl⟩
      rw [← hn] at c1 hl
      have HNE := hid hn
      have HCR : Hid (w.ownsRow base 149 2 (.slice a n cap) n (celv s.cs)) := by unfold Hid; rw [hn]; exact HC.out
      rw [← hn] at HR
      clear hm hn h3
      go_enter Tryz.func141, Tryz.ntmps141
      go_wp2_with fail
      refine HO.out.mono ?_
      rintro e w1 ⟨rfl, rfl⟩
      go_wp2_with fail
      refine HF.out.mono ?_
      rintro e w1 ⟨rfl, rfl⟩
      have hba : Below w1.heap.size w1 (w1.alloc (.cells #[.int .i64 x, .int .i64 z] 149)) := (Below.refl _ _).alloc (Nat.le_refl _) _
      have HO2 : Hid ((w1.alloc (.cells #[.int .i64 x, .int .i64 z] 149)).ownsRow base 149 2 (.slice a n cap) n (celv s.cs)) := HCR.out.alloc _
      have HBA := hid hba
      clear hba
      go_wp2_with (at_builtin; refine wpList_append_own _ rfl _ _ 64 rfl base 149 i0 _ 2 16 Tryz.underlying64 hi0 hz0 hz1 hz2 rfl (by decide) _ n (celv s.cs) rfl HO2.out ⟨w1.heap.size, 0, none⟩ 1 1 [.int .i64 x, .int .i64 z] rfl rfl ?c1 ?c2 ?c3 ?c4 ?c5 ?_)
      case c1 =>
        intro j u hj
        match j, hj with
        | 0, hj => simp at hj; subst hj; simp [Addr.add]
        | 1, hj => simp at hj; subst hj; simp [Addr.add]
      case c2 => intro u hu; simp at hu; rcases hu with rfl | rfl <;> rfl
      case c3 => unfold maxLen; omega
      case c4 => omega
      case c5 => simp; omega
      intro v' w2 ho2 hg2 _
      have ho3 : w2.ownsRow base 149 2 v' (s.cs ++ [(x, z)]).length (celv (s.cs ++ [(x, z)])) := by
        rw [celv_app, List.length_append, ← HNE.out]
        exact ho2
      have hown : ∀ k, (Value.slice a n cap).ownBlock = some k → base ≤ k := fun k hk => (World.ownsRow.lt HCR.out k hk).1
      have hkeep : ∀ k, k < base → k < w1.heap.size → w2.heap[k]? = w1.heap[k]? := fun k hk hkw => (hg2.block k (Nat.lt_of_lt_of_le hkw HBA.out.size) (fun e => by have := hown k e.symm; omega)).trans (HBA.out.block k hkw)
      have hMl := HR.out.lt
      have hr2 := HR.out.of_block ((hg2.block M (Nat.lt_of_lt_of_le hMl HBA.out.size) (fun e => HC.out.ne HR.out (by rw [← HNE.out]; exact e.symm))).trans (HBA.out.block M hMl))
      have hbe2 : Below base w1 w2 := ⟨hg2.os.trans HBA.out.os, hg2.tape.trans HBA.out.tape, hg2.output.trans HBA.out.output, Nat.le_trans HBA.out.size hg2.size, fun k hk => hkeep k hk (by omega)⟩
      obtain ⟨a', cap', hv'⟩ := CelR.form ho3
      obtain ⟨n', hn'⟩ : ∃ n', n' = (s.cs ++ [(x, z)]).length := ⟨_, rfl⟩
      rw [← hn'] at hv'
      subst hv'
      have HR3 : Hid ((w2.setCell ⟨M, 1, none⟩ (.slice a' n' cap')).rowIs M 207 14 (rmv p (.slice a' n' cap') { s with cs := s.cs ++ [(x, z)] })) := (hr2.set 1 _).congr (rmv_cs p _ _ s _)
      have HC3 : Hid (CelR base (w2.setCell ⟨M, 1, none⟩ (.slice a' n' cap')) (.slice a' n' cap') (s.cs ++ [(x, z)])) := CelR.kept ho3 hr2 (gbM (gb_same w2 M))
      have hkm : KM w1 w2 := ⟨hbe2.size, fun b cs t f e h1 h2 => by
        have hl1 := (Array.getElem?_eq_some_iff.1 e).1
        have e2 := (HBA.out.block b hl1).trans e
        refine (hg2.block b (Nat.lt_of_lt_of_le hl1 HBA.out.size) (fun hh => ?_)).trans (HBA.out.block b hl1)
        rcases HO2.out.2 with ⟨e3, _⟩ | ⟨g3, cap3, cur3, e3, _, hg3, _⟩
        · rw [e3] at hh; cases hh
        · rw [e3] at hh
          simp [Value.ownBlock] at hh
          subst hh
          rw [e2] at hg3
          injection hg3 with hg3
          injection hg3 with _ hg3 _
          exact h2 hg3⟩
      have HB3 : Hid (FrM N w1 (w2.setCell ⟨M, 1, none⟩ (.slice a' n' cap')) ∧ base ≤ (w2.setCell ⟨M, 1, none⟩ (.slice a' n' cap')).heap.size) := ⟨FrM.trans ⟨hbe2.mono (by omega), hkm⟩ (FrM.gb (gbM (gb_same w2 M)) hN hr2), by have := hbe2.size; simp [World.setCell]; omega⟩
      have k1 : w2.cell? ⟨M, 1, none⟩ = some (.slice a n cap) := hr2.cell (i := 1) (by decide)
      have kf := hr2.frozen
      have HSH := hid (rshown_any M p (.slice a' n' cap') { s with cs := s.cs ++ [(x, z)] } x z (w2.setCell ⟨M, 1, none⟩ (.slice a' n' cap')) HR3.out hs3)
      clear ho2 hg2 ho3 hown hkeep hr2 hbe2 hn' HO2 HBA HO HF hkm hMl
      go_wp2_with fail
      refine HSH.out.mono ?_
      rintro e w4 ⟨rfl, hr4, hg4, hz4⟩
      have HE4 : Hid (MacAt M base p (({ s with cs := s.cs ++ [(x, z)] } : RM).shown x z) w4 ∧ FrM N w1 w4) :=
        ⟨⟨by rw [hz4]; exact HB3.out.2, _, hr4, HC3.out.kept HR3.out hg4⟩, HB3.out.1.trans (FrM.gb hg4 hN HR3.out)⟩
      clear hr4 hg4 hz4 HSH
      go_wp2_with fail
      go_end0
      rw [HX.out]
      exact ⟨rfl, HE4.out⟩
    · rw [hi] at HF
      obtain ⟨g, cap, hv, hgb, d1, d2⟩ := HC.out.at hil
      obtain ⟨n, hn⟩ : ∃ n, n = s.cs.length := ⟨_, rfl⟩
      rw [← hn] at hv hil hl
      subst hv
      obtain ⟨u, hu⟩ : ∃ u, u = (cat s.cs i).2 := ⟨_, rfl⟩
      rw [← hu] at d2
      have hn0 : ¬ (i : Int) < 0 := by omega
      have hn1 : (0 : Int) ≤ (i : Int) := by omega
      have hin : (i : Int) < (n : Int) := by omega
      by_cases hzu : u = z
      · have hne : (u != z) = false := by simp [hzu]
        have HX : Hid (L = s.shown x z) := by
          unfold Hid
          rw [HL.out, HZ.out]
          unfold RM.tell
          rw [if_neg (by rw [← HE.out]; simp), if_neg (by rw [hi, Int.toNat_natCast, ← hu, hzu, HZ.out]; simp), if_neg (by rw [hi]; omega)]
        have HSH := hid (rshown_any M p (.slice (some ⟨g, 0, none⟩) n cap) s x z w HR.out hs3)
        clear hi hix d1 hn hu h3 hzu
        go_enter Tryz.func141, Tryz.ntmps141
        go_wp2_with fail
        refine HO.out.mono ?_
        rintro e w1 ⟨rfl, rfl⟩
        go_wp2_with fail
        refine HF.out.mono ?_
        rintro e w1 ⟨rfl, rfl⟩
        go_wp2_with fail
        refine HSH.out.mono ?_
        rintro e w2 ⟨rfl, hr2, hg2, hz2⟩
        have HE2 : Hid (MacAt M base p (s.shown x z) w2 ∧ FrM N w1 w2) := ⟨⟨by omega, _, hr2, HC.out.kept HR.out hg2⟩, FrM.gb hg2 hN HR.out⟩
        clear hr2 hg2 hz2 HSH HF
        go_wp2_with fail
        go_end0
        rw [HX.out]
        exact ⟨rfl, HE2.out⟩
      · have hne : (u != z) = true := by simp [hzu]
        have HX : Hid (L = { s with err := 7 }) := by
          unfold Hid
          rw [HL.out]
          unfold RM.tell
          rw [if_neg (by rw [← HE.out]; simp), if_pos ⟨by rw [hi]; omega, by rw [hi, Int.toNat_natCast, ← hu, ← HZ.out]; exact hzu⟩]
        clear hi hix d1 hn hu h3 hzu
        go_enter Tryz.func141, Tryz.ntmps141
        go_wp2_with fail
        refine HO.out.mono ?_
        rintro e w1 ⟨rfl, rfl⟩
        go_wp2_with fail
        refine HF.out.mono ?_
        rintro e w1 ⟨rfl, rfl⟩
        go_wp2_with fail
        (try simp only [Exit.inBlock, Exit.then])
        refine bodyPost_ret (results_none rfl _ _ _) rfl ?_
        rw [HX.out]
        exact ⟨rfl, ⟨by simpa [World.setCell] using hb, _, (HR.out.set 13 _).congr (rmv_err p _ s 7), HC.out.kept HR.out HG.out⟩, FrM.gb HG.out hN HR.out⟩
  · have h1 : (e != 0) = true := by simp [h0]
    have HX : Hid (L = s) := by unfold Hid; rw [HL.out]; unfold RM.tell; rw [if_pos (by rw [← HE.out]; exact h0)]
    clear h0 h3
    go_enter Tryz.func141, Tryz.ntmps141
    go_wp2_with fail
    (try simp only [Exit.inBlock, Exit.then])
    refine bodyPost_ret (results_none rfl _ _ _) rfl ?_
    rw [HX.out]
    exact ⟨rfl, HI.out, FrM.refl _ _⟩

/-- what comes of two by an operation, and what becomes of the machine -/
def rkn (p : Nat) (op x y : Int) : Int := if op = 1 then (x + y) % p else if op = 2 then (x - y) % p else if op = 3 then x * y % p else if op = 4 then x * (invn p y : Int) % p else if x = y then 1 else 0
def RM.rck (s : RM) (op y : Int) : RM := if op = 4 then s.must (y != 0) else s

set_option maxRecDepth 100000 in
set_option maxHeartbeats 1000000 in
theorem rreck_any (N M base p : Nat) (s : RM) (op x y : Int) (w : World) (h : MacAt M base p s w) (hN : N ≤ M) (hp3 : 3 ≤ p) (hp4 : p ≤ 2147483647) (hop : op = 1 ∨ op = 2 ∨ op = 3 ∨ op = 4 ∨ op = 6) (hx1 : 0 ≤ x) (hx2 : x < p) (hy1 : 0 ≤ y) (hy2 : y < p) :
    Calls Tryz.prog 140 #[.pointer (some ⟨M, 0, none⟩), .int .i64 op, .int .i64 x, .int .i64 y] w fun e w' => e = .returned (.int .i64 (rkn p op x y)) ∧ MacAt M base p (s.rck op y) w' ∧ FrM N w w' := by
  have c0 : w.cell? ⟨M, 0, none⟩ = some (.int .i64 p) := by obtain ⟨_, v, hr, _⟩ := h; exact hr.cell (i := 0) (by decide)
  have HA := hid (radd_any p x y w hp3 hp4 (by omega) (by omega) (by omega) (by omega))
  have HS := hid (rsub_any p x y w hp3 hp4 (by omega) (by omega) (by omega) (by omega))
  have HMU := hid (rmul_any p x y w hp3 hp4 (by omega) (by omega) (by omega) (by omega))
  have HD := hid (fun W => rdiv_any p x y W hp3 hp4 (by omega) (by omega) (by omega) (by omega))
  have HM := hid (fun b => rmust_any N M base p s b w h hN)
  have HI := hid h
  have HF := hid (FrM.refl N w)
  obtain ⟨z, hz⟩ : ∃ z, z = rkn p op x y := ⟨_, rfl⟩
  obtain ⟨s', hs'⟩ : ∃ s', s' = s.rck op y := ⟨_, rfl⟩
  rw [← hz, ← hs']
  have HZ := hid hz
  have HS' := hid hs'
  clear h hz hs'
  rcases hop with rfl | rfl | rfl | rfl | rfl
  · go_enter Tryz.func140, Tryz.ntmps140
    go_wp2_with fail
    refine HA.out.mono ?_
    rintro e w1 ⟨rfl, rfl⟩
    go_wp2_with fail
    go_ret
    rw [HZ.out, HS'.out]
    exact ⟨rfl, HI.out, HF.out⟩
  · go_enter Tryz.func140, Tryz.ntmps140
    go_wp2_with fail
    refine HS.out.mono ?_
    rintro e w1 ⟨rfl, rfl⟩
    go_wp2_with fail
    go_ret
    rw [HZ.out, HS'.out]
    exact ⟨rfl, HI.out, HF.out⟩
  · go_enter Tryz.func140, Tryz.ntmps140
    go_wp2_with fail
    refine HMU.out.mono ?_
    rintro e w1 ⟨rfl, rfl⟩
    go_wp2_with fail
    go_ret
    rw [HZ.out, HS'.out]
    exact ⟨rfl, HI.out, HF.out⟩
  · obtain ⟨bb, hbb⟩ : ∃ bb, bb = (y != 0) := ⟨_, rfl⟩
    have HM2 := hid (HM.out bb)
    rw [hbb] at HM2
    go_enter Tryz.func140, Tryz.ntmps140
    go_wp2_with fail
    refine HM2.out.mono ?_
    rintro e w1 ⟨rfl, hm1, hf1⟩
    have d0 : w1.cell? ⟨M, 0, none⟩ = some (.int .i64 p) := by obtain ⟨_, v, hr, _⟩ := hm1; exact hr.cell (i := 0) (by decide)
    have HX : Hid (MacAt M base p (s.must (y != 0)) w1 ∧ FrM N w w1) := ⟨hm1, hf1⟩
    clear hm1 hf1 HM2 HM
    go_wp2_with fail
    refine (HD.out _).mono ?_
    rintro e w2 ⟨rfl, rfl⟩
    go_wp2_with fail
    go_ret
    rw [HZ.out, HS'.out]
    exact ⟨rfl, HX.out⟩
  · by_cases hxy : x = y
    · have hb : (x == y) = true := by simp [hxy]
      have HE : Hid (z = 1) := by unfold Hid; rw [HZ.out, rkn, if_neg (by decide), if_neg (by decide), if_neg (by decide), if_neg (by decide), if_pos hxy]
      clear hxy
      go_enter Tryz.func140, Tryz.ntmps140
      go_wp2_with fail
      go_ret
      rw [HE.out, HS'.out]
      exact ⟨rfl, HI.out, HF.out⟩
    · have hb : (x == y) = false := by simp [hxy]
      have HE : Hid (z = 0) := by unfold Hid; rw [HZ.out, rkn, if_neg (by decide), if_neg (by decide), if_neg (by decide), if_neg (by decide), if_neg hxy]
      clear hxy
      go_enter Tryz.func140, Tryz.ntmps140
      go_wp2_with fail
      go_ret
      rw [HE.out, HS'.out]
      exact ⟨rfl, HI.out, HF.out⟩

end Go.Proofs.YtaibngnabhmabajGreatDoor
