/- attestref6: the cells that are told, and the machine's own words. attestref6: shown, look, tell, must. attestref6: look, tell, must. attestref6: tell, reckoned. attestref6.Do: what stands. attestref6.Do. attestref6.Do: op 1 attestref6.Do: op 2 attestref6.Do: op 3 attestref6.Do: op 4 attestref6.Do: op 6 attestref6.Do: 5, 7 attestref6.Do: 8 attestref6.Do: 9 attestref6.Do: 10 attestref6.Do: 11 attestref6.Do: 12, 0 attestref6.Do: 13 attestref6.Do: any other attestref6.Do: any instruction. attestref6.Walk: what it walks, and Fault. Package machine: cells that are told, as a map; look, tell, must, one. Package machine: next. -/
import Derived.Test.YtlgcmeachjjmgajGreatDoorFld
import Derived.StillTailTactics
import Derived.Lib.SmallJoins
import Derived.Maps.OwnOps
import Derived.Maps.OwnSet
import Derived.WalkLawsBesides
namespace Go.Proofs.YtlgcmeachjjmgajGreatDoor
open Go.RowKit

/-- cells, as they lie in memory -/
def celv : List (Int × Int) → List Value
  | [] => []
  | c :: r => .int .i64 c.1 :: .int .i64 c.2 :: celv r
def cat (cs : List (Int × Int)) (j : Nat) : Int × Int := cs.getD j (0, 0)
theorem celv_len : ∀ cs, (celv cs).length = cs.length * 2
  | [] => rfl
  | c :: r => by simp [celv, celv_len r]; omega
theorem celv_app : ∀ cs ds, celv (cs ++ ds) = celv cs ++ celv ds
  | [], ds => rfl
  | c :: r, ds => by simp [celv, celv_app r ds]
theorem celv_at : ∀ (cs : List (Int × Int)) (j : Nat), j < cs.length → (celv cs)[j * 2]? = some (.int .i64 (cat cs j).1) ∧ (celv cs)[j * 2 + 1]? = some (.int .i64 (cat cs j).2)
  | [], _, h => absurd h (Nat.not_lt_zero _)
  | c :: r, 0, _ => ⟨rfl, rfl⟩
  | c :: r, j + 1, h => by
    have ih := celv_at r j (by simpa using h)
    have e1 : (j + 1) * 2 = j * 2 + 2 := by omega
    rw [e1]
    exact ih
/-- the place of a cell; -1: there is none -/
def finz (cs : List (Int × Int)) (x : Int) : Int := match cs.findIdx? (fun c => c.1 == x) with
  | some i => i
  | none => -1
theorem finz_hit {cs : List (Int × Int)} {x : Int} {i : Nat} (hi : i < cs.length) (hx : (cat cs i).1 = x) (hn : ∀ j, j < i → (cat cs j).1 ≠ x) : finz cs x = i := by
  have h : cs.findIdx? (fun c => c.1 == x) = some i := by
    rw [List.findIdx?_eq_some_iff_getElem]
    refine ⟨hi, by simpa [cat, hi] using hx, fun j hj => ?_⟩
    have := hn j hj
    have hj' : j < cs.length := by omega
    simpa [cat, hj'] using this
  unfold finz
  rw [h]
theorem finz_miss {cs : List (Int × Int)} {x : Int} (hn : ∀ j, j < cs.length → (cat cs j).1 ≠ x) : finz cs x = -1 := by
  have h : cs.findIdx? (fun c => c.1 == x) = none := by
    rw [List.findIdx?_eq_none_iff]
    intro c hc
    obtain ⟨j, hj, rfl⟩ := List.getElem_of_mem hc
    have := hn j hj
    simpa [cat, hj] using this
  unfold finz
  rw [h]
/-- cells of the call's own -/
def CelR (base : Nat) (w : World) (v : Value) (cs : List (Int × Int)) : Prop := w.ownsRow base 178 2 v cs.length (celv cs)
theorem CelR.form {base : Nat} {w : World} {v : Value} {cs : List (Int × Int)} (h : CelR base w v cs) : ∃ a c, v = .slice a cs.length c := by
  obtain ⟨_, h2⟩ := h
  rcases h2 with ⟨rfl, h0⟩ | ⟨g, cap, cur, rfl, _⟩
  · exact ⟨none, 0, by rw [h0]⟩
  · exact ⟨_, _, rfl⟩
theorem CelR.at {base : Nat} {w : World} {v : Value} {cs : List (Int × Int)} (h : CelR base w v cs) {j : Nat} (hj : j < cs.length) : ∃ g cap, v = .slice (some ⟨g, 0, none⟩) cs.length cap ∧ base ≤ g ∧ w.cell? ⟨g, j * 2, none⟩ = some (.int .i64 (cat cs j).1) ∧ w.cell? ⟨g, j * 2 + 1, none⟩ = some (.int .i64 (cat cs j).2) := by
  have h' := h
  obtain ⟨_, h2⟩ := h
  rcases h2 with ⟨rfl, h0⟩ | ⟨g, cap, cur, rfl, hb, hg, hn, hm, hs, ht⟩
  · omega
  · have hc : ∀ j u, (celv cs)[j]? = some u → w.cell? ⟨g, j, none⟩ = some u := fun j u hu => by
      have := World.ownsRow.cells h' (g := g) rfl j u hu
      have hadd : (⟨g, 0, none⟩ : Addr).add j = ⟨g, 0 + j, none⟩ := by unfold Addr.add; split <;> simp_all
      rw [hadd, Nat.zero_add] at this
      exact this
    exact ⟨g, cap, rfl, hb, hc _ _ (celv_at cs j hj).1, hc _ _ (celv_at cs j hj).2⟩

/-- the reference's machine -/
structure RM where
  cs : List (Int × Int)
  pc : Int
  fp : Int
  ap : Int
  rv : Int
  at' : Nat → Int
  is' : Nat → Int
  slot : Nat
  err : Int
def rmv (p : Nat) (v : Value) (s : RM) : Nat → Value
  | 0 => .int .i64 p
  | 1 => v
  | 2 => .int .i64 s.pc
  | 3 => .int .i64 s.fp
  | 4 => .int .i64 s.ap
  | 5 => .int .i64 s.rv
  | 6 => .int .i64 (s.at' 0)
  | 7 => .int .i64 (s.at' 1)
  | 8 => .int .i64 (s.at' 2)
  | 9 => .int .i64 (s.is' 0)
  | 10 => .int .i64 (s.is' 1)
  | 11 => .int .i64 (s.is' 2)
  | 12 => .int .i64 s.slot
  | _ => .int .i64 s.err

end Go.Proofs.YtlgcmeachjjmgajGreatDoor

namespace Go.Proofs.YtlgcmeachjjmgajGreatDoor
open Go.RowKit

def updM (f : Nat → Int) (i : Nat) (x : Int) : Nat → Int := fun j => if j = i then x else f j
def RM.shown (s : RM) (x y : Int) : RM := { s with at' := updM s.at' s.slot x, is' := updM s.is' s.slot y, slot := s.slot + 1 }
theorem rowF {w : World} {g n : Nat} {t : TypeId} {f : Nat → Value} (h : w.rowIs g t n f) (i : Nat) : w.frozen? ⟨g, i, none⟩ = false := h.frozen i
theorem gbM {w w' : World} {M i : Nat} {v : Value} (h : w.grownBy w' (some M)) : w.grownBy (w'.setCell ⟨M, i, none⟩ v) (some M) :=
  ⟨h.os, h.tape, h.output, by have := h.size; simpa [World.setCell] using this, fun k hk hne => (Below.heap_setCell _ _ _ _ (by show k ≠ M; intro e; exact hne (by rw [e]))).trans (h.block k hk hne)⟩

theorem gb_same (w : World) (M : Nat) : w.grownBy w (some M) := ⟨rfl, rfl, rfl, Nat.le_refl _, fun _ _ _ => rfl⟩
theorem gb_drewB {w w' : World} {g : Option Nat} (h : w.grownBy w' g) : w.grownBy w'.drew g := ⟨h.os, h.tape, h.output, h.size, h.block⟩
theorem fourteen {i : Nat} (h : i < 14) : i = 0 ∨ i = 1 ∨ i = 2 ∨ i = 3 ∨ i = 4 ∨ i = 5 ∨ i = 6 ∨ i = 7 ∨ i = 8 ∨ i = 9 ∨ i = 10 ∨ i = 11 ∨ i = 12 ∨ i = 13 := by omega
theorem rmv_at (k : Nat) (hk : k < 3) (p : Nat) (v : Value) (s : RM) (x : Int) : ∀ i, i < 14 → (if i = 6 + k then Value.int .i64 x else rmv p v s i) = rmv p v { s with at' := updM s.at' k x } i := fun i hi => by
  have h3 : k = 0 ∨ k = 1 ∨ k = 2 := by omega
  rcases h3 with rfl | rfl | rfl <;> rcases fourteen hi with rfl | rfl | rfl | rfl | rfl | rfl | rfl | rfl | rfl | rfl | rfl | rfl | rfl | rfl <;> simp [rmv, updM]
theorem rmv_is (k : Nat) (hk : k < 3) (p : Nat) (v : Value) (s : RM) (x : Int) : ∀ i, i < 14 → (if i = 9 + k then Value.int .i64 x else rmv p v s i) = rmv p v { s with is' := updM s.is' k x } i := fun i hi => by
  have h3 : k = 0 ∨ k = 1 ∨ k = 2 := by omega
  rcases h3 with rfl | rfl | rfl <;> rcases fourteen hi with rfl | rfl | rfl | rfl | rfl | rfl | rfl | rfl | rfl | rfl | rfl | rfl | rfl | rfl <;> simp [rmv, updM]
theorem rmv_slot (p : Nat) (v : Value) (s : RM) (k : Nat) : ∀ i, i < 14 → (if i = 12 then Value.int .i64 (k : Int) else rmv p v s i) = rmv p v { s with slot := k } i := fun i hi => by
  rcases fourteen hi with rfl | rfl | rfl | rfl | rfl | rfl | rfl | rfl | rfl | rfl | rfl | rfl | rfl | rfl <;> simp [rmv]
theorem rmv_err (p : Nat) (v : Value) (s : RM) (e : Int) : ∀ i, i < 14 → (if i = 13 then Value.int .i64 e else rmv p v s i) = rmv p v { s with err := e } i := fun i hi => by
  rcases fourteen hi with rfl | rfl | rfl | rfl | rfl | rfl | rfl | rfl | rfl | rfl | rfl | rfl | rfl | rfl <;> simp [rmv]
theorem rmv_cs (p : Nat) (v v' : Value) (s : RM) (c : List (Int × Int)) : ∀ i, i < 14 → (if i = 1 then v' else rmv p v s i) = rmv p v' { s with cs := c } i := fun i hi => by
  rcases fourteen hi with rfl | rfl | rfl | rfl | rfl | rfl | rfl | rfl | rfl | rfl | rfl | rfl | rfl | rfl <;> simp [rmv]

end Go.Proofs.YtlgcmeachjjmgajGreatDoor

namespace Go.Proofs.YtlgcmeachjjmgajGreatDoor
open Go.RowKit

theorem gb_low {N M : Nat} {w w' : World} (h : w.grownBy w' (some M)) (hN : N ≤ M) (hM : M < w.heap.size) : Below N w w' := ⟨h.os, h.tape, h.output, h.size, fun k hk => h.block k (by omega) (by intro e; injection e with e; omega)⟩
def RM.look (s : RM) (x : Int) : RM × Int := if s.err ≠ 0 then (s, 0) else if finz s.cs x < 0 then ({ s with err := 10 }, 0) else (s.shown x (cat s.cs (finz s.cs x).toNat).2, (cat s.cs (finz s.cs x).toNat).2)
def RM.must (s : RM) (b : Bool) : RM := if s.err = 0 ∧ b = false then { s with err := 7 } else s
def RM.tell (p : Nat) (s : RM) (x y : Int) : RM := if s.err ≠ 0 then s else if 0 ≤ finz s.cs x ∧ (cat s.cs (finz s.cs x).toNat).2 ≠ y % p then { s with err := 7 } else
  if finz s.cs x < 0 then ({ s with cs := s.cs ++ [(x, y % p)] } : RM).shown x (y % p) else s.shown x (y % p)
theorem finz_cases (cs : List (Int × Int)) (x : Int) : finz cs x = -1 ∨ ∃ i : Nat, finz cs x = i ∧ i < cs.length ∧ (cat cs i).1 = x := by
  unfold finz
  split
  · rename_i i h
    rw [List.findIdx?_eq_some_iff_getElem] at h
    obtain ⟨h1, h2, _⟩ := h
    exact .inr ⟨i, rfl, h1, by simpa [cat, h1] using h2⟩
  · exact .inl rfl

end Go.Proofs.YtlgcmeachjjmgajGreatDoor

namespace Go.Proofs.YtlgcmeachjjmgajGreatDoor
open Go.RowKit

theorem Tryz.infoCel : (Tryz.prog.info? 178).map (fun i => (i.zero, i.size, i.bytes)) = some (some (.agg #[.int .i64 0, .int .i64 0]), 2, 16) := by kernel_rfl

/-- what comes of two by an operation, and what becomes of the machine -/
def rkn (p : Nat) (op x y : Int) : Int := if op = 1 then (x + y) % p else if op = 2 then (x - y) % p else if op = 3 then x * y % p else if op = 4 then x * (invn p y : Int) % p else if x = y then 1 else 0
def RM.rck (s : RM) (op y : Int) : RM := if op = 4 then s.must (y != 0) else s

end Go.Proofs.YtlgcmeachjjmgajGreatDoor

namespace Go.Proofs.YtlgcmeachjjmgajGreatDoor
open Go.RowKit

structure Rg where
  pc : Int
  fp : Int
  ap : Int
  rv : Int
def stv (n : Rg) (s : RM) : Nat → Value
  | 0 => .int .i64 n.pc
  | 1 => .int .i64 n.fp
  | 2 => .int .i64 n.ap
  | 3 => .int .i64 n.rv
  | 4 => .int .i64 (s.at' 0)
  | 5 => .int .i64 (s.at' 1)
  | 6 => .int .i64 (s.at' 2)
  | 7 => .int .i64 (s.is' 0)
  | 8 => .int .i64 (s.is' 1)
  | _ => .int .i64 (s.is' 2)
theorem ten {i : Nat} (h : i < 10) : i = 0 ∨ i = 1 ∨ i = 2 ∨ i = 3 ∨ i = 4 ∨ i = 5 ∨ i = 6 ∨ i = 7 ∨ i = 8 ∨ i = 9 := by omega
theorem stv_pc (n : Rg) (s : RM) (x : Int) : ∀ i, i < 10 → (if i = 0 then Value.int .i64 x else stv n s i) = stv { n with pc := x } s i := fun i hi => by
  rcases ten hi with rfl | rfl | rfl | rfl | rfl | rfl | rfl | rfl | rfl | rfl <;> simp [stv]
theorem stv_fp (n : Rg) (s : RM) (x : Int) : ∀ i, i < 10 → (if i = 1 then Value.int .i64 x else stv n s i) = stv { n with fp := x } s i := fun i hi => by
  rcases ten hi with rfl | rfl | rfl | rfl | rfl | rfl | rfl | rfl | rfl | rfl <;> simp [stv]
theorem stv_ap (n : Rg) (s : RM) (x : Int) : ∀ i, i < 10 → (if i = 2 then Value.int .i64 x else stv n s i) = stv { n with ap := x } s i := fun i hi => by
  rcases ten hi with rfl | rfl | rfl | rfl | rfl | rfl | rfl | rfl | rfl | rfl <;> simp [stv]
theorem stv_rv (n : Rg) (s : RM) (x : Int) : ∀ i, i < 10 → (if i = 3 then Value.int .i64 x else stv n s i) = stv { n with rv := x } s i := fun i hi => by
  rcases ten hi with rfl | rfl | rfl | rfl | rfl | rfl | rfl | rfl | rfl | rfl <;> simp [stv]

end Go.Proofs.YtlgcmeachjjmgajGreatDoor

namespace Go.Proofs.YtlgcmeachjjmgajGreatDoor
open Go.RowKit

theorem fourM0 {W : World} {g : Nat} {a b c d : Value} {t : TypeId} (h : W.heap[g]? = some (.cells #[a, b, c, d] t (0, 0))) : W.cell? ⟨g, 0, none⟩ = some a := by simp [World.cell?, h]
theorem fourM1 {W : World} {g : Nat} {a b c d : Value} {t : TypeId} (h : W.heap[g]? = some (.cells #[a, b, c, d] t (0, 0))) : W.cell? ⟨g, 1, none⟩ = some b := by simp [World.cell?, h]
theorem fourM2 {W : World} {g : Nat} {a b c d : Value} {t : TypeId} (h : W.heap[g]? = some (.cells #[a, b, c, d] t (0, 0))) : W.cell? ⟨g, 2, none⟩ = some c := by simp [World.cell?, h]
theorem fourM3 {W : World} {g : Nat} {a b c d : Value} {t : TypeId} (h : W.heap[g]? = some (.cells #[a, b, c, d] t (0, 0))) : W.cell? ⟨g, 3, none⟩ = some d := by simp [World.cell?, h]
theorem belM (w : World) (n : Nat) : Below w.heap.size w (w.drewN n) := ⟨rfl, rfl, rfl, Nat.le_refl _, fun _ _ => rfl⟩
theorem row_newM (w : World) (cs : Array Value) (t : TypeId) (n : Nat) (f : Nat → Value) (hn : cs.size = n) (hf : ∀ i, i < n → cs[i]? = some (f i)) : (w.alloc (.cells cs t)).rowIs w.heap.size t n f :=
  ⟨cs, heap_alloc_new w _, hn, hf⟩
/-- what a step makes of the machine -/
def RM.three (p : Nat) (s : RM) (op A B C : Int) : RM :=
  let l1 := s.look A
  let l2 := l1.1.look B
  (l2.1.rck op l2.2).tell p C (rkn p op l1.2 l2.2)
def RM.step (p : Nat) (s : RM) (op a b c : Int) : RM × Rg :=
  let A := (s.fp + a) % (p : Int)
  let B := (s.fp + b) % (p : Int)
  let C := (s.fp + c) % (p : Int)
  let n : Rg := ⟨(s.pc + 1) % (p : Int), s.fp, s.ap, s.rv⟩
  if op = 1 ∨ op = 2 ∨ op = 3 ∨ op = 4 ∨ op = 6 then (s.three p op A B C, n)
  else if op = 5 then (s.tell p A b, n)
  else if op = 7 then (((s.look A).1.look B).1.must ((s.look A).2 == ((s.look A).1.look B).2), n)
  else if op = 8 then (s, { n with pc := a % (p : Int) })
  else if op = 9 then ((s.look A).1, if (s.look A).2 = 0 then { n with pc := b % (p : Int) } else n)
  else if op = 10 then ((s.tell p s.ap s.fp).tell p ((s.ap + 1) % (p : Int)) (s.pc + 1), ⟨a % (p : Int), (s.ap + 2) % (p : Int), ((s.ap + 2) % (p : Int) + b) % (p : Int), s.rv⟩)
  else if op = 11 then
    let l1 := s.look ((s.fp - 2) % (p : Int))
    let l2 := l1.1.look ((s.fp - 1) % (p : Int))
    let l3 := l2.1.look A
    (l3.1, ⟨l2.2, l1.2, s.ap, l3.2⟩)
  else if op = 12 then (s.tell p A s.rv, n)
  else if op = 13 then ((s.look A).1.tell p (((s.ap + 2) % (p : Int) + b) % (p : Int)) (s.look A).2, n)
  else if op = 0 then ((s.look A).1, n)
  else ({ s with err := 7 }, n)
def put10 (W : World) (g : Nat) (f : Nat → Value) : World := (((((((((W.setCell ⟨g, 0, none⟩ (f 0)).setCell ⟨g, 1, none⟩ (f 1)).setCell ⟨g, 2, none⟩ (f 2)).setCell ⟨g, 3, none⟩ (f 3)).setCell ⟨g, 4, none⟩ (f 4)).setCell ⟨g, 5, none⟩ (f 5)).setCell ⟨g, 6, none⟩ (f 6)).setCell ⟨g, 7, none⟩ (f 7)).setCell ⟨g, 8, none⟩ (f 8)).setCell ⟨g, 9, none⟩ (f 9)
theorem put10_oth (W : World) (g : Nat) (f : Nat → Value) (k : Nat) (h : k ≠ g) : (put10 W g f).heap[k]? = W.heap[k]? := by
  unfold put10
  rw [Below.heap_setCell _ _ _ _ h, Below.heap_setCell _ _ _ _ h, Below.heap_setCell _ _ _ _ h, Below.heap_setCell _ _ _ _ h, Below.heap_setCell _ _ _ _ h, Below.heap_setCell _ _ _ _ h, Below.heap_setCell _ _ _ _ h, Below.heap_setCell _ _ _ _ h, Below.heap_setCell _ _ _ _ h, Below.heap_setCell _ _ _ _ h]
theorem put10_row {W : World} {g : Nat} {t : TypeId} {z : Nat → Value} (h : W.rowIs g t 10 z) (f : Nat → Value) : (put10 W g f).rowIs g t 10 f :=
  ((((((((((h.set 0 (f 0)).set 1 (f 1)).set 2 (f 2)).set 3 (f 3)).set 4 (f 4)).set 5 (f 5)).set 6 (f 6)).set 7 (f 7)).set 8 (f 8)).set 9 (f 9)).congr (fun i hi => by
    rcases ten hi with rfl | rfl | rfl | rfl | rfl | rfl | rfl | rfl | rfl | rfl <;> simp)
theorem row10_arr {W : World} {g : Nat} {t : TypeId} {f : Nat → Value} (h : W.rowIs g t 10 f) : W.heap[g]? = some (.cells #[f 0, f 1, f 2, f 3, f 4, f 5, f 6, f 7, f 8, f 9] t (0, 0)) := by
  obtain ⟨cs, hb, hn, hf⟩ := h
  rw [hb]
  congr 2
  refine Array.ext (by simpa using hn) (fun i h1 h2 => ?_)
  have hi : i < 10 := by simpa [hn] using h1
  have := hf i hi
  rw [Array.getElem?_eq_getElem h1] at this
  injection this with this
  rw [this]
  rcases ten hi with rfl | rfl | rfl | rfl | rfl | rfl | rfl | rfl | rfl | rfl <;> rfl
/-- what is known of a machine on the way -/
def SOk (p n k : Nat) (s : RM) : Prop := (∀ j, j < s.cs.length → 0 ≤ (cat s.cs j).2 ∧ (cat s.cs j).2 < p) ∧ s.cs.length ≤ n ∧ (s.err = 0 → s.slot ≤ k)
theorem look_ok {p n k : Nat} {s : RM} (hp : 3 ≤ p) (h : SOk p n k s) (x : Int) : SOk p n (k + 1) (s.look x).1 ∧ 0 ≤ (s.look x).2 ∧ (s.look x).2 < p := by
  unfold RM.look
  split
  · rename_i h1
    exact ⟨⟨h.1, h.2.1, fun e => absurd e h1⟩, by omega, by show (0 : Int) < p; omega⟩
  · rename_i h1
    split
    · exact ⟨⟨h.1, h.2.1, fun e => absurd (show (10 : Int) = 0 from e) (by decide)⟩, by omega, by show (0 : Int) < p; omega⟩
    · rename_i h2
      rcases finz_cases s.cs x with hm | ⟨i, hi, hil, _⟩
      · rw [hm] at h2; exact absurd (by decide) h2
      · have hb := h.1 i hil
        rw [hi, Int.toNat_natCast]
        refine ⟨⟨h.1, h.2.1, fun e => ?_⟩, hb⟩
        have := h.2.2 e
        show s.slot + 1 ≤ k + 1
        omega
theorem must_ok {p n k : Nat} {s : RM} (h : SOk p n k s) (b : Bool) : SOk p n k (s.must b) := by
  unfold RM.must
  split
  · exact ⟨h.1, h.2.1, fun e => absurd (show (7 : Int) = 0 from e) (by decide)⟩
  · exact h
theorem rck_ok {p n k : Nat} {s : RM} (h : SOk p n k s) (op y : Int) : SOk p n k (s.rck op y) := by
  unfold RM.rck
  split
  · exact must_ok h _
  · exact h
theorem cat_app {cs : List (Int × Int)} {d : Int × Int} {j : Nat} (h : j < cs.length) : cat (cs ++ [d]) j = cat cs j := by simp [cat, List.getElem?_append_left h]
theorem cat_last (cs : List (Int × Int)) (d : Int × Int) : cat (cs ++ [d]) cs.length = d := by simp [cat]
theorem tell_ok {p n k : Nat} {s : RM} (hp : 3 ≤ p) (h : SOk p n k s) (x y : Int) : SOk p (n + 1) (k + 1) (s.tell p x y) := by
  unfold RM.tell
  split
  · rename_i h1
    exact ⟨h.1, by have := h.2.1; omega, fun e => absurd e h1⟩
  · rename_i h1
    split
    · exact ⟨h.1, by have := h.2.1; show s.cs.length ≤ n + 1; omega, fun e => absurd (show (7 : Int) = 0 from e) (by decide)⟩
    · split
      · refine ⟨fun j hj => ?_, ?_, fun e => ?_⟩
        · change j < (s.cs ++ [(x, y % (p : Int))]).length at hj
          show 0 ≤ (cat (s.cs ++ [(x, y % (p : Int))]) j).2 ∧ (cat (s.cs ++ [(x, y % (p : Int))]) j).2 < p
          by_cases hjl : j < s.cs.length
          · rw [cat_app hjl]; exact h.1 j hjl
          · obtain rfl : j = s.cs.length := by simp at hj; omega
            rw [cat_last]
            exact emod_bounds y p hp
        · show (s.cs ++ [(x, y % (p : Int))]).length ≤ n + 1
          have := h.2.1
          simp
          omega
        · have := h.2.2 e
          show s.slot + 1 ≤ k + 1
          omega
      · refine ⟨h.1, by have := h.2.1; show s.cs.length ≤ n + 1; omega, fun e => ?_⟩
        have := h.2.2 e
        show s.slot + 1 ≤ k + 1
        omega
theorem rkn_bounds {p : Nat} (hp : 3 ≤ p) (op x y : Int) : 0 ≤ rkn p op x y ∧ rkn p op x y < p := by
  unfold rkn
  split
  · exact emod_bounds _ p hp
  · split
    · exact emod_bounds _ p hp
    · split
      · exact emod_bounds _ p hp
      · split
        · exact emod_bounds _ p hp
        · split
          · omega
          · omega

end Go.Proofs.YtlgcmeachjjmgajGreatDoor

namespace Go.Proofs.YtlgcmeachjjmgajGreatDoor
open Go.RowKit

end Go.Proofs.YtlgcmeachjjmgajGreatDoor

namespace Go.Proofs.YtlgcmeachjjmgajGreatDoor
open Go.RowKit

end Go.Proofs.YtlgcmeachjjmgajGreatDoor

namespace Go.Proofs.YtlgcmeachjjmgajGreatDoor
open Go.RowKit

end Go.Proofs.YtlgcmeachjjmgajGreatDoor

namespace Go.Proofs.YtlgcmeachjjmgajGreatDoor
open Go.RowKit

end Go.Proofs.YtlgcmeachjjmgajGreatDoor

namespace Go.Proofs.YtlgcmeachjjmgajGreatDoor
open Go.RowKit

end Go.Proofs.YtlgcmeachjjmgajGreatDoor

namespace Go.Proofs.YtlgcmeachjjmgajGreatDoor
open Go.RowKit

end Go.Proofs.YtlgcmeachjjmgajGreatDoor

namespace Go.Proofs.YtlgcmeachjjmgajGreatDoor
open Go.RowKit

end Go.Proofs.YtlgcmeachjjmgajGreatDoor

namespace Go.Proofs.YtlgcmeachjjmgajGreatDoor
open Go.RowKit

end Go.Proofs.YtlgcmeachjjmgajGreatDoor

namespace Go.Proofs.YtlgcmeachjjmgajGreatDoor
open Go.RowKit

theorem tell_regs {p : Nat} {s : RM} {x y : Int} : (s.tell p x y).pc = s.pc ∧ (s.tell p x y).rv = s.rv := by
  unfold RM.tell
  split
  · exact ⟨rfl, rfl⟩
  · split
    · exact ⟨rfl, rfl⟩
    · split <;> exact ⟨rfl, rfl⟩

end Go.Proofs.YtlgcmeachjjmgajGreatDoor

namespace Go.Proofs.YtlgcmeachjjmgajGreatDoor
open Go.RowKit

end Go.Proofs.YtlgcmeachjjmgajGreatDoor

namespace Go.Proofs.YtlgcmeachjjmgajGreatDoor
open Go.RowKit

end Go.Proofs.YtlgcmeachjjmgajGreatDoor

namespace Go.Proofs.YtlgcmeachjjmgajGreatDoor
open Go.RowKit

end Go.Proofs.YtlgcmeachjjmgajGreatDoor

namespace Go.Proofs.YtlgcmeachjjmgajGreatDoor
open Go.RowKit

end Go.Proofs.YtlgcmeachjjmgajGreatDoor

namespace Go.Proofs.YtlgcmeachjjmgajGreatDoor
open Go.RowKit

end Go.Proofs.YtlgcmeachjjmgajGreatDoor

namespace Go.Proofs.YtlgcmeachjjmgajGreatDoor
open Go.RowKit

structure InsZ where
  op : Int
  a : Int
  b : Int
  c : Int
def insat (L : List InsZ) (k : Nat) : InsZ := L.getD k ⟨0, 0, 0, 0⟩
/-- instructions in memory -/
structure LstI (n0 : Nat) (w : World) (a : Option Addr) (cap : Nat) (L : List InsZ) : Prop where
  row : ∀ k, k < L.length → ∃ b o, a = some ⟨b, o, none⟩ ∧ b < n0 ∧ w.cell? ⟨b, o + k * 4, none⟩ = some (.int .i64 (insat L k).op) ∧ w.cell? ⟨b, o + k * 4 + 1, none⟩ = some (.int .i64 (insat L k).a) ∧ w.cell? ⟨b, o + k * 4 + 2, none⟩ = some (.int .i64 (insat L k).b) ∧ w.cell? ⟨b, o + k * 4 + 3, none⟩ = some (.int .i64 (insat L k).c)
  room : L.length ≤ cap
  nil : a = none → cap = 0
theorem LstI.below {n0 : Nat} {A B : World} {a : Option Addr} {cap : Nat} {L : List InsZ} (r : LstI n0 A a cap L) (h : Below n0 A B) : LstI n0 B a cap L :=
  ⟨fun k hk => by
    obtain ⟨b, o, h1, h2, h3, h4, h5, h6⟩ := r.row k hk
    exact ⟨b, o, h1, h2, (h.cell (p := ⟨b, o + k * 4, none⟩) h2).trans h3, (h.cell (p := ⟨b, o + k * 4 + 1, none⟩) h2).trans h4, (h.cell (p := ⟨b, o + k * 4 + 2, none⟩) h2).trans h5, (h.cell (p := ⟨b, o + k * 4 + 3, none⟩) h2).trans h6⟩, r.room, r.nil⟩
theorem LstI.mono {n0 n1 : Nat} {A : World} {a : Option Addr} {cap : Nat} {L : List InsZ} (r : LstI n0 A a cap L) (h : n0 ≤ n1) : LstI n1 A a cap L :=
  ⟨fun k hk => by
    obtain ⟨b, o, h1, h2, h3⟩ := r.row k hk
    exact ⟨b, o, h1, by omega, h3⟩, r.room, r.nil⟩
/-- each number of an instruction is an int -/
def InsB (L : List InsZ) : Prop := ∀ k, k < L.length → (-9223372036854775808 ≤ (insat L k).op ∧ (insat L k).op ≤ 9223372036854775807) ∧ (-9223372036854775808 ≤ (insat L k).a ∧ (insat L k).a ≤ 9223372036854775807) ∧ (-9223372036854775808 ≤ (insat L k).b ∧ (insat L k).b ≤ 9223372036854775807) ∧ (-9223372036854775808 ≤ (insat L k).c ∧ (insat L k).c ≤ 9223372036854775807)

/-- what is wrong with code -/
def fz6 (p : Int) (size : Int) (n : Nat) (limit : Int) : Int := if size < 0 ∨ 65536 < size ∨ n = 0 ∨ 4096 < n ∨ p < (n : Int) then 2 else if limit < 0 ∨ 16384 < limit then 3 else 0

/-- a step as ten numbers -/
def stl (n : Rg) (s : RM) : List Int := [n.pc, n.fp, n.ap, n.rv, s.at' 0, s.at' 1, s.at' 2, s.is' 0, s.is' 1, s.is' 2]
def RM.now (s : RM) : List Int := stl ⟨s.pc, s.fp, s.ap, s.rv⟩ s
def freshM (cs : List (Int × Int)) (n : Rg) : RM := ⟨cs, n.pc, n.fp, n.ap, n.rv, fun _ => 0, fun _ => 0, 0, 0⟩
/-- what a walk comes to -/
inductive WR where
  | bad (e : Int)
  | good (l : List (List Int)) (cs : List (Int × Int))
def mgo (p : Nat) (L : List InsZ) (limit : Nat) : Nat → RM → List (List Int) → WR
  | 0, _, _ => .bad 8
  | f + 1, s, done =>
    if (L.length : Int) ≤ s.pc then .bad 7
    else if done.length = limit ∧ (insat L s.pc.toNat).op ≠ 0 then .bad 8
    else if (s.step p (insat L s.pc.toNat).op (insat L s.pc.toNat).a (insat L s.pc.toNat).b (insat L s.pc.toNat).c).1.err ≠ 0 then .bad (s.step p (insat L s.pc.toNat).op (insat L s.pc.toNat).a (insat L s.pc.toNat).b (insat L s.pc.toNat).c).1.err
    else if (insat L s.pc.toNat).op = 0 then .good (done ++ [(s.step p (insat L s.pc.toNat).op (insat L s.pc.toNat).a (insat L s.pc.toNat).b (insat L s.pc.toNat).c).1.now]) (s.step p (insat L s.pc.toNat).op (insat L s.pc.toNat).a (insat L s.pc.toNat).b (insat L s.pc.toNat).c).1.cs
    else mgo p L limit f (freshM (s.step p (insat L s.pc.toNat).op (insat L s.pc.toNat).a (insat L s.pc.toNat).b (insat L s.pc.toNat).c).1.cs (s.step p (insat L s.pc.toNat).op (insat L s.pc.toNat).a (insat L s.pc.toNat).b (insat L s.pc.toNat).c).2) (done ++ [(s.step p (insat L s.pc.toNat).op (insat L s.pc.toNat).a (insat L s.pc.toNat).b (insat L s.pc.toNat).c).1.now])
def mwalk (p : Nat) (size : Int) (L : List InsZ) (limit : Nat) : WR := mgo p L limit (limit + 1) (freshM [(0, 0)] ⟨0, 1, (1 + size) % (p : Int), 0⟩) []

def RgB (p : Nat) (n : Rg) : Prop := (0 ≤ n.pc ∧ n.pc < p) ∧ (0 ≤ n.fp ∧ n.fp < p) ∧ (0 ≤ n.ap ∧ n.ap < p) ∧ (0 ≤ n.rv ∧ n.rv < p)
theorem SOk.more {p n m k j : Nat} {s : RM} (h : SOk p n k s) (hm : n ≤ m) (hj : k ≤ j) : SOk p m j s := ⟨h.1, Nat.le_trans h.2.1 hm, fun e => Nat.le_trans (h.2.2 e) hj⟩
theorem rg_ite {p : Nat} (P : Prop) [Decidable P] (x y : Rg) (hx : RgB p x) (hy : RgB p y) : RgB p (if P then x else y) := by split <;> assumption
/-- a step keeps what is known -/
theorem step_ok {p n : Nat} {s : RM} (hp : 3 ≤ p) (h : SOk p n 0 s) (hr : RgB p ⟨s.pc, s.fp, s.ap, s.rv⟩) (op a b c : Int) : SOk p (n + 2) 3 (s.step p op a b c).1 ∧ RgB p (s.step p op a b c).2 := by
  have e := fun x => emod_bounds x p hp
  obtain ⟨r1, r2, r3, r4⟩ := hr
  have hn : RgB p ⟨(s.pc + 1) % (p : Int), s.fp, s.ap, s.rv⟩ := ⟨e _, r2, r3, r4⟩
  unfold RM.step
  split
  · refine ⟨?_, hn⟩
    unfold RM.three
    have l1 := look_ok hp h ((s.fp + a) % (p : Int))
    have l2 := look_ok hp l1.1 ((s.fp + b) % (p : Int))
    exact (tell_ok hp (rck_ok l2.1 op _) _ _).more (by omega) (by omega)
  · split
    · exact ⟨(tell_ok hp h _ _).more (by omega) (by omega), hn⟩
    · split
      · have l1 := look_ok hp h ((s.fp + a) % (p : Int))
        have l2 := look_ok hp l1.1 ((s.fp + b) % (p : Int))
        exact ⟨(must_ok l2.1 _).more (by omega) (by omega), hn⟩
      · split
        · exact ⟨h.more (by omega) (by omega), e _, r2, r3, r4⟩
        · split
          · have l1 := look_ok hp h ((s.fp + a) % (p : Int))
            exact ⟨l1.1.more (by omega) (by omega), rg_ite _ _ _ ⟨e _, r2, r3, r4⟩ hn⟩
          · split
            · exact ⟨(tell_ok hp (tell_ok hp h _ _) _ _).more (by omega) (by omega), e _, e _, e _, r4⟩
            · split
              · have l1 := look_ok hp h ((s.fp - 2) % (p : Int))
                have l2 := look_ok hp l1.1 ((s.fp - 1) % (p : Int))
                have l3 := look_ok hp l2.1 ((s.fp + a) % (p : Int))
                exact ⟨l3.1.more (by omega) (by omega), l2.2, l1.2, r3, l3.2⟩
              · split
                · exact ⟨(tell_ok hp h _ _).more (by omega) (by omega), hn⟩
                · split
                  · have l1 := look_ok hp h ((s.fp + a) % (p : Int))
                    exact ⟨(tell_ok hp l1.1 _ _).more (by omega) (by omega), hn⟩
                  · split
                    · have l1 := look_ok hp h ((s.fp + a) % (p : Int))
                      exact ⟨l1.1.more (by omega) (by omega), hn⟩
                    · exact ⟨⟨h.1, Nat.le_trans h.2.1 (by omega), fun e => absurd (show (7 : Int) = 0 from e) (by decide)⟩, hn⟩

end Go.Proofs.YtlgcmeachjjmgajGreatDoor

namespace Go.Proofs.YtlgcmeachjjmgajGreatDoor
open Go.RowKit Go.Maps

theorem keyI : Keyed Tryz.prog 3 := int_keyed Tryz.underlying3
theorem zeroI (w : World) : (zeroValue 3).run Tryz.prog w = .ok (.int .i64 0) w := by kernel_rfl
/-- what a cell is -/
def cvl (cs : List (Int × Int)) (x : Int) : Int := if 0 ≤ finz cs x then (cat cs (finz cs x).toNat).2 else 0
/-- a map that reads as cells that are told -/
def CMap (D : DataW Unit) (cs : List (Int × Int)) : Prop := ∀ x : Int, (-9223372036854775808 ≤ x ∧ x ≤ 9223372036854775807) → Maps.has D (.int .i64 x) = decide (0 ≤ finz cs x) ∧ D.atKey (.int .i64 x) (.lit (.int .i64 0)) = .lit (.int .i64 (cvl cs x))
def MapAt (w : World) (B n : Nat) (cs : List (Int × Int)) : Prop := ∃ D : DataW Unit, w.ownsMap Tryz.prog 3 (plainElem Tryz.prog 3) B n D ∧ CMap D cs
theorem MapAt.kept {w w' : World} {B n : Nat} {cs : List (Int × Int)} {row : Option Nat} (h : MapAt w B n cs) (hg : w.grownBy w' row) (hne : some B ≠ row) : MapAt w' B n cs := by
  obtain ⟨D, h1, h2⟩ := h
  exact ⟨D, h1.kept hg hne, h2⟩
/-- a run that did not go on -/
def pnc (T : TypeId) : Ending := .panicked [{ v := .iface T (.agg #[]), recovered := false }]
/-- a run in memory -/
def rnv (b B : Nat) (aL : Option Addr) (nL cL : Nat) (n : Rg) : Nat → Value
  | 0 => .pointer (some ⟨b, 0, none⟩)
  | 1 => .slice aL nL cL
  | 2 => .map (some B)
  | 3 => .int .i64 n.pc
  | 4 => .int .i64 n.fp
  | 5 => .int .i64 n.ap
  | _ => .int .i64 n.rv
def RnAt (w : World) (R b B : Nat) (aL : Option Addr) (nL cL : Nat) (n : Rg) : Prop := w.rowIs R 176 7 (rnv b B aL nL cL n)
theorem key64 {x : Int} (h : -9223372036854775808 ≤ x ∧ x ≤ 9223372036854775807) : keyOf Tryz.prog 3 (.int .i64 x) = some (.int .i64 x) := keyOf_int_mk Tryz.underlying3 (WalkArith.wf_i64 h)

theorem pmust_yes (w : World) : Calls Tryz.prog 135 #[.bool true] w fun e w' => e = .returned (.tuple #[]) ∧ w' = w := by
  have hnot : ∀ (x : Bool) (w : World), (Op.unary .not (.bool x)).run Tryz.prog w = .ok (.bool (!x)) w := fun _ _ => rfl
  go_enter Tryz.func135, Tryz.ntmps135
  go_wp2_with fail
  go_end0
  exact ⟨rfl, rfl⟩
theorem pmust_no (w : World) : Calls Tryz.prog 135 #[.bool false] w fun e w' => e = pnc 170 ∧ w' = w := by
  have hnot : ∀ (x : Bool) (w : World), (Op.unary .not (.bool x)).run Tryz.prog w = .ok (.bool (!x)) w := fun _ _ => rfl
  go_enter Tryz.func135, Tryz.ntmps135
  go_wp2_with fail
  exact ⟨rfl, rfl, rfl⟩
theorem pone_any (b : Bool) (w : World) : Calls Tryz.prog 169 #[.bool b] w fun e w' => e = .returned (.int .i64 (if b then 1 else 0)) ∧ w' = w := by
  cases b
  all_goals
    go_enter Tryz.func169, Tryz.ntmps169
    go_wp2_with fail
    go_ret
    exact ⟨rfl, rfl⟩

theorem plook_yes (R b B nB : Nat) (aL : Option Addr) (nL cL : Nat) (n : Rg) (cs : List (Int × Int)) (x : Int) (w : World) (hR : RnAt w R b B aL nL cL n) (hM : MapAt w B nB cs) (hx : -9223372036854775808 ≤ x ∧ x ≤ 9223372036854775807) (ht : 0 ≤ finz cs x) :
    Calls Tryz.prog 168 #[.pointer (some ⟨R, 0, none⟩), .int .i64 x] w fun e w' => e = .returned (.int .i64 (cvl cs x)) ∧ w' = w := by
  have hnot : ∀ (x : Bool) (w : World), (Op.unary .not (.bool x)).run Tryz.prog w = .ok (.bool (!x)) w := fun _ _ => rfl
  obtain ⟨D, hD, hC⟩ := hM
  have HC := hid (hC x hx)
  have c2 : w.cell? ⟨R, 2, none⟩ = some (.map (some B)) := hR.cell (i := 2) (by decide)
  have HT := hid ht
  clear hC hR ht
  go_enter Tryz.func168, Tryz.ntmps168
  go_wp2_with (at_lookup; refine wpList_lookup_own_ok_int _ rfl _ _ 122 rfl 3 3 .i64 keyI Tryz.underlying122 Tryz.underlying3 (zeroI _) B nB _ rfl hD _ _ rfl (key64 hx) ?_; intro c hat hwc; rw [HC.out.1, decide_eq_true HT.out]; obtain rfl : c = cvl cs x := by (rw [HC.out.2] at hat; injection hat with hat; injection hat with _ hat; exact hat.symm))
  go_ret
  exact ⟨rfl, rfl⟩

theorem plook_no (R b B nB : Nat) (aL : Option Addr) (nL cL : Nat) (n : Rg) (cs : List (Int × Int)) (x : Int) (w : World) (hR : RnAt w R b B aL nL cL n) (hM : MapAt w B nB cs) (hx : -9223372036854775808 ≤ x ∧ x ≤ 9223372036854775807) (ht : ¬ 0 ≤ finz cs x) :
    Calls Tryz.prog 168 #[.pointer (some ⟨R, 0, none⟩), .int .i64 x] w fun e w' => e = pnc 169 ∧ w' = w := by
  have hnot : ∀ (x : Bool) (w : World), (Op.unary .not (.bool x)).run Tryz.prog w = .ok (.bool (!x)) w := fun _ _ => rfl
  obtain ⟨D, hD, hC⟩ := hM
  have HC := hid (hC x hx)
  have c2 : w.cell? ⟨R, 2, none⟩ = some (.map (some B)) := hR.cell (i := 2) (by decide)
  have HT := hid ht
  clear hC hR ht
  go_enter Tryz.func168, Tryz.ntmps168
  go_wp2_with (at_lookup; refine wpList_lookup_own_ok_int _ rfl _ _ 122 rfl 3 3 .i64 keyI Tryz.underlying122 Tryz.underlying3 (zeroI _) B nB _ rfl hD _ _ rfl (key64 hx) ?_; intro c hat hwc; rw [HC.out.1, decide_eq_false HT.out]; obtain rfl : c = cvl cs x := by (rw [HC.out.2] at hat; injection hat with hat; injection hat with _ hat; exact hat.symm))
  exact ⟨rfl, rfl, rfl⟩

theorem finz_app {cs : List (Int × Int)} {d : Int × Int} {x : Int} : finz (cs ++ [d]) x = if 0 ≤ finz cs x then finz cs x else if d.1 = x then (cs.length : Int) else -1 := by
  unfold finz
  rw [List.findIdx?_append]
  cases h : cs.findIdx? (fun c => c.1 == x) with
  | some i => simp
  | none =>
    by_cases hd : d.1 = x
    · simp [hd, List.findIdx?_cons]
    · simp [hd, List.findIdx?_cons]
theorem finz_bound {cs : List (Int × Int)} {x : Int} (h : 0 ≤ finz cs x) : (finz cs x).toNat < cs.length ∧ (cat cs (finz cs x).toNat).1 = x := by
  unfold finz at h ⊢
  cases hf : cs.findIdx? (fun c => c.1 == x) with
  | none => rw [hf] at h; simp at h
  | some i =>
    rw [hf] at h
    simp only [Int.toNat_natCast]
    obtain ⟨h1, h2, _⟩ := List.findIdx?_eq_some_iff_getElem.1 hf
    refine ⟨h1, ?_⟩
    simp [cat, h1]
    simpa using h2
/-- the cells behind a telling -/
def tld (cs : List (Int × Int)) (x y : Int) : List (Int × Int) := if 0 ≤ finz cs x then cs else cs ++ [(x, y)]
theorem tld_finz {cs : List (Int × Int)} {x y z : Int} : (0 ≤ finz (tld cs x y) z) ↔ (0 ≤ finz cs z ∨ z = x) := by
  unfold tld
  split
  · rename_i h
    constructor
    · exact .inl
    · rintro (h2 | rfl)
      · exact h2
      · exact h
  · rename_i h
    rw [finz_app]
    constructor
    · intro h2
      by_cases h3 : 0 ≤ finz cs z
      · exact .inl h3
      · rw [if_neg h3] at h2
        by_cases h4 : x = z
        · exact .inr h4.symm
        · simp only [] at h2
          rw [if_neg h4] at h2
          omega
    · rintro (h2 | rfl)
      · rw [if_pos h2]; exact h2
      · rw [if_neg h, if_pos rfl]; omega
theorem tld_cvl {cs : List (Int × Int)} {x y z : Int} (hs : 0 ≤ finz cs x → cvl cs x = y) : cvl (tld cs x y) z = if z = x then y else cvl cs z := by
  by_cases hz : z = x
  · subst hz
    rw [if_pos rfl]
    unfold tld
    split
    · rename_i h; exact hs h
    · rename_i h
      unfold cvl
      rw [finz_app, if_neg h, if_pos rfl, if_pos (by omega)]
      simp [cat]
  · rw [if_neg hz]
    unfold tld
    split
    · rfl
    · rename_i h
      unfold cvl
      rw [finz_app]
      by_cases h2 : 0 ≤ finz cs z
      · rw [if_pos h2, if_pos h2, if_pos h2, cat_app (finz_bound h2).1]
      · rw [if_neg h2, if_neg (show ¬ (x, y).1 = z from fun e => hz e.symm), if_neg (by omega), if_neg h2]
theorem cmap_put {D : DataW Unit} {cs : List (Int × Int)} {x y : Int} (h : CMap D cs) (hi : IsMap D) (hs : 0 ≤ finz cs x → cvl cs x = y) : CMap (D.put (.int .i64 x) (.lit (.int .i64 y))) (tld cs x y) := fun z hz => by
  rw [tld_cvl hs]
  by_cases hzx : z = x
  · subst hzx
    rw [has_put_same (k := Lit.int .i64 z) hi trivial, atKey_put_same (k := Lit.int .i64 z) hi trivial, if_pos rfl, decide_eq_true (tld_finz.2 (.inr rfl))]
    exact ⟨rfl, rfl⟩
  · have hne : (Lit.int .i64 z) ≠ (Lit.int .i64 x) := by intro e; injection e with _ e; exact hzx e
    rw [has_put_other hne, atKey_put_other hne, if_neg hzx, (h z hz).1, (h z hz).2]
    refine ⟨?_, rfl⟩
    rw [decide_eq_decide]
    constructor
    · exact fun h2 => tld_finz.2 (.inl h2)
    · intro h2
      rcases tld_finz.1 h2 with h3 | h3
      · exact h3
      · exact absurd h3 hzx

theorem ptell_yes (R b B nB : Nat) (aL : Option Addr) (nL cL : Nat) (n : Rg) (cs : List (Int × Int)) (x y : Int) (w : World) (hR : RnAt w R b B aL nL cL n) (hM : MapAt w B nB cs) (hnB : nB < maxLen) (hx : -9223372036854775808 ≤ x ∧ x ≤ 9223372036854775807) (hy : -9223372036854775808 ≤ y ∧ y ≤ 9223372036854775807) (hs : 0 ≤ finz cs x → cvl cs x = y) :
    Calls Tryz.prog 167 #[.pointer (some ⟨R, 0, none⟩), .int .i64 x, .int .i64 y] w fun e w' => e = .returned (.tuple #[]) ∧ MapAt w' B (nB + 1) (tld cs x y) ∧ w.grownBy w' (some B) := by
  have hnot : ∀ (x : Bool) (w : World), (Op.unary .not (.bool x)).run Tryz.prog w = .ok (.bool (!x)) w := fun _ _ => rfl
  obtain ⟨D, hD, hC⟩ := hM
  have HC := hid (hC x hx)
  have HP := hid (cmap_put hC hD.isMap hs)
  have HS := hid hs
  have HMU := hid (pmust_yes w)
  have c2 : w.cell? ⟨R, 2, none⟩ = some (.map (some B)) := hR.cell (i := 2) (by decide)
  clear hC hR hs
  by_cases ht : 0 ≤ finz cs x
  · have he : (cvl cs x == y) = true := by rw [HS.out ht]; simp
    have HT := hid ht
    clear ht
    go_enter Tryz.func167, Tryz.ntmps167
    go_wp2_with (first | (at_lookup; refine wpList_lookup_own_ok_int _ rfl _ _ 122 rfl 3 3 .i64 keyI Tryz.underlying122 Tryz.underlying3 (zeroI _) B nB _ rfl hD _ _ rfl (key64 hx) ?_; intro c hat hwc; rw [HC.out.1, decide_eq_true HT.out]; obtain rfl : c = cvl cs x := by (rw [HC.out.2] at hat; injection hat with hat; injection hat with _ hat; exact hat.symm)) | (at_mapUpdate; refine wpList_mapUpdate_own _ rfl _ _ _ 122 rfl 3 3 keyI Tryz.underlying122 _ B nB _ rfl hD hnB _ _ _ rfl rfl (key64 hx) _ [] (plainElem_int Tryz.underlying3 (WalkArith.wf_i64 hy)) ?_; intro w1 hown1 hgrow1))
    refine HMU.out.mono ?_
    rintro e w2 ⟨rfl, rfl⟩
    go_wp2_with (first | (at_mapUpdate; refine wpList_mapUpdate_own _ rfl _ _ _ 122 rfl 3 3 keyI Tryz.underlying122 _ B nB _ rfl hD hnB _ _ _ rfl rfl (key64 hx) _ [] (plainElem_int Tryz.underlying3 (WalkArith.wf_i64 hy)) ?_; intro w1 hown1 hgrow1))
    go_end0
    exact ⟨rfl, ⟨_, hown1, HP.out⟩, hgrow1⟩
  · have HT := hid ht
    clear ht
    go_enter Tryz.func167, Tryz.ntmps167
    go_wp2_with (first | (at_lookup; refine wpList_lookup_own_ok_int _ rfl _ _ 122 rfl 3 3 .i64 keyI Tryz.underlying122 Tryz.underlying3 (zeroI _) B nB _ rfl hD _ _ rfl (key64 hx) ?_; intro c hat hwc; rw [HC.out.1, decide_eq_false HT.out]; obtain rfl : c = cvl cs x := by (rw [HC.out.2] at hat; injection hat with hat; injection hat with _ hat; exact hat.symm)))
    refine HMU.out.mono ?_
    rintro e w2 ⟨rfl, rfl⟩
    go_wp2_with (first | (at_mapUpdate; refine wpList_mapUpdate_own _ rfl _ _ _ 122 rfl 3 3 keyI Tryz.underlying122 _ B nB _ rfl hD hnB _ _ _ rfl rfl (key64 hx) _ [] (plainElem_int Tryz.underlying3 (WalkArith.wf_i64 hy)) ?_; intro w1 hown1 hgrow1))
    go_end0
    exact ⟨rfl, ⟨_, hown1, HP.out⟩, hgrow1⟩
theorem ptell_no (R b B nB : Nat) (aL : Option Addr) (nL cL : Nat) (n : Rg) (cs : List (Int × Int)) (x y : Int) (w : World) (hR : RnAt w R b B aL nL cL n) (hM : MapAt w B nB cs) (hx : -9223372036854775808 ≤ x ∧ x ≤ 9223372036854775807) (ht : 0 ≤ finz cs x) (hs : cvl cs x ≠ y) :
    Calls Tryz.prog 167 #[.pointer (some ⟨R, 0, none⟩), .int .i64 x, .int .i64 y] w fun e w' => e = pnc 170 ∧ w' = w := by
  have hnot : ∀ (x : Bool) (w : World), (Op.unary .not (.bool x)).run Tryz.prog w = .ok (.bool (!x)) w := fun _ _ => rfl
  obtain ⟨D, hD, hC⟩ := hM
  have HC := hid (hC x hx)
  have HMU := hid (pmust_no w)
  have c2 : w.cell? ⟨R, 2, none⟩ = some (.map (some B)) := hR.cell (i := 2) (by decide)
  have he : (cvl cs x == y) = false := by rw [beq_eq_false_iff_ne]; exact hs
  have HT := hid ht
  clear hC hR hs ht
  go_enter Tryz.func167, Tryz.ntmps167
  go_wp2_with (first | (at_lookup; refine wpList_lookup_own_ok_int _ rfl _ _ 122 rfl 3 3 .i64 keyI Tryz.underlying122 Tryz.underlying3 (zeroI _) B nB _ rfl hD _ _ rfl (key64 hx) ?_; intro c hat hwc; rw [HC.out.1, decide_eq_true HT.out]; obtain rfl : c = cvl cs x := by (rw [HC.out.2] at hat; injection hat with hat; injection hat with _ hat; exact hat.symm)))
  refine HMU.out.mono ?_
  rintro e w2 ⟨rfl, rfl⟩
  exact ⟨rfl, rfl, rfl⟩

end Go.Proofs.YtlgcmeachjjmgajGreatDoor

namespace Go.Proofs.YtlgcmeachjjmgajGreatDoor
open Go.RowKit Go.Maps

theorem row4_arr {W : World} {g : Nat} {t : TypeId} {f : Nat → Value} (h : W.rowIs g t 4 f) : W.heap[g]? = some (.cells #[f 0, f 1, f 2, f 3] t (0, 0)) := by
  obtain ⟨c, hb, hs, hc⟩ := h
  rw [hb]
  congr 2
  apply Array.ext
  · simpa using hs
  · intro i h1 h2
    have h4 : i < 4 := by simpa using h2
    have := hc i h4
    rw [Array.getElem?_eq_getElem h1] at this
    injection this with this
    rw [this]
    have : i = 0 ∨ i = 1 ∨ i = 2 ∨ i = 3 := by omega
    rcases this with rfl | rfl | rfl | rfl <;> rfl
theorem row4_of {W : World} {g : Nat} {t : TypeId} {a b c d : Value} (h : W.heap[g]? = some (.cells #[a, b, c, d] t (0, 0))) : W.rowIs g t 4 (fun i => #[a, b, c, d].getD i .nilFunc) :=
  ⟨_, h, rfl, fun i hi => by
    have : i = 0 ∨ i = 1 ∨ i = 2 ∨ i = 3 := by omega
    rcases this with rfl | rfl | rfl | rfl <;> rfl⟩
theorem put4_heap {W : World} {g : Nat} {t : TypeId} {z0 z1 z2 z3 : Value} (h : W.heap[g]? = some (.cells #[z0, z1, z2, z3] t (0, 0))) (a b c d : Value) : ((((W.setCell ⟨g, 0, none⟩ a).setCell ⟨g, 1, none⟩ b).setCell ⟨g, 2, none⟩ c).setCell ⟨g, 3, none⟩ d).heap[g]? = some (.cells #[a, b, c, d] t (0, 0)) := by
  have := row4_arr (((((row4_of h).set 0 a).set 1 b).set 2 c).set 3 d)
  simpa using this
theorem put4_oth (W : World) (g : Nat) (a b c d : Value) (k : Nat) (h : k ≠ g) : ((((W.setCell ⟨g, 0, none⟩ a).setCell ⟨g, 1, none⟩ b).setCell ⟨g, 2, none⟩ c).setCell ⟨g, 3, none⟩ d).heap[k]? = W.heap[k]? := by
  rw [Below.heap_setCell _ _ _ _ h, Below.heap_setCell _ _ _ _ h, Below.heap_setCell _ _ _ _ h, Below.heap_setCell _ _ _ _ h]
/-- four cells of a block that is new -/
theorem put4_below {N : Nat} {w W : World} {g : Nat} (e : Below N w W) (hg : N ≤ g) (a b c d : Value) : Below N w ((((W.setCell ⟨g, 0, none⟩ a).setCell ⟨g, 1, none⟩ b).setCell ⟨g, 2, none⟩ c).setCell ⟨g, 3, none⟩ d) :=
  ⟨e.os, e.tape, e.output, by simpa [World.setCell] using e.size, fun k hk => (put4_oth W g a b c d k (by omega)).trans (e.block k hk)⟩

set_option maxRecDepth 100000 in
set_option maxHeartbeats 1000000 in
theorem pnext_yes (R b B cL k : Nat) (aL : Option Addr) (L : List InsZ) (n : Rg) (w : World) (hR : RnAt w R b B aL L.length cL n) (hL : LstI w.heap.size w aL cL L) (hpc : n.pc = (k : Int)) (hk : k < L.length) :
    Calls Tryz.prog 105 #[.pointer (some ⟨R, 0, none⟩)] w fun e w' => e = .returned (.agg #[.int .i64 (insat L k).op, .int .i64 (insat L k).a, .int .i64 (insat L k).b, .int .i64 (insat L k).c]) ∧ Below w.heap.size w w' := by
  have hmx : Tryz.prog.follows .mixedOrders = true := by kernel_rfl
  obtain ⟨W0, hW0⟩ : ∃ W0, W0 = w.alloc (.cells #[.int .i64 0, .int .i64 0, .int .i64 0, .int .i64 0] 52) := ⟨_, rfl⟩
  have hb0 : Below w.heap.size w W0 := by rw [hW0]; exact (Below.refl _ _).alloc (Nat.le_refl _) _
  have hR0 : RnAt W0 R b B aL L.length cL n := hR.of_block (hb0.block _ hR.lt)
  have c1 : W0.cell? ⟨R, 1, none⟩ = some (.slice aL L.length cL) := hR0.cell (i := 1) (by decide)
  have c3 : W0.cell? ⟨R, 3, none⟩ = some (.int .i64 (k : Int)) := by rw [← hpc]; exact hR0.cell (i := 3) (by decide)
  obtain ⟨bL, oL, rfl, hbL, e0, e1, e2, e3⟩ := (hL.below hb0).row k hk
  have HB0 := hid hb0
  have HMU := hid (fun W => pmust_yes W)
  have hlt : (k : Int) < (L.length : Int) := by omega
  generalize (insat L k).op = op at *
  generalize (insat L k).a = ia at *
  generalize (insat L k).b = ib at *
  generalize (insat L k).c = ic at *
  generalize L.length = nL at *
  clear hR hR0 hL hb0 hpc
  go_enter Tryz.func105, Tryz.ntmps105
  go_wp2_with fail
  rw [← hW0]
  have hs0 : W0.heap[w.heap.size]? = some (.cells #[.int .i64 0, .int .i64 0, .int .i64 0, .int .i64 0] 52 (0, 0)) := by rw [hW0]; exact heap_alloc_new w _
  clear hW0
  go_still_tail 10, hmx
  go_wp2_with fail
  refine (HMU.out _).mono ?_
  rintro e w2 ⟨rfl, hw2⟩
  have d1 : w2.cell? ⟨R, 1, none⟩ = some (.slice (some ⟨bL, oL, none⟩) nL cL) := by rw [hw2]; exact c1
  have d3 : w2.cell? ⟨R, 3, none⟩ = some (.int .i64 (k : Int)) := by rw [hw2]; exact c3
  have f0 : w2.cell? ⟨bL, oL + k * 4, none⟩ = some (.int .i64 op) := by rw [hw2]; exact e0
  have f1 : w2.cell? ⟨bL, oL + k * 4 + 1, none⟩ = some (.int .i64 ia) := by rw [hw2]; exact e1
  have f2 : w2.cell? ⟨bL, oL + k * 4 + 2, none⟩ = some (.int .i64 ib) := by rw [hw2]; exact e2
  have f3 : w2.cell? ⟨bL, oL + k * 4 + 3, none⟩ = some (.int .i64 ic) := by rw [hw2]; exact e3
  have y0 : ∀ i, w2.frozen? ⟨w.heap.size, i, none⟩ = false := by rw [hw2]; exact (row4_of hs0).frozen
  have hs2 : w2.heap[w.heap.size]? = some (.cells #[.int .i64 0, .int .i64 0, .int .i64 0, .int .i64 0] 52 (0, 0)) := by rw [hw2]; exact hs0
  have z0 : w2.cell? ⟨w.heap.size, 0, none⟩ = some (.int .i64 0) := by simp [World.cell?, hs2]
  have z1 : w2.cell? ⟨w.heap.size, 1, none⟩ = some (.int .i64 0) := by simp [World.cell?, hs2]
  have z2 : w2.cell? ⟨w.heap.size, 2, none⟩ = some (.int .i64 0) := by simp [World.cell?, hs2]
  have z3 : w2.cell? ⟨w.heap.size, 3, none⟩ = some (.int .i64 0) := by simp [World.cell?, hs2]
  have HB2 : Hid (Below w.heap.size w w2) := by unfold Hid; rw [hw2]; exact HB0.out.drew
  have HS2 := hid (put4_heap hs2 (.int .i64 op) (.int .i64 ia) (.int .i64 ib) (.int .i64 ic))
  clear hs0 hs2 hw2 c1 c3 e0 e1 e2 e3 HB0
  go_wp2_with fail
  go_still_tail 10, hmx
  go_wp2_with fail
  (try simp only [Exit.inBlock, Exit.then])
  refine bodyPost_ret (results_cell_row rfl _ _ w.heap.size 52 #[.int .i64 op, .int .i64 ia, .int .i64 ib, .int .i64 ic] (0, 0) _ rfl HS2.out Tryz.underlying52 rfl (by kernel_rfl)) rfl ?_
  exact ⟨rfl, (put4_below HB2.out (Nat.le_refl _) _ _ _ _).drew⟩

set_option maxRecDepth 100000 in
set_option maxHeartbeats 1000000 in
theorem pnext_no (R b B cL k : Nat) (aL : Option Addr) (nL : Nat) (n : Rg) (w : World) (hR : RnAt w R b B aL nL cL n) (hpc : n.pc = (k : Int)) (hk : ¬ k < nL) :
    Calls Tryz.prog 105 #[.pointer (some ⟨R, 0, none⟩)] w fun e w' => e = pnc 170 ∧ Below w.heap.size w w' := by
  have hmx : Tryz.prog.follows .mixedOrders = true := by kernel_rfl
  obtain ⟨W0, hW0⟩ : ∃ W0, W0 = w.alloc (.cells #[.int .i64 0, .int .i64 0, .int .i64 0, .int .i64 0] 52) := ⟨_, rfl⟩
  have hb0 : Below w.heap.size w W0 := by rw [hW0]; exact (Below.refl _ _).alloc (Nat.le_refl _) _
  have hR0 : RnAt W0 R b B aL nL cL n := hR.of_block (hb0.block _ hR.lt)
  have c1 : W0.cell? ⟨R, 1, none⟩ = some (.slice aL nL cL) := hR0.cell (i := 1) (by decide)
  have c3 : W0.cell? ⟨R, 3, none⟩ = some (.int .i64 (k : Int)) := by rw [← hpc]; exact hR0.cell (i := 3) (by decide)
  have HB0 := hid hb0
  have HMU := hid (fun W => pmust_no W)
  have hlt : ¬ (k : Int) < (nL : Int) := by omega
  clear hR hR0 hb0 hpc
  go_enter Tryz.func105, Tryz.ntmps105
  go_wp2_with fail
  rw [← hW0]
  clear hW0
  go_still_tail 10, hmx
  go_wp2_with fail
  refine (HMU.out _).mono ?_
  rintro e w2 ⟨rfl, rfl⟩
  exact ⟨rfl, rfl, HB0.out.drew⟩

end Go.Proofs.YtlgcmeachjjmgajGreatDoor
