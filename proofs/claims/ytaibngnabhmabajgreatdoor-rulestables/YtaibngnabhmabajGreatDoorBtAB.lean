/- attestref6.Do: what stands. attestref6.Do. attestref6.Do: op 1 -/
import Derived.Test.YtaibngnabhmabajGreatDoorBtAA
namespace Go.Proofs.YtaibngnabhmabajGreatDoor
open Go.RowKit

structure Rg where
  pc : Int
  fp : Int
  ap : Int
  rv : Int
def stv (n : Rg) (s : RM) : Nat → Value
  | 0 => .int .i64 n.pc
  | 1 => .int .i64 n.fp
  | 2 => .int .i64 n.ap
  | 3 => .int .i64 n.rv
  | 4 => .int .i64 (s.at' 0)
  | 5 => .int .i64 (s.at' 1)
  | 6 => .int .i64 (s.at' 2)
  | 7 => .int .i64 (s.is' 0)
  | 8 => .int .i64 (s.is' 1)
  | _ => .int .i64 (s.is' 2)
theorem ten {i : Nat} (h : i < 10) : i = 0 ∨ i = 1 ∨ i = 2 ∨ i = 3 ∨ i = 4 ∨ i = 5 ∨ i = 6 ∨ i = 7 ∨ i = 8 ∨ i = 9 := by omega
theorem stv_pc (n : Rg) (s : RM) (x : Int) : ∀ i, i < 10 → (if i = 0 then Value.int .i64 x else stv n s i) = stv { n with pc := x } s i := fun i hi => by
  rcases ten hi with rfl | rfl | rfl | rfl | rfl | rfl | rfl | rfl | rfl | rfl <;> simp [stv]
theorem stv_fp (n : Rg) (s : RM) (x : Int) : ∀ i, i < 10 → (if i = 1 then Value.int .i64 x else stv n s i) = stv { n with fp := x } s i := fun i hi => by
  rcases ten hi with rfl | rfl | rfl | rfl | rfl | rfl | rfl | rfl | rfl | rfl <;> simp [stv]
theorem stv_ap (n : Rg) (s : RM) (x : Int) : ∀ i, i < 10 → (if i = 2 then Value.int .i64 x else stv n s i) = stv { n with ap := x } s i := fun i hi => by
  rcases ten hi with rfl | rfl | rfl | rfl | rfl | rfl | rfl | rfl | rfl | rfl <;> simp [stv]
theorem stv_rv (n : Rg) (s : RM) (x : Int) : ∀ i, i < 10 → (if i = 3 then Value.int .i64 x else stv n s i) = stv { n with rv := x } s i := fun i hi => by
  rcases ten hi with rfl | rfl | rfl | rfl | rfl | rfl | rfl | rfl | rfl | rfl <;> simp [stv]

theorem MacAt.one {M base p O : Nat} {s : RM} {W W' : World} {cs : Array Value} {t : TypeId} {f : Nat × Nat} (h : MacAt M base p s W) (hO : W.heap[O]? = some (.cells cs t f)) (h1 : t ≠ 207) (h2 : t ≠ 149) (hs : W.heap.size ≤ W'.heap.size) (e : ∀ b, b < W.heap.size → b ≠ O → W'.heap[b]? = W.heap[b]?) : MacAt M base p s W' := by
  obtain ⟨hb, v, hr, hc⟩ := h
  have hty : ∀ {b : Nat} {c' : Array Value} {t' : TypeId} {f' : Nat × Nat}, W.heap[b]? = some (.cells c' t' f') → t' ≠ t → W'.heap[b]? = W.heap[b]? := fun {b c' t' f'} hg hne => e b (Array.getElem?_eq_some_iff.1 hg).1 (by
    rintro rfl
    rw [hO] at hg
    injection hg with hg
    injection hg with _ h3 _
    exact hne h3.symm)
  refine ⟨by omega, v, ?_, hc.1, ?_⟩
  · have hr' := hr
    obtain ⟨cs', hb', _⟩ := hr
    exact hr'.of_block (hty hb' (Ne.symm h1))
  · rcases hc.2 with hn | ⟨g, cap, cur, rfl, hbb, hg, rest⟩
    · exact .inl hn
    · exact .inr ⟨g, cap, cur, rfl, hbb, (hty hg (Ne.symm h2)).trans hg, rest⟩
theorem MacAt.below {M base p : Nat} {s : RM} {W W' : World} (h : MacAt M base p s W) (e : Below W.heap.size W W') : MacAt M base p s W' := by
  obtain ⟨hb, v, hr, hc⟩ := h
  refine ⟨Nat.le_trans hb e.size, v, hr.of_block (e.block M hr.lt), hc.1, ?_⟩
  rcases hc.2 with hn | ⟨g, cap, cur, rfl, hbb, hg, rest⟩
  · exact .inl hn
  · exact .inr ⟨g, cap, cur, rfl, hbb, (e.block g (Array.getElem?_eq_some_iff.1 hg).1).trans hg, rest⟩
theorem MacAt.get {M base p : Nat} {s : RM} {W : World} (h : MacAt M base p s W) : W.cell? ⟨M, 0, none⟩ = some (.int .i64 p) ∧ W.cell? ⟨M, 2, none⟩ = some (.int .i64 s.pc) ∧ W.cell? ⟨M, 3, none⟩ = some (.int .i64 s.fp) ∧ W.cell? ⟨M, 4, none⟩ = some (.int .i64 s.ap) ∧ W.cell? ⟨M, 5, none⟩ = some (.int .i64 s.rv) ∧ W.cell? ⟨M, 13, none⟩ = some (.int .i64 s.err) ∧ M < W.heap.size := by
  obtain ⟨_, v, hr, _⟩ := h
  exact ⟨hr.cell (i := 0) (by decide), hr.cell (i := 2) (by decide), hr.cell (i := 3) (by decide), hr.cell (i := 4) (by decide), hr.cell (i := 5) (by decide), hr.cell (i := 13) (by decide), hr.lt⟩

/-- what stands in Do -/
structure DoS (N M base p B : Nat) (s0 s : RM) (op a b c : Int) (n : Rg) (w W : World) : Prop where
  mac : MacAt M base p s W
  ins : W.heap[B]? = some (.cells #[.int .i64 op, .int .i64 a, .int .i64 b, .int .i64 c] 52 (0, 0))
  res : W.rowIs (B + 1) 135 10 (fun _ => .int .i64 0)
  nw : W.rowIs (B + 2) 135 10 (stv n s0)
  fr : FrM N w W
  hB : w.heap.size = B
  hM : M < B
  hN : N ≤ M
section
variable {N M base p B : Nat} {s0 s s' : RM} {op a b c : Int} {n : Rg} {w W W' : World}
theorem FrM.below {N : Nat} {w w' : World} (hN : N ≤ w.heap.size) (e : Below w.heap.size w w') : FrM N w w' := ⟨e.mono hN, e.size, fun b _ _ _ h _ _ => e.block b (Array.getElem?_eq_some_iff.1 h).1⟩
theorem DoS.mach (h : DoS N M base p B s0 s op a b c n w W) (hm : MacAt M base p s' W') (f : FrM N W W') : DoS N M base p B s0 s' op a b c n w W' := by
  have hr := h.res
  have hn := h.nw
  have hr' := hr
  have hn' := hn
  obtain ⟨c1, b1, _⟩ := hr
  obtain ⟨c2, b2, _⟩ := hn
  exact ⟨hm, (f.2.2 _ _ _ _ h.ins (by decide) (by decide)).trans h.ins, hr'.of_block (f.2.2 _ _ _ _ b1 (by decide) (by decide)), hn'.of_block (f.2.2 _ _ _ _ b2 (by decide) (by decide)), h.fr.trans f, h.hB, h.hM, h.hN⟩
theorem DoS.step (h : DoS N M base p B s0 s op a b c n w W) (e : Below W.heap.size W W') : DoS N M base p B s0 s op a b c n w W' :=
  h.mach (h.mac.below e) (FrM.below (by have := h.nw.lt; have := h.hN; have := h.hM; omega) e)
theorem DoS.put {n' : Rg} (h : DoS N M base p B s0 s op a b c n w W) (i : Nat) (v : Value) (hn : ∀ j, j < 10 → (if j = i then v else stv n s0 j) = stv n' s0 j) : DoS N M base p B s0 s op a b c n' w (W.setCell ⟨B + 2, i, none⟩ v) := by
  have hne : ∀ x, x ≠ B + 2 → (W.setCell ⟨B + 2, i, none⟩ v).heap[x]? = W.heap[x]? := fun x hx => Below.heap_setCell _ _ _ _ hx
  have hnw := h.nw
  have hB := h.hB
  have hM := h.hM
  have hN := h.hN
  obtain ⟨c2, b2, _⟩ := hnw
  have hsz : W.heap.size ≤ (W.setCell ⟨B + 2, i, none⟩ v).heap.size := by simp [World.setCell]
  refine ⟨h.mac.one b2 (by decide) (by decide) hsz (fun x _ hx => hne x hx), (hne _ (by omega)).trans h.ins, h.res.of_block (hne _ (by omega)), (h.nw.set i v).congr hn, ?_, h.hB, h.hM, h.hN⟩
  exact ⟨h.fr.1.setCell (p := ⟨B + 2, i, none⟩) (show N ≤ B + 2 by omega) v, Nat.le_trans h.fr.2.1 hsz, fun x cs t f e h1 h2 => (hne x (by have := (Array.getElem?_eq_some_iff.1 e).1; omega)).trans (h.fr.2.2 x cs t f e h1 h2)⟩
theorem DoS.drew (h : DoS N M base p B s0 s op a b c n w W) : DoS N M base p B s0 s op a b c n w W.drew := h.step (Below.refl _ _).drew
end

end Go.Proofs.YtaibngnabhmabajGreatDoor

namespace Go.Proofs.YtaibngnabhmabajGreatDoor
open Go.RowKit

theorem fourM0 {W : World} {g : Nat} {a b c d : Value} {t : TypeId} (h : W.heap[g]? = some (.cells #[a, b, c, d] t (0, 0))) : W.cell? ⟨g, 0, none⟩ = some a := by simp [World.cell?, h]
theorem fourM1 {W : World} {g : Nat} {a b c d : Value} {t : TypeId} (h : W.heap[g]? = some (.cells #[a, b, c, d] t (0, 0))) : W.cell? ⟨g, 1, none⟩ = some b := by simp [World.cell?, h]
theorem fourM2 {W : World} {g : Nat} {a b c d : Value} {t : TypeId} (h : W.heap[g]? = some (.cells #[a, b, c, d] t (0, 0))) : W.cell? ⟨g, 2, none⟩ = some c := by simp [World.cell?, h]
theorem fourM3 {W : World} {g : Nat} {a b c d : Value} {t : TypeId} (h : W.heap[g]? = some (.cells #[a, b, c, d] t (0, 0))) : W.cell? ⟨g, 3, none⟩ = some d := by simp [World.cell?, h]
theorem belM (w : World) (n : Nat) : Below w.heap.size w (w.drewN n) := ⟨rfl, rfl, rfl, Nat.le_refl _, fun _ _ => rfl⟩
theorem row_newM (w : World) (cs : Array Value) (t : TypeId) (n : Nat) (f : Nat → Value) (hn : cs.size = n) (hf : ∀ i, i < n → cs[i]? = some (f i)) : (w.alloc (.cells cs t)).rowIs w.heap.size t n f :=
  ⟨cs, heap_alloc_new w _, hn, hf⟩
/-- what Do stands on -/
structure DoP (N M base p : Nat) (s : RM) (w : World) : Prop where
  mac : MacAt M base p s w
  hN : N ≤ M
  nb : N ≤ base
  p3 : 3 ≤ p
  p4 : p ≤ 2147483647
  pc : 0 ≤ s.pc ∧ s.pc < p
  fp : 0 ≤ s.fp ∧ s.fp < p
  ap : 0 ≤ s.ap ∧ s.ap < p
  rv : 0 ≤ s.rv ∧ s.rv < p
  cs : ∀ j, j < s.cs.length → 0 ≤ (cat s.cs j).2 ∧ (cat s.cs j).2 < p
  len : s.cs.length ≤ 900000
  slot : s.slot = 0
  err : s.err = 0
/-- what a step makes of the machine -/
def RM.three (p : Nat) (s : RM) (op A B C : Int) : RM :=
  let l1 := s.look A
  let l2 := l1.1.look B
  (l2.1.rck op l2.2).tell p C (rkn p op l1.2 l2.2)
def RM.step (p : Nat) (s : RM) (op a b c : Int) : RM × Rg :=
  let A := (s.fp + a) % (p : Int)
  let B := (s.fp + b) % (p : Int)
  let C := (s.fp + c) % (p : Int)
  let n : Rg := ⟨(s.pc + 1) % (p : Int), s.fp, s.ap, s.rv⟩
  if op = 1 ∨ op = 2 ∨ op = 3 ∨ op = 4 ∨ op = 6 then (s.three p op A B C, n)
  else if op = 5 then (s.tell p A b, n)
  else if op = 7 then (((s.look A).1.look B).1.must ((s.look A).2 == ((s.look A).1.look B).2), n)
  else if op = 8 then (s, { n with pc := a % (p : Int) })
  else if op = 9 then ((s.look A).1, if (s.look A).2 = 0 then { n with pc := b % (p : Int) } else n)
  else if op = 10 then ((s.tell p s.ap s.fp).tell p ((s.ap + 1) % (p : Int)) (s.pc + 1), ⟨a % (p : Int), (s.ap + 2) % (p : Int), ((s.ap + 2) % (p : Int) + b) % (p : Int), s.rv⟩)
  else if op = 11 then
    let l1 := s.look ((s.fp - 2) % (p : Int))
    let l2 := l1.1.look ((s.fp - 1) % (p : Int))
    let l3 := l2.1.look A
    (l3.1, ⟨l2.2, l1.2, s.ap, l3.2⟩)
  else if op = 12 then (s.tell p A s.rv, n)
  else if op = 13 then ((s.look A).1.tell p (((s.ap + 2) % (p : Int) + b) % (p : Int)) (s.look A).2, n)
  else if op = 0 then ((s.look A).1, n)
  else ({ s with err := 7 }, n)
def put10 (W : World) (g : Nat) (f : Nat → Value) : World := (((((((((W.setCell ⟨g, 0, none⟩ (f 0)).setCell ⟨g, 1, none⟩ (f 1)).setCell ⟨g, 2, none⟩ (f 2)).setCell ⟨g, 3, none⟩ (f 3)).setCell ⟨g, 4, none⟩ (f 4)).setCell ⟨g, 5, none⟩ (f 5)).setCell ⟨g, 6, none⟩ (f 6)).setCell ⟨g, 7, none⟩ (f 7)).setCell ⟨g, 8, none⟩ (f 8)).setCell ⟨g, 9, none⟩ (f 9)
theorem put10_oth (W : World) (g : Nat) (f : Nat → Value) (k : Nat) (h : k ≠ g) : (put10 W g f).heap[k]? = W.heap[k]? := by
  unfold put10
  rw [Below.heap_setCell _ _ _ _ h, Below.heap_setCell _ _ _ _ h, Below.heap_setCell _ _ _ _ h, Below.heap_setCell _ _ _ _ h, Below.heap_setCell _ _ _ _ h, Below.heap_setCell _ _ _ _ h, Below.heap_setCell _ _ _ _ h, Below.heap_setCell _ _ _ _ h, Below.heap_setCell _ _ _ _ h, Below.heap_setCell _ _ _ _ h]
theorem put10_row {W : World} {g : Nat} {t : TypeId} {z : Nat → Value} (h : W.rowIs g t 10 z) (f : Nat → Value) : (put10 W g f).rowIs g t 10 f :=
  ((((((((((h.set 0 (f 0)).set 1 (f 1)).set 2 (f 2)).set 3 (f 3)).set 4 (f 4)).set 5 (f 5)).set 6 (f 6)).set 7 (f 7)).set 8 (f 8)).set 9 (f 9)).congr (fun i hi => by
    rcases ten hi with rfl | rfl | rfl | rfl | rfl | rfl | rfl | rfl | rfl | rfl <;> simp)
theorem row10_arr {W : World} {g : Nat} {t : TypeId} {f : Nat → Value} (h : W.rowIs g t 10 f) : W.heap[g]? = some (.cells #[f 0, f 1, f 2, f 3, f 4, f 5, f 6, f 7, f 8, f 9] t (0, 0)) := by
  obtain ⟨cs, hb, hn, hf⟩ := h
  rw [hb]
  congr 2
  refine Array.ext (by simpa using hn) (fun i h1 h2 => ?_)
  have hi : i < 10 := by simpa [hn] using h1
  have := hf i hi
  rw [Array.getElem?_eq_getElem h1] at this
  injection this with this
  rw [this]
  rcases ten hi with rfl | rfl | rfl | rfl | rfl | rfl | rfl | rfl | rfl | rfl <;> rfl
theorem DoS.give {N M base p B : Nat} {s0 s : RM} {op a b c : Int} {n : Rg} {w W : World} (h : DoS N M base p B s0 s op a b c n w W) : (put10 W (B + 1) (stv n s0)).heap[B + 1]? = some (.cells #[.int .i64 n.pc, .int .i64 n.fp, .int .i64 n.ap, .int .i64 n.rv, .int .i64 (s0.at' 0), .int .i64 (s0.at' 1), .int .i64 (s0.at' 2), .int .i64 (s0.is' 0), .int .i64 (s0.is' 1), .int .i64 (s0.is' 2)] 135 (0, 0)) ∧ MacAt M base p s (put10 W (B + 1) (stv n s0)) ∧ FrM N w (put10 W (B + 1) (stv n s0)) := by
  have hB := h.hB
  have hM := h.hM
  have hN := h.hN
  have hsz : (put10 W (B + 1) (stv n s0)).heap.size = W.heap.size ∧ (put10 W (B + 1) (stv n s0)).os = W.os ∧ (put10 W (B + 1) (stv n s0)).tape = W.tape ∧ (put10 W (B + 1) (stv n s0)).output = W.output := by unfold put10; simp [World.setCell]
  have hrow := row10_arr (put10_row h.res (stv n s0))
  have hoth := put10_oth W (B + 1) (stv n s0)
  have hr := h.res
  obtain ⟨c1, b1, _⟩ := hr
  generalize put10 W (B + 1) (stv n s0) = W' at *
  obtain ⟨z1, z2, z3, z4⟩ := hsz
  refine ⟨hrow, h.mac.one b1 (by decide) (by decide) (by omega) (fun x _ hx => hoth x hx), ?_⟩
  exact ⟨⟨z2.trans h.fr.1.os, z3.trans h.fr.1.tape, z4.trans h.fr.1.output, by have := h.fr.1.size; omega, fun k hk => (hoth k (by omega)).trans (h.fr.1.block k hk)⟩, by have := h.fr.2.1; omega, fun k cs t f e h1 h2 => (hoth k (by have := (Array.getElem?_eq_some_iff.1 e).1; omega)).trans (h.fr.2.2 k cs t f e h1 h2)⟩
/-- what Do answers -/
def DoR (N M base p : Nat) (s : RM) (op a b c : Int) (w : World) (e : Ending) (w' : World) : Prop :=
  e = .returned (.agg #[.int .i64 (s.step p op a b c).2.pc, .int .i64 (s.step p op a b c).2.fp, .int .i64 (s.step p op a b c).2.ap, .int .i64 (s.step p op a b c).2.rv, .int .i64 (s.at' 0), .int .i64 (s.at' 1), .int .i64 (s.at' 2), .int .i64 (s.is' 0), .int .i64 (s.is' 1), .int .i64 (s.is' 2)]) ∧ MacAt M base p (s.step p op a b c).1 w' ∧ FrM N w w'

/-- what is known of a machine on the way -/
def SOk (p n k : Nat) (s : RM) : Prop := (∀ j, j < s.cs.length → 0 ≤ (cat s.cs j).2 ∧ (cat s.cs j).2 < p) ∧ s.cs.length ≤ n ∧ (s.err = 0 → s.slot ≤ k)
theorem look_ok {p n k : Nat} {s : RM} (hp : 3 ≤ p) (h : SOk p n k s) (x : Int) : SOk p n (k + 1) (s.look x).1 ∧ 0 ≤ (s.look x).2 ∧ (s.look x).2 < p := by
  unfold RM.look
  split
  · rename_i h1
    exact ⟨⟨h.1, h.2.1, fun e => absurd e h1⟩, by omega, by show (0 : Int) < p; omega⟩
  · rename_i h1
    split
    · exact ⟨⟨h.1, h.2.1, fun e => absurd (show (10 : Int) = 0 from e) (by decide)⟩, by omega, by show (0 : Int) < p; omega⟩
    · rename_i h2
      rcases finz_cases s.cs x with hm | ⟨i, hi, hil, _⟩
      · rw [hm] at h2; exact absurd (by decide) h2
      · have hb := h.1 i hil
        rw [hi, Int.toNat_natCast]
        refine ⟨⟨h.1, h.2.1, fun e => ?_⟩, hb⟩
        have := h.2.2 e
        show s.slot + 1 ≤ k + 1
        omega
theorem must_ok {p n k : Nat} {s : RM} (h : SOk p n k s) (b : Bool) : SOk p n k (s.must b) := by
  unfold RM.must
  split
  · exact ⟨h.1, h.2.1, fun e => absurd (show (7 : Int) = 0 from e) (by decide)⟩
  · exact h
theorem rck_ok {p n k : Nat} {s : RM} (h : SOk p n k s) (op y : Int) : SOk p n k (s.rck op y) := by
  unfold RM.rck
  split
  · exact must_ok h _
  · exact h
theorem cat_app {cs : List (Int × Int)} {d : Int × Int} {j : Nat} (h : j < cs.length) : cat (cs ++ [d]) j = cat cs j := by simp [cat, List.getElem?_append_left h]
theorem cat_last (cs : List (Int × Int)) (d : Int × Int) : cat (cs ++ [d]) cs.length = d := by simp [cat]
theorem tell_ok {p n k : Nat} {s : RM} (hp : 3 ≤ p) (h : SOk p n k s) (x y : Int) : SOk p (n + 1) (k + 1) (s.tell p x y) := by
  unfold RM.tell
  split
  · rename_i h1
    exact ⟨h.1, by have := h.2.1; omega, fun e => absurd e h1⟩
  · rename_i h1
    split
    · exact ⟨h.1, by have := h.2.1; show s.cs.length ≤ n + 1; omega, fun e => absurd (show (7 : Int) = 0 from e) (by decide)⟩
    · split
      · refine ⟨fun j hj => ?_, ?_, fun e => ?_⟩
        · change j < (s.cs ++ [(x, y % (p : Int))]).length at hj
          show 0 ≤ (cat (s.cs ++ [(x, y % (p : Int))]) j).2 ∧ (cat (s.cs ++ [(x, y % (p : Int))]) j).2 < p
          by_cases hjl : j < s.cs.length
          · rw [cat_app hjl]; exact h.1 j hjl
          · obtain rfl : j = s.cs.length := by simp at hj; omega
            rw [cat_last]
            exact emod_bounds y p hp
        · show (s.cs ++ [(x, y % (p : Int))]).length ≤ n + 1
          have := h.2.1
          simp
          omega
        · have := h.2.2 e
          show s.slot + 1 ≤ k + 1
          omega
      · refine ⟨h.1, by have := h.2.1; show s.cs.length ≤ n + 1; omega, fun e => ?_⟩
        have := h.2.2 e
        show s.slot + 1 ≤ k + 1
        omega
theorem rkn_bounds {p : Nat} (hp : 3 ≤ p) (op x y : Int) : 0 ≤ rkn p op x y ∧ rkn p op x y < p := by
  unfold rkn
  split
  · exact emod_bounds _ p hp
  · split
    · exact emod_bounds _ p hp
    · split
      · exact emod_bounds _ p hp
      · split
        · exact emod_bounds _ p hp
        · split
          · omega
          · omega

end Go.Proofs.YtaibngnabhmabajGreatDoor

namespace Go.Proofs.YtaibngnabhmabajGreatDoor
open Go.RowKit

set_option maxRecDepth 100000 in
set_option maxHeartbeats 4000000 in
theorem do_add (N M base p : Nat) (s0 : RM) (a b c : Int) (w : World) (h : DoP N M base p s0 w) (ha1 : -9223372036854775808 ≤ a) (ha2 : a ≤ 9223372036854775807) (hb1 : -9223372036854775808 ≤ b) (hb2 : b ≤ 9223372036854775807) (hc1 : -9223372036854775808 ≤ c) (hc2 : c ≤ 9223372036854775807) :
    Calls Tryz.prog 94 #[.pointer (some ⟨M, 0, none⟩), .agg #[.int .i64 1, .int .i64 a, .int .i64 b, .int .i64 c]] w (DoR N M base p s0 1 a b c w) := by
  have hmx : Tryz.prog.follows .mixedOrders = true := by kernel_rfl
  have HP := hid h
  have hp3 := h.p3
  have hp4 := h.p4
  obtain ⟨hpc0, hpc1⟩ := h.pc
  obtain ⟨hfp0, hfp1⟩ := h.fp
  obtain ⟨hap0, hap1⟩ := h.ap
  obtain ⟨hrv0, hrv1⟩ := h.rv
  have hMl := h.mac.get.2.2.2.2.2.2
  obtain ⟨v0, hv0⟩ : ∃ v, w.rowIs M 207 14 (rmv p v s0) := by obtain ⟨_, v, hr, _⟩ := h.mac; exact ⟨v, hr⟩
  obtain ⟨V1, hV1⟩ : ∃ V1, V1 = w.alloc (.cells #[.int .i64 1, .int .i64 a, .int .i64 b, .int .i64 c] 52) := ⟨_, rfl⟩
  obtain ⟨V2, hV2⟩ : ∃ V2, V2 = V1.alloc (.cells #[.int .i64 0, .int .i64 0, .int .i64 0, .int .i64 0, .int .i64 0, .int .i64 0, .int .i64 0, .int .i64 0, .int .i64 0, .int .i64 0] 135) := ⟨_, rfl⟩
  obtain ⟨V3, hV3⟩ : ∃ V3, V3 = V2.alloc (.cells #[.int .i64 s0.pc, .int .i64 s0.fp, .int .i64 s0.ap, .int .i64 s0.rv, .int .i64 (s0.at' 0), .int .i64 (s0.at' 1), .int .i64 (s0.at' 2), .int .i64 (s0.is' 0), .int .i64 (s0.is' 1), .int .i64 (s0.is' 2)] 135) := ⟨_, rfl⟩
  have z1 : V1.heap.size = w.heap.size + 1 := by rw [hV1]; simp
  have z2 : V2.heap.size = w.heap.size + 2 := by rw [hV2]; simp [z1]
  have b1 : Below w.heap.size w V1 := by rw [hV1]; exact (Below.refl _ _).alloc (Nat.le_refl _) _
  have b2 : Below V1.heap.size V1 V2 := by rw [hV2]; exact (Below.refl _ _).alloc (Nat.le_refl _) _
  have b3 : Below V2.heap.size V2 V3 := by rw [hV3]; exact (Below.refl _ _).alloc (Nat.le_refl _) _
  have b12 : Below w.heap.size w V2 := b1.trans (b2.mono (by omega))
  have b13 : Below w.heap.size w V3 := b12.trans (b3.mono (by omega))
  have r2 := hv0.of_block (b12.block M hMl)
  have k2 : V2.cell? ⟨M, 2, none⟩ = some (.int .i64 s0.pc) := r2.cell (i := 2) (by decide)
  have k3 : V2.cell? ⟨M, 3, none⟩ = some (.int .i64 s0.fp) := r2.cell (i := 3) (by decide)
  have k4 : V2.cell? ⟨M, 4, none⟩ = some (.int .i64 s0.ap) := r2.cell (i := 4) (by decide)
  have k5 : V2.cell? ⟨M, 5, none⟩ = some (.int .i64 s0.rv) := r2.cell (i := 5) (by decide)
  have k6 : V2.cell? ⟨M, 6, none⟩ = some (.int .i64 (s0.at' 0)) := r2.cell (i := 6) (by decide)
  have k7 : V2.cell? ⟨M, 7, none⟩ = some (.int .i64 (s0.at' 1)) := r2.cell (i := 7) (by decide)
  have k8 : V2.cell? ⟨M, 8, none⟩ = some (.int .i64 (s0.at' 2)) := r2.cell (i := 8) (by decide)
  have k9 : V2.cell? ⟨M, 9, none⟩ = some (.int .i64 (s0.is' 0)) := r2.cell (i := 9) (by decide)
  have k10 : V2.cell? ⟨M, 10, none⟩ = some (.int .i64 (s0.is' 1)) := r2.cell (i := 10) (by decide)
  have k11 : V2.cell? ⟨M, 11, none⟩ = some (.int .i64 (s0.is' 2)) := r2.cell (i := 11) (by decide)
  have HD0 : Hid (DoS N M base p w.heap.size s0 s0 1 a b c ⟨s0.pc, s0.fp, s0.ap, s0.rv⟩ w V3) := by
    refine ⟨h.mac.below b13, (b3.block _ (by omega)).trans ((b2.block _ (by omega)).trans (by rw [hV1]; exact heap_alloc_new w _)), ?_, ?_, FrM.below (by have := h.hN; omega) b13, rfl, hMl, h.hN⟩
    · refine World.rowIs.of_block ?_ (b3.block _ (by omega))
      rw [← z1, hV2]
      exact row_newM V1 _ _ 10 _ rfl (fun i hi => by rcases ten hi with rfl | rfl | rfl | rfl | rfl | rfl | rfl | rfl | rfl | rfl <;> rfl)
    · rw [← z2, hV3]
      exact row_newM V2 _ _ 10 _ rfl (fun i hi => by rcases ten hi with rfl | rfl | rfl | rfl | rfl | rfl | rfl | rfl | rfl | rfl <;> rfl)
  have HADD := hid (fun (x y : Int) (W : World) (x1 : -9223372036854775808 ≤ x) (x2 : x ≤ 9223372036854775807) (y1 : -9223372036854775808 ≤ y) (y2 : y ≤ 9223372036854775807) => radd_any p x y W hp3 hp4 x1 x2 y1 y2)
  obtain ⟨B, hB⟩ : ∃ B, B = w.heap.size := ⟨_, rfl⟩
  have HBB := hid hB
  rw [← hB] at HD0
  obtain ⟨pc1, hpc'⟩ : ∃ pc1, pc1 = (s0.pc + 1) % (p : Int) := ⟨_, rfl⟩
  have HPC := hid hpc'
  obtain ⟨fa, hfa⟩ : ∃ fa, fa = (s0.fp + a) % (p : Int) := ⟨_, rfl⟩
  obtain ⟨fb, hfb⟩ : ∃ fb, fb = (s0.fp + b) % (p : Int) := ⟨_, rfl⟩
  obtain ⟨fc, hfc⟩ : ∃ fc, fc = (s0.fp + c) % (p : Int) := ⟨_, rfl⟩
  have HFA := hid (⟨hfa, hfb, hfc⟩ : fa = (s0.fp + a) % (p : Int) ∧ fb = (s0.fp + b) % (p : Int) ∧ fc = (s0.fp + c) % (p : Int))
  have HFR : Hid ((0 ≤ fa ∧ fa < p) ∧ (0 ≤ fb ∧ fb < p) ∧ (0 ≤ fc ∧ fc < p) ∧ (0 ≤ pc1 ∧ pc1 < p)) := by unfold Hid; rw [hfa, hfb, hfc, hpc']; exact ⟨emod_bounds _ p hp3, emod_bounds _ p hp3, emod_bounds _ p hp3, emod_bounds _ p hp3⟩
  have HAP : Hid (∀ W : World, Calls Tryz.prog 138 #[.int .i64 p, .int .i64 s0.pc, .int .i64 1] W fun e w' => e = .returned (.int .i64 pc1) ∧ w' = W) := fun W => by rw [hpc']; exact HADD.out _ _ W (by omega) (by omega) (by omega) (by omega)
  have HAA : Hid (∀ W : World, Calls Tryz.prog 138 #[.int .i64 p, .int .i64 s0.fp, .int .i64 a] W fun e w' => e = .returned (.int .i64 fa) ∧ w' = W) := fun W => by rw [hfa]; exact HADD.out _ _ W (by omega) (by omega) ha1 ha2
  have HAB : Hid (∀ W : World, Calls Tryz.prog 138 #[.int .i64 p, .int .i64 s0.fp, .int .i64 b] W fun e w' => e = .returned (.int .i64 fb) ∧ w' = W) := fun W => by rw [hfb]; exact HADD.out _ _ W (by omega) (by omega) hb1 hb2
  have HAC : Hid (∀ W : World, Calls Tryz.prog 138 #[.int .i64 p, .int .i64 s0.fp, .int .i64 c] W fun e w' => e = .returned (.int .i64 fc) ∧ w' = W) := fun W => by rw [hfc]; exact HADD.out _ _ W (by omega) (by omega) hc1 hc2
  have hz2 : V2.heap.size = B + 2 := by rw [hB]; exact z2
  have hz1 : V1.heap.size = B + 1 := by rw [hB]; exact z1
  have hz0 : w.heap.size = B := hB.symm
  clear h hv0 z1 z2 b1 b2 b3 b12 b13 r2 hB hpc' hfa hfb hfc
  rw [hV2, hV1] at k2 k3 k4 k5 k6 k7 k8 k9 k10 k11
  rw [hV2, hV1] at hV3
  clear hV2 hV1 hz2 hz1 V1 V2
  go_enter Tryz.func94, Tryz.ntmps94
  go_wp2_with fail
  rw [← hV3]
  clear hV3 k2 k3 k4 k5 k6 k7 k8 k9 k10 k11
  rw [show B + 1 + 1 = B + 2 from rfl]
  obtain ⟨c0, c2, c3, c4, c5, c13, _⟩ := HD0.out.mac.get
  have q0 : V3.cell? ⟨B + 2, 0, none⟩ = some (.int .i64 s0.pc) := HD0.out.nw.cell (i := 0) (by decide)
  have qf := HD0.out.nw.frozen
  have HD1 := hid ((HD0.out.put 0 (.int .i64 pc1) (stv_pc _ _ _)).drew)
  go_still_tail 11, hmx
  still_call (HAP.out _)
  (repeat still_step)
  refine wpStill_nil ?_
  go_wp2_with fail
  clear q0 qf c0 c2 c3 c4 c5 c13 HD0
  generalize (V3.setCell ⟨B + 2, 0, none⟩ (.int .i64 pc1)).drew = V4 at *
  obtain ⟨c0, c2, c3, c4, c5, c13, _⟩ := HD1.out.mac.get
  have i0 := fourM0 HD1.out.ins
  have i1 := fourM1 HD1.out.ins
  have i2 := fourM2 HD1.out.ins
  have i3 := fourM3 HD1.out.ins
  go_wp2_with fail
  go_quiet (first | (go_at_call 138; exact Calls.quiet_of_same (HAA.out _)))
  have HD2 := hid (HD1.out.step (belM V4 nq))
  clear c0 c2 c3 c4 c5 c13 i0 i1 i2 i3 HD1
  generalize V4.drewN nq = V5 at *
  obtain ⟨c0, c2, c3, c4, c5, c13, _⟩ := HD2.out.mac.get
  have i0 := fourM0 HD2.out.ins
  have i1 := fourM1 HD2.out.ins
  have i2 := fourM2 HD2.out.ins
  have i3 := fourM3 HD2.out.ins
  go_wp2_with fail
  go_quiet (first | (go_at_call 138; exact Calls.quiet_of_same (HAB.out _)))
  have HD3 := hid (HD2.out.step (belM V5 nq))
  clear c0 c2 c3 c4 c5 c13 i0 i1 i2 i3 HD2
  generalize V5.drewN nq = V6 at *
  obtain ⟨c0, c2, c3, c4, c5, c13, _⟩ := HD3.out.mac.get
  have i0 := fourM0 HD3.out.ins
  have i1 := fourM1 HD3.out.ins
  have i2 := fourM2 HD3.out.ins
  have i3 := fourM3 HD3.out.ins
  go_wp2_with fail
  go_quiet (first | (go_at_call 138; exact Calls.quiet_of_same (HAC.out _)))
  have HD4 := hid (HD3.out.step (belM V6 nq))
  clear c0 c2 c3 c4 c5 c13 i0 i1 i2 i3 HD3
  generalize V6.drewN nq = V7 at *
  obtain ⟨c0, c2, c3, c4, c5, c13, _⟩ := HD4.out.mac.get
  have i0 := fourM0 HD4.out.ins
  have i1 := fourM1 HD4.out.ins
  have i2 := fourM2 HD4.out.ins
  have i3 := fourM3 HD4.out.ins
  go_wp2_with fail
  have OK0 : Hid (SOk p 900000 0 s0) := ⟨HP.out.cs, HP.out.len, fun _ => by rw [HP.out.slot]; exact Nat.le_refl _⟩
  have HC1 := hid (rlook_any N M base p s0 fa V7 HD4.out.mac HP.out.hN (by have := OK0.out.2.1; omega) (fun hh => by have := OK0.out.2.2 hh; omega))
  obtain ⟨s1, hs1⟩ : ∃ s1, s1 = (s0.look fa).1 := ⟨_, rfl⟩
  obtain ⟨x1, hx1⟩ : ∃ x1, x1 = (s0.look fa).2 := ⟨_, rfl⟩
  rw [← hs1, ← hx1] at HC1
  have OK1' := look_ok hp3 OK0.out fa
  rw [← hs1, ← hx1] at OK1'
  have OK1 := hid OK1'.1
  obtain ⟨xl1, xu1⟩ := OK1'.2
  have HS1 := hid hs1
  have HX1 := hid hx1
  clear OK1' hs1 hx1
  refine HC1.out.mono ?_
  rintro e W8 ⟨rfl, hm, hf⟩
  have HD5 := hid (HD4.out.mach hm hf)
  clear hm hf HC1 HD4
  clear c0 c2 c3 c4 c5 c13 i0 i1 i2 i3
  obtain ⟨c0, c2, c3, c4, c5, c13, _⟩ := HD5.out.mac.get
  have i0 := fourM0 HD5.out.ins
  have i1 := fourM1 HD5.out.ins
  have i2 := fourM2 HD5.out.ins
  have i3 := fourM3 HD5.out.ins
  go_wp2_with fail
  have HC2 := hid (rlook_any N M base p s1 fb W8 HD5.out.mac HP.out.hN (by have := OK1.out.2.1; omega) (fun hh => by have := OK1.out.2.2 hh; omega))
  obtain ⟨s2, hs2⟩ : ∃ s2, s2 = (s1.look fb).1 := ⟨_, rfl⟩
  obtain ⟨x2, hx2⟩ : ∃ x2, x2 = (s1.look fb).2 := ⟨_, rfl⟩
  rw [← hs2, ← hx2] at HC2
  have OK2' := look_ok hp3 OK1.out fb
  rw [← hs2, ← hx2] at OK2'
  have OK2 := hid OK2'.1
  obtain ⟨xl2, xu2⟩ := OK2'.2
  have HS2 := hid hs2
  have HX2 := hid hx2
  clear OK2' hs2 hx2
  refine HC2.out.mono ?_
  rintro e W9 ⟨rfl, hm, hf⟩
  have HD6 := hid (HD5.out.mach hm hf)
  clear hm hf HC2 HD5
  clear c0 c2 c3 c4 c5 c13 i0 i1 i2 i3
  obtain ⟨c0, c2, c3, c4, c5, c13, _⟩ := HD6.out.mac.get
  have i0 := fourM0 HD6.out.ins
  have i1 := fourM1 HD6.out.ins
  have i2 := fourM2 HD6.out.ins
  have i3 := fourM3 HD6.out.ins
  go_wp2_with fail
  have HC3 := hid (rreck_any N M base p s2 1 x1 x2 W9 HD6.out.mac HP.out.hN hp3 hp4 (.inl rfl) xl1 xu1 xl2 xu2)
  obtain ⟨s3, hs3⟩ : ∃ s3, s3 = s2.rck 1 x2 := ⟨_, rfl⟩
  obtain ⟨x3, hx3⟩ : ∃ x3, x3 = rkn p 1 x1 x2 := ⟨_, rfl⟩
  rw [← hs3, ← hx3] at HC3
  have OK3' := rck_ok OK2.out 1 x2
  rw [← hs3] at OK3'
  have OK3 := hid OK3'
  have HS3 := hid hs3
  have HX3 := hid hx3
  clear OK3' hs3 hx3
  obtain ⟨xl3, xu3⟩ : 0 ≤ x3 ∧ x3 < p := by rw [HX3.out]; exact rkn_bounds hp3 _ _ _
  refine HC3.out.mono ?_
  rintro e W10 ⟨rfl, hm, hf⟩
  have HD7 := hid (HD6.out.mach hm hf)
  clear hm hf HC3 HD6
  clear c0 c2 c3 c4 c5 c13 i0 i1 i2 i3
  obtain ⟨c0, c2, c3, c4, c5, c13, _⟩ := HD7.out.mac.get
  have i0 := fourM0 HD7.out.ins
  have i1 := fourM1 HD7.out.ins
  have i2 := fourM2 HD7.out.ins
  have i3 := fourM3 HD7.out.ins
  go_wp2_with fail
  have HC4 := hid (rtell_any N M base p s3 fc x3 W10 HD7.out.mac HP.out.hN HP.out.nb hp3 hp4 (by omega) (by omega) (by have := OK3.out.2.1; omega) (fun hh => by have := OK3.out.2.2 hh; omega))
  obtain ⟨s4, hs4⟩ : ∃ s4, s4 = s3.tell p fc x3 := ⟨_, rfl⟩
  rw [← hs4] at HC4
  have OK4' := tell_ok hp3 OK3.out fc x3
  rw [← hs4] at OK4'
  have OK4 := hid OK4'
  have HS4 := hid hs4
  clear OK4' hs4
  refine HC4.out.mono ?_
  rintro e W11 ⟨rfl, hm, hf⟩
  have HD8 := hid (HD7.out.mach hm hf)
  clear hm hf HC4 HD7
  clear c0 c2 c3 c4 c5 c13 i0 i1 i2 i3
  obtain ⟨c0, c2, c3, c4, c5, c13, _⟩ := HD8.out.mac.get
  have i0 := fourM0 HD8.out.ins
  have i1 := fourM1 HD8.out.ins
  have i2 := fourM2 HD8.out.ins
  have i3 := fourM3 HD8.out.ins
  clear c0 c2 c3 c4 c5 c13 i0 i1 i2 i3
  have q0 : W11.cell? ⟨B + 2, 0, none⟩ = some (.int .i64 pc1) := HD8.out.nw.cell (i := 0) (by decide)
  have q1 : W11.cell? ⟨B + 2, 1, none⟩ = some (.int .i64 s0.fp) := HD8.out.nw.cell (i := 1) (by decide)
  have q2 : W11.cell? ⟨B + 2, 2, none⟩ = some (.int .i64 s0.ap) := HD8.out.nw.cell (i := 2) (by decide)
  have q3 : W11.cell? ⟨B + 2, 3, none⟩ = some (.int .i64 s0.rv) := HD8.out.nw.cell (i := 3) (by decide)
  have q4 : W11.cell? ⟨B + 2, 4, none⟩ = some (.int .i64 (s0.at' 0)) := HD8.out.nw.cell (i := 4) (by decide)
  have q5 : W11.cell? ⟨B + 2, 5, none⟩ = some (.int .i64 (s0.at' 1)) := HD8.out.nw.cell (i := 5) (by decide)
  have q6 : W11.cell? ⟨B + 2, 6, none⟩ = some (.int .i64 (s0.at' 2)) := HD8.out.nw.cell (i := 6) (by decide)
  have q7 : W11.cell? ⟨B + 2, 7, none⟩ = some (.int .i64 (s0.is' 0)) := HD8.out.nw.cell (i := 7) (by decide)
  have q8 : W11.cell? ⟨B + 2, 8, none⟩ = some (.int .i64 (s0.is' 1)) := HD8.out.nw.cell (i := 8) (by decide)
  have q9 : W11.cell? ⟨B + 2, 9, none⟩ = some (.int .i64 (s0.is' 2)) := HD8.out.nw.cell (i := 9) (by decide)
  have r0 : W11.cell? ⟨B + 1, 0, none⟩ = some (.int .i64 0) := HD8.out.res.cell (i := 0) (by decide)
  have r1 : W11.cell? ⟨B + 1, 1, none⟩ = some (.int .i64 0) := HD8.out.res.cell (i := 1) (by decide)
  have r2 : W11.cell? ⟨B + 1, 2, none⟩ = some (.int .i64 0) := HD8.out.res.cell (i := 2) (by decide)
  have r3 : W11.cell? ⟨B + 1, 3, none⟩ = some (.int .i64 0) := HD8.out.res.cell (i := 3) (by decide)
  have r4 : W11.cell? ⟨B + 1, 4, none⟩ = some (.int .i64 0) := HD8.out.res.cell (i := 4) (by decide)
  have r5 : W11.cell? ⟨B + 1, 5, none⟩ = some (.int .i64 0) := HD8.out.res.cell (i := 5) (by decide)
  have r6 : W11.cell? ⟨B + 1, 6, none⟩ = some (.int .i64 0) := HD8.out.res.cell (i := 6) (by decide)
  have r7 : W11.cell? ⟨B + 1, 7, none⟩ = some (.int .i64 0) := HD8.out.res.cell (i := 7) (by decide)
  have r8 : W11.cell? ⟨B + 1, 8, none⟩ = some (.int .i64 0) := HD8.out.res.cell (i := 8) (by decide)
  have r9 : W11.cell? ⟨B + 1, 9, none⟩ = some (.int .i64 0) := HD8.out.res.cell (i := 9) (by decide)
  have rf := HD8.out.res.frozen
  have hgv := HD8.out.give
  simp only [put10, stv] at hgv
  have HGV := hid hgv
  clear hgv
  clear HD8
  go_wp2_with fail
  (try simp only [Exit.inBlock, Exit.then])
  refine bodyPost_ret (results_cell_row rfl _ _ (B + 1) 135 #[.int .i64 pc1, .int .i64 s0.fp, .int .i64 s0.ap, .int .i64 s0.rv, .int .i64 (s0.at' 0), .int .i64 (s0.at' 1), .int .i64 (s0.at' 2), .int .i64 (s0.is' 0), .int .i64 (s0.is' 1), .int .i64 (s0.is' 2)] (0, 0) _ rfl HGV.out.1 Tryz.underlying135 rfl (by kernel_rfl)) rfl ?_
  have hst : s0.step p 1 a b c = (s4, ⟨pc1, s0.fp, s0.ap, s0.rv⟩) := by
    have e0 := HX1.out
    have e1 := HS1.out
    have e2 := HX2.out
    have e3 := HS2.out
    have e4 := HX3.out
    have e5 := HS3.out
    have e6 := HS4.out
    obtain ⟨h1, h2, h3⟩ := HFA.out
    have h4 := HPC.out
    subst h1 h2 h3 h4
    subst e6
    subst e5
    subst e4
    subst e3
    subst e2
    subst e1
    subst e0
    simp [RM.step, RM.three, RM.rck]
  unfold DoR
  rw [hst]
  exact ⟨rfl, HGV.out.2⟩

end Go.Proofs.YtaibngnabhmabajGreatDoor
