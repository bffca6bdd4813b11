/- attestref6.Do: what stands. -/
import Derived.Test.YtoodjpkflcbfdaiDoorMacD
namespace Go.Proofs.YtoodjpkflcbfdaiDoor
open Go.RowKit

structure Rg where
  pc : Int
  fp : Int
  ap : Int
  rv : Int
def stv (n : Rg) (s : RM) : Nat → Value
  | 0 => .int .i64 n.pc
  | 1 => .int .i64 n.fp
  | 2 => .int .i64 n.ap
  | 3 => .int .i64 n.rv
  | 4 => .int .i64 (s.at' 0)
  | 5 => .int .i64 (s.at' 1)
  | 6 => .int .i64 (s.at' 2)
  | 7 => .int .i64 (s.is' 0)
  | 8 => .int .i64 (s.is' 1)
  | _ => .int .i64 (s.is' 2)
theorem ten {i : Nat} (h : i < 10) : i = 0 ∨ i = 1 ∨ i = 2 ∨ i = 3 ∨ i = 4 ∨ i = 5 ∨ i = 6 ∨ i = 7 ∨ i = 8 ∨ i = 9 := by omega
theorem stv_pc (n : Rg) (s : RM) (x : Int) : ∀ i, i < 10 → (if i = 0 then Value.int .i64 x else stv n s i) = stv { n with pc := x } s i := fun i hi => by
  rcases ten hi with rfl | rfl | rfl | rfl | rfl | rfl | rfl | rfl | rfl | rfl <;> simp [stv]
theorem stv_fp (n : Rg) (s : RM) (x : Int) : ∀ i, i < 10 → (if i = 1 then Value.int .i64 x else stv n s i) = stv { n with fp := x } s i := fun i hi => by
  rcases ten hi with rfl | rfl | rfl | rfl | rfl | rfl | rfl | rfl | rfl | rfl <;> simp [stv]
theorem stv_ap (n : Rg) (s : RM) (x : Int) : ∀ i, i < 10 → (if i = 2 then Value.int .i64 x else stv n s i) = stv { n with ap := x } s i := fun i hi => by
  rcases ten hi with rfl | rfl | rfl | rfl | rfl | rfl | rfl | rfl | rfl | rfl <;> simp [stv]
theorem stv_rv (n : Rg) (s : RM) (x : Int) : ∀ i, i < 10 → (if i = 3 then Value.int .i64 x else stv n s i) = stv { n with rv := x } s i := fun i hi => by
  rcases ten hi with rfl | rfl | rfl | rfl | rfl | rfl | rfl | rfl | rfl | rfl <;> simp [stv]

theorem MacAt.one {M base p O : Nat} {s : RM} {W W' : World} {cs : Array Value} {t : TypeId} {f : Nat × Nat} (h : MacAt M base p s W) (hO : W.heap[O]? = some (.cells cs t f)) (h1 : t ≠ 75) (h2 : t ≠ 67) (hs : W.heap.size ≤ W'.heap.size) (e : ∀ b, b < W.heap.size → b ≠ O → W'.heap[b]? = W.heap[b]?) : MacAt M base p s W' := by
  obtain ⟨hb, v, hr, hc⟩ := h
  have hty : ∀ {b : Nat} {c' : Array Value} {t' : TypeId} {f' : Nat × Nat}, W.heap[b]? = some (.cells c' t' f') → t' ≠ t → W'.heap[b]? = W.heap[b]? := fun {b c' t' f'} hg hne => e b (Array.getElem?_eq_some_iff.1 hg).1 (by
    rintro rfl
    rw [hO] at hg
    injection hg with hg
    injection hg with _ h3 _
    exact hne h3.symm)
  refine ⟨by omega, v, ?_, hc.1, ?_⟩
  · have hr' := hr
    obtain ⟨cs', hb', _⟩ := hr
    exact hr'.of_block (hty hb' (Ne.symm h1))
  · rcases hc.2 with hn | ⟨g, cap, cur, rfl, hbb, hg, rest⟩
    · exact .inl hn
    · exact .inr ⟨g, cap, cur, rfl, hbb, (hty hg (Ne.symm h2)).trans hg, rest⟩
theorem MacAt.below {M base p : Nat} {s : RM} {W W' : World} (h : MacAt M base p s W) (e : Below W.heap.size W W') : MacAt M base p s W' := by
  obtain ⟨hb, v, hr, hc⟩ := h
  refine ⟨Nat.le_trans hb e.size, v, hr.of_block (e.block M hr.lt), hc.1, ?_⟩
  rcases hc.2 with hn | ⟨g, cap, cur, rfl, hbb, hg, rest⟩
  · exact .inl hn
  · exact .inr ⟨g, cap, cur, rfl, hbb, (e.block g (Array.getElem?_eq_some_iff.1 hg).1).trans hg, rest⟩
theorem MacAt.get {M base p : Nat} {s : RM} {W : World} (h : MacAt M base p s W) : W.cell? ⟨M, 0, none⟩ = some (.int .i64 p) ∧ W.cell? ⟨M, 2, none⟩ = some (.int .i64 s.pc) ∧ W.cell? ⟨M, 3, none⟩ = some (.int .i64 s.fp) ∧ W.cell? ⟨M, 4, none⟩ = some (.int .i64 s.ap) ∧ W.cell? ⟨M, 5, none⟩ = some (.int .i64 s.rv) ∧ W.cell? ⟨M, 13, none⟩ = some (.int .i64 s.err) ∧ M < W.heap.size := by
  obtain ⟨_, v, hr, _⟩ := h
  exact ⟨hr.cell (i := 0) (by decide), hr.cell (i := 2) (by decide), hr.cell (i := 3) (by decide), hr.cell (i := 4) (by decide), hr.cell (i := 5) (by decide), hr.cell (i := 13) (by decide), hr.lt⟩

/-- what stands in Do -/
structure DoS (N M base p B : Nat) (s0 s : RM) (op a b c : Int) (n : Rg) (w W : World) : Prop where
  mac : MacAt M base p s W
  ins : W.heap[B]? = some (.cells #[.int .i64 op, .int .i64 a, .int .i64 b, .int .i64 c] 71 (0, 0))
  res : W.rowIs (B + 1) 49 10 (fun _ => .int .i64 0)
  nw : W.rowIs (B + 2) 49 10 (stv n s0)
  fr : FrM N w W
  hB : w.heap.size = B
  hM : M < B
  hN : N ≤ M
section
variable {N M base p B : Nat} {s0 s s' : RM} {op a b c : Int} {n : Rg} {w W W' : World}
theorem FrM.below {N : Nat} {w w' : World} (hN : N ≤ w.heap.size) (e : Below w.heap.size w w') : FrM N w w' := ⟨e.mono hN, e.size, fun b _ _ _ h _ _ => e.block b (Array.getElem?_eq_some_iff.1 h).1⟩
theorem DoS.mach (h : DoS N M base p B s0 s op a b c n w W) (hm : MacAt M base p s' W') (f : FrM N W W') : DoS N M base p B s0 s' op a b c n w W' := by
  have hr := h.res
  have hn := h.nw
  have hr' := hr
  have hn' := hn
  obtain ⟨c1, b1, _⟩ := hr
  obtain ⟨c2, b2, _⟩ := hn
  exact ⟨hm, (f.2.2 _ _ _ _ h.ins (by decide) (by decide)).trans h.ins, hr'.of_block (f.2.2 _ _ _ _ b1 (by decide) (by decide)), hn'.of_block (f.2.2 _ _ _ _ b2 (by decide) (by decide)), h.fr.trans f, h.hB, h.hM, h.hN⟩
theorem DoS.step (h : DoS N M base p B s0 s op a b c n w W) (e : Below W.heap.size W W') : DoS N M base p B s0 s op a b c n w W' :=
  h.mach (h.mac.below e) (FrM.below (by have := h.nw.lt; have := h.hN; have := h.hM; omega) e)
theorem DoS.put {n' : Rg} (h : DoS N M base p B s0 s op a b c n w W) (i : Nat) (v : Value) (hn : ∀ j, j < 10 → (if j = i then v else stv n s0 j) = stv n' s0 j) : DoS N M base p B s0 s op a b c n' w (W.setCell ⟨B + 2, i, none⟩ v) := by
  have hne : ∀ x, x ≠ B + 2 → (W.setCell ⟨B + 2, i, none⟩ v).heap[x]? = W.heap[x]? := fun x hx => Below.heap_setCell _ _ _ _ hx
  have hnw := h.nw
  have hB := h.hB
  have hM := h.hM
  have hN := h.hN
  obtain ⟨c2, b2, _⟩ := hnw
  have hsz : W.heap.size ≤ (W.setCell ⟨B + 2, i, none⟩ v).heap.size := by simp [World.setCell]
  refine ⟨h.mac.one b2 (by decide) (by decide) hsz (fun x _ hx => hne x hx), (hne _ (by omega)).trans h.ins, h.res.of_block (hne _ (by omega)), (h.nw.set i v).congr hn, ?_, h.hB, h.hM, h.hN⟩
  exact ⟨h.fr.1.setCell (p := ⟨B + 2, i, none⟩) (show N ≤ B + 2 by omega) v, Nat.le_trans h.fr.2.1 hsz, fun x cs t f e h1 h2 => (hne x (by have := (Array.getElem?_eq_some_iff.1 e).1; omega)).trans (h.fr.2.2 x cs t f e h1 h2)⟩
theorem DoS.drew (h : DoS N M base p B s0 s op a b c n w W) : DoS N M base p B s0 s op a b c n w W.drew := h.step (Below.refl _ _).drew
end

end Go.Proofs.YtoodjpkflcbfdaiDoor
