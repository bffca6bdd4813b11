/- Package sponge: Hash. -/
import Derived.Test.YtaibngnabhmabakDoorBaAL
namespace Go.Proofs.YtaibngnabhmabakDoor
open Go.RowKit Go.Shelf

attribute [local go_sem] Oper.semAt_some

theorem wpListIn_load_an {F : Fence} {n0 : Nat} {P : Program} {ops : Array Oper} {rest : List Oper} {o : Oper} {a : Act} {w : World} {Q : Exit → Act → World → Prop} (hgd : o.guard = none) (ty : TypeId) (x : Operand) (ho : o.op = .load ty x)
    (g : Nat) (hx : a.eval x = .pointer (some ⟨g, 0, none⟩)) (t : TypeId) (n m : Nat) (e : TypeId) (f : Nat → Int) (hr : ArrI w g t n f) (hu : P.underlying ty = some (.array m e)) (hi : (P.info? ty).map (·.size) = some n)
    (h : wpListIn F n0 P ops Q rest (a.put o.dst (.agg (an n f))) w) : wpListIn F n0 P ops Q (o :: rest) a w :=
  wpListIn_plain hgd fun K hK => by
    have hrun : (execOp a.eval o).run P w = .ok (.value (.agg (an n f))) w := by
      unfold execOp
      simp only [ho, hx, Instr.loadAt, Instr.sureAddr, Sem.run_bind, Sem.run_pure, Result.andThen_ok, run_loadVar_row w g t ty (an n f) (0, 0) _ hr.heap hu rfl (by rw [an_size]; exact hi)]
    unfold Oper.wpIn
    rw [Oper.semAt_eq _ _ _ (by intro c; rw [ho]; exact Op.noConfusion), hrun, Oper.uponIn_value]
    exact ⟨fun f hf => (by unfold Oper.about at hf; rw [ho] at hf; cases hf), hK _ _ h⟩
theorem wpListIn_store_an {F : Fence} {n0 : Nat} {P : Program} {ops : Array Oper} {rest : List Oper} {o : Oper} {a : Act} {w : World} {Q : Exit → Act → World → Prop} (hgd : o.guard = none) (ty : TypeId) (x y : Operand) (ho : o.op = .store ty x y)
    (g n : Nat) (f h0 : Nat → Int) (hx : a.eval x = .pointer (some ⟨g, 0, none⟩)) (hy : a.eval y = .agg (an n f)) (t : TypeId) (hr : ArrI w g t n h0) (hi : (P.info? ty).map (·.size) = some n)
    (h : wpListIn F n0 P ops Q rest (a.put o.dst undef) (w.setRow g (an n f))) : wpListIn F n0 P ops Q (o :: rest) a w :=
  wpListIn_plain hgd fun K hK => by
    have hrun : (execOp a.eval o).run P w = .ok .skip (w.setRow g (an n f)) := by
      unfold execOp
      simp only [ho, hx, hy, Instr.storeAt, Instr.sureAddr, Sem.run_bind, Sem.run_pure, Result.andThen_ok, run_storeVar_row w g t ty (an n h0) (an n f) hr.heap (by rw [an_size]; exact hi) (by rw [an_size, an_size]) (an_one n f)]
    unfold Oper.wpIn
    rw [Oper.semAt_eq _ _ _ (by intro c; rw [ho]; exact Op.noConfusion), hrun, Oper.uponIn_skip]
    exact ⟨fun f hf => (by unfold Oper.about at hf; rw [ho] at hf; cases hf), hK _ _ h⟩

/-! ## one block alone has turned of what was there -/
theorem gb_refl (g : Nat) (W : World) : W.grownBy W (some g) := ⟨rfl, rfl, rfl, Nat.le_refl _, fun _ _ _ => rfl⟩
theorem gb_trans {g : Nat} {A B C : World} (h : A.grownBy B (some g)) (k : B.grownBy C (some g)) : A.grownBy C (some g) :=
  ⟨k.os.trans h.os, k.tape.trans h.tape, k.output.trans h.output, Nat.le_trans h.size k.size, fun i hi hg => (k.block i (Nat.lt_of_lt_of_le hi h.size) hg).trans (h.block i hi hg)⟩
theorem gb_below {g : Nat} {A B : World} (h : Below A.heap.size A B) : A.grownBy B (some g) := ⟨h.os, h.tape, h.output, h.size, fun i hi _ => h.block i hi⟩
theorem gb_drew {g : Nat} {A B : World} (h : A.grownBy B (some g)) : A.grownBy B.drew (some g) := ⟨h.os, h.tape, h.output, h.size, h.block⟩
theorem gb_setCell {g : Nat} {A B : World} (h : A.grownBy B (some g)) (i : Nat) (v : Value) : A.grownBy (B.setCell ⟨g, i, none⟩ v) (some g) :=
  gb_trans h ⟨rfl, rfl, rfl, by simp [World.setCell], fun k _ hk => Below.heap_setCell _ _ _ _ (by intro e; exact hk (by rw [show k = g from e]))⟩
theorem gb_setRow {g : Nat} {A B : World} (h : A.grownBy B (some g)) (cs : Array Value) : A.grownBy (B.setRow g cs) (some g) :=
  gb_trans h ⟨rfl, rfl, rfl, by simp, fun k _ hk => setRow_other _ _ _ _ (by intro e; exact hk (by rw [e]))⟩
theorem gb_blk {g k : Nat} {A B : World} (h : A.grownBy B (some g)) (hk : k < A.heap.size) (hne : k ≠ g) : B.heap[k]? = A.heap[k]? := h.block k hk (by intro e; injection e with e; exact hne e)
theorem gb_cell {g : Nat} {A B : World} (h : A.grownBy B (some g)) {p : Addr} (hk : p.block < A.heap.size) (hne : p.block ≠ g) : B.cell? p = A.cell? p := World.cell?_of_block (gb_blk h hk hne)

theorem soak_bounds {q : Nat} {s P : Nat → Int} {t j : Nat} (h3 : 3 ≤ q) (h : 0 ≤ s j ∧ s j < q) : 0 ≤ soak q s P t j ∧ soak q s P t j < q := by
  unfold soak
  split
  · exact emod_bounds _ q h3
  · exact h
theorem soak_congr {q : Nat} {s s' P : Nat → Int} {t j : Nat} (h : s j = s' j) : soak q s P t j = soak q s' P t j := by unfold soak; rw [h]

end Go.Proofs.YtaibngnabhmabakDoor
