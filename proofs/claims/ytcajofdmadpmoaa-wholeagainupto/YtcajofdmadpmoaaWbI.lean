/- Package whole: what Read defers. -/
import Derived.Test.YtcajofdmadpmoaaWbH
import Derived.Defers
import Derived.Recover
namespace Go.Proofs.Ytcajofdmadpmoaa
open Go.RowKit

theorem fr13 (a b v : Value) : (#[a, b] ++ (Array.replicate 11 undef).setIfInBounds 3 v : Array Value) = #[a, b, undef, undef, undef, v, undef, undef, undef, undef, undef, undef, undef] := by kernel_rfl
theorem eqW_nil (w : World) : (binOp BinOp.eql 20 .nilIface .nilIface).run Try.prog w = .ok (.bool true) w := by kernel_rfl
theorem neW_nil (T : TypeId) (v : Value) (w : World) : (binOp BinOp.eql 20 (.iface T v) .nilIface).run Try.prog w = .ok (.bool false) w := by kernel_rfl
theorem taW (w : World) : (Instr.typeAssert (.iface 44 (.agg #[])) 20 44 true).run Try.prog w = .ok (.tuple #[.agg #[], .bool true]) w := by kernel_rfl
/-- no voucher at all -/
def zvo : List Value := [.slice none 0 0, .slice none 0 0, .int .i64 0, .slice none 0 0, .slice none 0 0, .slice none 0 0, .slice none 0 0, .slice none 0 0, .slice none 0 0, .slice none 0 0, .slice none 0 0, .slice none 0 0]

set_option maxRecDepth 100000 in
set_option maxHeartbeats 400000 in
theorem catchW_idle (p q : Addr) (w : World) :
    CallsD Try.prog 11 #[.pointer (some p), .pointer (some q)] .returning w fun e u' w' => e = .returned (.tuple #[]) ∧ u' = .returning ∧ w' = w := by
  refine callsD_of_wpS Try.func11 rfl fun c₀ cs hu => ?_
  have hnil := eqW_nil
  apply wpS_seq
  apply wpS_region
  simp [wpOpsS, go_sem, recoverD, hu, Try.ntmps11, Exit.thenS]
  rw [fr13]
  refine wpS_of_wp ?_
  go_wp2_with fail
  cases c₀
  simp_all [bodyPostS, results, Try.results11]

set_option maxRecDepth 100000 in
set_option maxHeartbeats 4000000 in
theorem catchW_fault (P Q : Nat) (l : List Value) (b : Value) (w : World) (h1 : w.heap[P]? = some (.cells l.toArray 32 (0, 0))) (hl : l.length = 12) (h2 : w.heap[Q]? = some (.cells #[b] 34 (0, 0))) (hPQ : P ≠ Q) :
    CallsD Try.prog 11 #[.pointer (some ⟨P, 0, none⟩), .pointer (some ⟨Q, 0, none⟩)] (.panicking [{ v := .iface 44 (.agg #[]), recovered := false }]) w fun e u' w' => e = .returned (.tuple #[]) ∧ u' = .panicking [{ v := .iface 44 (.agg #[]), recovered := true }] ∧
      ∃ W0, Below w.heap.size w W0 ∧ w' = (W0.setRow P zvo.toArray).setCell ⟨Q, 0, none⟩ (.iface 45 (.int .i64 5)) := by
  refine callsD_of_wpS Try.func11 rfl fun c₀ cs hu => ?_
  have hnil := neW_nil
  have hta := taW
  apply wpS_seq
  apply wpS_region
  simp [wpOpsS, go_sem, recoverD, hu, Try.ntmps11, Exit.thenS]
  rw [fr13]
  refine wpS_of_wp ?_
  have HL := hid hl
  have hP := (Array.getElem?_eq_some_iff.1 h1).1
  have hQ := (Array.getElem?_eq_some_iff.1 h2).1
  obtain ⟨W0, hW0⟩ : ∃ W0, W0 = w.alloc (.cells #[] 44) := ⟨_, rfl⟩
  have hb0 : Below w.heap.size w W0 := by rw [hW0]; exact (Below.refl _ _).alloc (Nat.le_refl _) _
  have HP0 := hid ((hb0.block P hP).trans h1)
  have q0 : (W0.setRow P zvo.toArray).cell? ⟨Q, 0, none⟩ = some b := by
    rw [World.cell?_of_block (w := W0) (a := ⟨Q, 0, none⟩) (setRow_other _ _ _ _ (Ne.symm hPQ))]
    have := (hb0.block Q hQ).trans h2
    simp [World.cell?, this]
  have q1 : (W0.setRow P zvo.toArray).frozen? ⟨Q, 0, none⟩ = false := by
    have := (hb0.block Q hQ).trans h2
    rw [← setRow_other W0 P Q zvo.toArray (Ne.symm hPQ)] at this
    simp [World.frozen?, this]
  obtain ⟨V, hV⟩ : ∃ V, V = W0.setRow P zvo.toArray := ⟨_, rfl⟩
  rw [← hV] at q0 q1
  have HE : Hid (∃ W1, Below w.heap.size w W1 ∧ V.setCell ⟨Q, 0, none⟩ (.iface 45 (.int .i64 5)) = (W1.setRow P zvo.toArray).setCell ⟨Q, 0, none⟩ (.iface 45 (.int .i64 5))) := ⟨W0, hb0, by rw [hV]⟩
  have HW0 := hid hW0
  have HV := hid hV
  clear hl h1 h2 hP hQ hPQ hb0 hW0 hV
  go_wp2_with (refine wpList_store_row rfl 32 _ _ rfl P zvo.toArray rfl rfl _ _ (by rw [← HW0.out]; exact HP0.out) (by kernel_rfl) (by rw [List.size_toArray, HL.out]; rfl) (by simp [zvo, Value.oneCell']) ?_; rw [← HW0.out, ← HV.out])
  simp [bodyPostS, results, Try.results11]
  exact HE.out

end Go.Proofs.Ytcajofdmadpmoaa
