/- SourceEvals: the walk. -/
import Derived.Test.YtlgcmeachjjmgajGreatDoorFld
import Derived.Test.YtlgcmeachjjmgajGreatDoorRiL
namespace Go.Proofs.YtlgcmeachjjmgajGreatDoor
open Go.RowKit Go.Maps

theorem PgAt.beloE {lo : Nat} {w w' : World} {p : Nat} {fs : List FnT} (h : PgAt lo w p fs) (hb : Below w.heap.size w w') : PgAt lo w' p fs := by
  obtain ⟨pa, pc, B, h1, h2, h3, h4, h5, h6⟩ := h
  exact ⟨pa, pc, B, (hb.block _ (Array.getElem?_eq_some_iff.1 h1).1).trans h1, h2, h3, h4, h5.below hb, h6.below hb⟩
/-- how both Evals end -/
theorem ElR.both {n m : Nat} {fuel : Int} {w w' : World} {r : ER Int} {e : Ending} (h : ElR n m fuel w r e w') :
    (∃ z : Int, e = .returned (.tuple #[.agg #[.int .i64 0, .int .i64 0], .iface 72 (.int .i64 z)]) ∧ ∀ (v v' : World) (e' : Ending), RlR n m fuel v r e' v' → e' = .returned (.tuple #[.agg #[.int .i64 0, .int .i64 0], .int .i64 z]) ∧ Below v.heap.size v v') ∨
    (∃ (x : Int) (k : Nat), e = .returned (.tuple #[.agg #[.int .i64 x, .int .i64 (k : Int)], .nilIface]) ∧ ∀ (v v' : World) (e' : Ending), RlR n m fuel v r e' v' → e' = .returned (.tuple #[.agg #[.int .i64 x, .int .i64 (k : Int)], .int .i64 0]) ∧ Below v.heap.size v v') := by
  obtain ⟨_, h⟩ := h
  by_cases hn : n ≠ m
  · rw [if_pos hn] at h
    exact Or.inl ⟨2, h, fun v v' e' h' => by obtain ⟨hb, h'⟩ := h'; rw [if_pos hn] at h'; exact ⟨h', hb⟩⟩
  · rw [if_neg hn] at h
    by_cases hf : fuel < 0 ∨ 16384 < fuel
    · rw [if_pos hf] at h
      exact Or.inl ⟨3, h, fun v v' e' h' => by obtain ⟨hb, h'⟩ := h'; rw [if_neg hn, if_pos hf] at h'; exact ⟨h', hb⟩⟩
    · rw [if_neg hf] at h
      cases r with
      | out => exact h.elim
      | stop er => exact Or.inl ⟨er, h, fun v v' e' h' => by obtain ⟨hb, h'⟩ := h'; rw [if_neg hn, if_neg hf] at h'; exact ⟨h'.1, hb⟩⟩
      | val x k => exact Or.inr ⟨x, k, h, fun v v' e' h' => by obtain ⟨hb, h'⟩ := h'; rw [if_neg hn, if_neg hf] at h'; exact ⟨h', hb⟩⟩
theorem eq_val (x y : Int) (w : World) : (binOp BinOp.eql 36 (.agg #[.int .i64 x, .int .i64 y]) (.agg #[.int .i64 x, .int .i64 y])).run Tryz.prog w = .ok (.bool true) w := by
  simp [go_sem]

end Go.Proofs.YtlgcmeachjjmgajGreatDoor
