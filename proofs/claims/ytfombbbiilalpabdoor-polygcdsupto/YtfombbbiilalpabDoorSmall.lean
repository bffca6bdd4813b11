/- What the second form's bound gives: the lengths of two lists together. -/
import Derived.Test.YtfombbbiilalpabDoorRows
namespace Go.Proofs.YtfombbbiilalpabDoor

/-- two lists among the arguments: the bound gives their lengths -/
theorem small_two {H : Type} {p : Int} {d1 d2 : DataW H} {xs ys : List Int} (hk : Rows.uptoSmall H [.lit (.int .i64 p), d1, d2] = true)
    (h1 : (d1 = .nil ∧ xs = []) ∨ ∃ elems spare, d1 = .slice elems spare ∧ elems.length = xs.length) (h2 : (d2 = .nil ∧ ys = []) ∨ ∃ elems spare, d2 = .slice elems spare ∧ elems.length = ys.length) : xs.length + ys.length ≤ 1048576 := by
  have h : Rows.uptoBulkAll [DataW.lit (H := H) (.int .i64 p), d1, d2] ≤ 1048576 := of_decide_eq_true hk
  simp only [Rows.uptoBulkAll] at h
  have one : ∀ d : DataW H, 1 ≤ Rows.uptoBulk d := fun d => by
    cases d with
    | lit l => cases l <;> simp [Rows.uptoBulk]
    | nil => simp [Rows.uptoBulk]
    | ptr d => simp [Rows.uptoBulk]
    | slice elems spare => simp [Rows.uptoBulk]
    | agg parts => simp [Rows.uptoBulk]
    | iface t d => simp [Rows.uptoBulk]
    | map entries => simp [Rows.uptoBulk]
    | held h => simp [Rows.uptoBulk]
  have len : ∀ l : List (DataW H), l.length ≤ Rows.uptoBulkAll l := fun l => by
    induction l with
    | nil => simp [Rows.uptoBulkAll]
    | cons x r ih => have := one x; simp only [Rows.uptoBulkAll, List.length_cons]; omega
  have key : ∀ (d : DataW H) (zs : List Int), ((d = .nil ∧ zs = []) ∨ ∃ elems spare, d = .slice elems spare ∧ elems.length = zs.length) → zs.length ≤ Rows.uptoBulk d := fun d zs hd => by
    rcases hd with ⟨_, rfl⟩ | ⟨elems, spare, rfl, he⟩
    · simp
    · have := len elems
      simp only [Rows.uptoBulk]; omega
  have k1 := key d1 xs h1
  have k2 := key d2 ys h2
  omega

end Go.Proofs.YtfombbbiilalpabDoor
