/- Package tree: hidden. Package tree: slices.ContainsFunc of a group's lacks. -/
import Derived.Test.YtaibngnabhmabajGreatDoorTrgs
import Derived.Test.YtaibngnabhmabajGreatDoorHeldS
namespace Go.Proofs.YtaibngnabhmabajGreatDoor
open Go.RowKit

/-- groups, as cells -/
def gcs (l : List (Nat × Nat)) : List Value := l.flatMap (fun g => [Value.int .i64 (g.1 : Int), Value.int .i64 (g.2 : Int)])
theorem gcs_len (l : List (Nat × Nat)) : (gcs l).length = l.length * 2 := by
  induction l with
  | nil => rfl
  | cons g l ih => simp only [gcs, List.flatMap_cons, List.length_append, List.length_cons, List.length_nil] at *; omega
theorem gcs_append (l l' : List (Nat × Nat)) : gcs (l ++ l') = gcs l ++ gcs l' := by simp [gcs]
theorem gcs_one (l : List (Nat × Nat)) : ∀ u ∈ gcs l, u.oneCell' = true := fun u hu => by
  obtain ⟨g, _, hg⟩ := List.mem_flatMap.1 hu
  simp at hg
  rcases hg with rfl | rfl <;> rfl
theorem wp_append_run {o : Oper} {act : Act} {K : Act → World → Prop} {Q : Exit → Act → World → Prop} {W : World} (s x : Operand) (t ty : TypeId) (ho : o.op = .call { callee := .builtin .append, args := #[s, x], argTypes := #[t, t] }) (hty : o.type = ty) (v v2 v' : Value) (w' : World)
    (hr : (Builtin.append_ #[t, t] ty #[v, v2]).run Tryz.prog W = .ok v' w') (hs : act.eval s = v) (hx : act.eval x = v2) (h : K (act.put o.dst v') w') : o.wp Tryz.prog act W K Q := by
  subst hty
  unfold Oper.wp execOp
  simp only [ho, resolve, invoke, builtin, Sem.run_bind, Sem.run_pure, Result.andThen_ok, List.map_toArray, List.map_cons, List.map_nil, hs, hx, hr]
  exact h

theorem seg_count {ps : List Int} {a b m : Int} (h2 : m ≤ b) : (seg ps a b).countP (fun x => decide (x < m)) = (seg ps a m).length := by
  rw [List.countP_eq_length_filter, seg_left ps h2]
theorem seg_take {ps : List Int} (h : Asc ps) {a b m : Int} (h1 : a ≤ m) (h2 : m ≤ b) : (seg ps a b).take (seg ps a m).length = seg ps a m := by
  rw [seg_split h h1 h2]; simp
theorem seg_drop {ps : List Int} (h : Asc ps) {a b m : Int} (h1 : a ≤ m) (h2 : m ≤ b) : (seg ps a b).drop (seg ps a m).length = seg ps m b := by
  rw [seg_split h h1 h2]; simp

end Go.Proofs.YtaibngnabhmabajGreatDoor

namespace Go.Proofs.YtaibngnabhmabajGreatDoor
open Go.RowKit

def lackb (a b : Nat) (x : Int) : Bool := decide (x < (a : Int)) || decide ((b : Int) ≤ x)
theorem any_of {a b : Nat} {l : List Int} {k : Nat} (hk : k < l.length) (h : lackb a b (zat l k) = true) : l.any (lackb a b) = true := List.any_eq_true.2 ⟨zat l k, zat_mem hk, h⟩
theorem any_not {a b : Nat} {l : List Int} (h : ∀ j, j < l.length → lackb a b (zat l j) = false) : l.any (lackb a b) = false := by
  rw [List.any_eq_false]
  intro x hx
  obtain ⟨j, hj, rfl⟩ := mem_zat hx
  rw [h j hj]
  simp

end Go.Proofs.YtaibngnabhmabajGreatDoor
