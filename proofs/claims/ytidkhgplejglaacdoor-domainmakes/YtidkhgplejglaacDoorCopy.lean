/- append([]int{}, l...): a list copied, a nil one too. -/
import Derived.Test.YtidkhgplejglaacDoorOwns
import Derived.Test.YtidkhgplejglaacDoorPolA
import Derived.Laws.AppendOwnNone
namespace Go.Proofs.YtidkhgplejglaacDoor
open Go.RowKit

theorem wpList_copy {ops : Array Oper} {rest : List Oper} {o : Oper} {act : Act} {Q : Exit → Act → World → Prop} (w1 : World) (hgd : o.guard = none) (s x : Operand)
    (ho : o.op = .call { callee := .builtin .append, args := #[s, x], argTypes := #[27, 27] })
    (hs : act.eval s = .slice (some ⟨w1.heap.size, 0, none⟩) 0 0) (av : Option Addr) (cap : Nat) (zs : List Int) (hx : act.eval x = .slice av zs.length cap)
    (hlen : zs.length ≤ 17592186044416) (hl : Lst w1.heap.size w1 av cap zs)
    (h : ∀ a2 c2 w2, Lst w2.heap.size w2 a2 c2 zs → Below w1.heap.size w1 w2 → w1.heap.size < w2.heap.size → wpList Tryd.prog ops Q rest (act.put o.dst (.slice a2 zs.length c2)) w2) :
    wpList Tryd.prog ops Q (o :: rest) act (w1.alloc (.cells #[] 3)) := by
  obtain ⟨i0, hi, hz0, hz1, hz2⟩ := info_parts Tryd.infoInt
  have hown : (w1.alloc (.cells #[] 3)).ownsRow w1.heap.size 3 1 (.slice (some ⟨w1.heap.size, 0, none⟩) 0 0) 0 [] := World.ownsRow_made (size := 1) w1 #[] 0 (Nat.le_refl _) (by unfold maxLen; omega) (by simp)
  have hb0 : Below w1.heap.size w1 (w1.alloc (.cells #[] 3)) := (Below.refl _ _).alloc (Nat.le_refl _) _
  cases av with
  | none =>
    have hc := hl.nil rfl
    have hr := hl.room
    obtain rfl : cap = 0 := hc
    obtain rfl : zs = [] := List.length_eq_zero_iff.1 (by omega)
    refine wpList_append_own_none hgd s x 27 ho w1.heap.size 3 i0 1 Tryd.underlying27 hi _ _ _ hs hown hx ?_
    exact h (some ⟨w1.heap.size, 0, none⟩) 0 _ ⟨fun k hk => by simp at hk, by simp, fun e => by cases e⟩ hb0 (by simp)
  | some ad =>
    refine wpList_append_own _ hgd s x 27 ho w1.heap.size 3 i0 (.int .i64 0) 1 8 Tryd.underlying27 hi hz0 hz1 hz2 rfl (by decide) _ _ _ hs hown ad zs.length cap (zs.map (Value.int .i64)) hx (by simp) ?_ ?_ (by unfold maxLen; omega) (by omega) (by simp) ?_
    · intro j u hu
      have hj : j < zs.length := by
        rcases Nat.lt_or_ge j zs.length with g | g
        · exact g
        · simp [g] at hu
      obtain ⟨b, off, h1, h2, h5⟩ := hl.row j hj
      cases h1
      have hadd : (⟨b, off, none⟩ : Addr).add j = ⟨b, off + j, none⟩ := by unfold Addr.add; split <;> simp_all
      rw [hadd, World.cell?_alloc_lt _ _ ⟨b, off + j, none⟩ h2]
      refine h5.trans ?_
      simp [zat, hj] at hu ⊢
      exact hu
    · intro u hu; obtain ⟨y, _, rfl⟩ := List.mem_map.1 hu; rfl
    · intro v' w2 hown2 hgrow _
      rw [Nat.zero_add, List.nil_append] at hown2
      have hb2 : Below w1.heap.size w1 w2 := hb0.grown hgrow (by simp) (fun k hk => (hown.lt k hk).1)
      obtain ⟨a2, c2, rfl, hl2⟩ := lst_of_owns hown2
      have hg := hgrow.size
      exact h a2 c2 w2 hl2 hb2 (by simp at hg; omega)

theorem wpList_copyG {ops : Array Oper} {rest : List Oper} {o : Oper} {act : Act} {Q : Exit → Act → World → Prop} (w1 : World) (g : Nat) (hgs : w1.heap.size = g) (hgd : o.guard = none) (s x : Operand)
    (ho : o.op = .call { callee := .builtin .append, args := #[s, x], argTypes := #[27, 27] })
    (hs : act.eval s = .slice (some ⟨g, 0, none⟩) 0 0) (av : Option Addr) (cap : Nat) (zs : List Int) (hx : act.eval x = .slice av zs.length cap)
    (hlen : zs.length ≤ 17592186044416) (hl : Lst w1.heap.size w1 av cap zs)
    (h : ∀ a2 c2 w2, Lst w2.heap.size w2 a2 c2 zs → Below w1.heap.size w1 w2 → w1.heap.size < w2.heap.size → wpList Tryd.prog ops Q rest (act.put o.dst (.slice a2 zs.length c2)) w2) :
    wpList Tryd.prog ops Q (o :: rest) act (w1.alloc (.cells #[] 3)) := by
  subst hgs
  exact wpList_copy w1 hgd s x ho hs av cap zs hx hlen hl h

end Go.Proofs.YtidkhgplejglaacDoor
