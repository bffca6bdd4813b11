/- attestref12: two, Powers, Dot, Sum, Unit, Units. attestref12: Sum, Unit, Units, Fits. A number appended to a list of one's own: where it lies then. The reference of package gates: On, Through. -/
import Derived.Test.YtpgnabmkfkcogaaGreatDoorGqAJ
import Derived.Test.YtpgnabmkfkcogaaGreatDoorSpgs
import Derived.Test.YtpgnabmkfkcogaaGreatDoorGqAG
import Derived.StillTailTactics
import Derived.Test.YtpgnabmkfkcogaaGreatDoorGqAP
import Derived.Test.YtpgnabmkfkcogaaGreatDoorRefs
import Derived.Maps.AppendAt
namespace Go.Proofs.YtpgnabmkfkcogaaGreatDoor
open Go.RowKit

end Go.Proofs.YtpgnabmkfkcogaaGreatDoor

namespace Go.Proofs.YtpgnabmkfkcogaaGreatDoor
open Go.RowKit

theorem own_step {base size n : Nat} {e : TypeId} {v : Value} {xs : List Value} {w W : World} (h : w.ownsRow base e size v n xs) (hb : Below w.heap.size w W) : W.ownsRow base e size v n xs :=
  h.kept (row := none) ⟨hb.os, hb.tape, hb.output, hb.size, fun k hk _ => hb.block k hk⟩ (by cases v.ownBlock <;> simp)

end Go.Proofs.YtpgnabmkfkcogaaGreatDoor

namespace Go.Proofs.YtpgnabmkfkcogaaGreatDoor
open Go Go.RowKit

theorem wpList_append1 {ops : Array Oper} {rest : List Oper} {o : Oper} {act : Act} {Q : Exit → Act → World → Prop} (W : World) (base g : Nat) (y : Int) (hgd : o.guard = none) (s x : Operand)
    (ho : o.op = .call { callee := .builtin .append, args := #[s, x], argTypes := #[23, 23] }) (v : Value) (hs : act.eval s = v) (zs : List Int)
    (hown : W.ownsRow base 3 1 v zs.length (zs.map (Value.int .i64))) (hx : act.eval x = .slice (some ⟨g, 0, none⟩) 1 1) (hc : W.cell? ⟨g, 0, none⟩ = some (.int .i64 y)) (hlen : zs.length ≤ 17592186044000) (hbase : base ≤ W.heap.size)
    (h : ∀ v' w2, w2.ownsRow base 3 1 v' (zs ++ [y]).length ((zs ++ [y]).map (Value.int .i64)) → W.grownBy w2 v.ownBlock → (v'.ownBlock = v.ownBlock ∨ v'.ownBlock = some W.heap.size) → Below base W w2 → wpList Tryz.prog ops Q rest (act.put o.dst v') w2) :
    wpList Tryz.prog ops Q (o :: rest) act W := by
  obtain ⟨i0, hi, hz0, hz1, hz2⟩ := info_parts Tryz.infoInt
  refine wpList_append_own_at _ hgd s x 23 ho base 3 i0 (.int .i64 0) 1 8 Tryz.underlying23 hi hz0 hz1 hz2 rfl (by decide) _ _ _ hs hown ⟨g, 0, none⟩ 1 1 [.int .i64 y] hx (by simp) ?_ ?_ (by unfold maxLen; omega) (by omega) hbase ?_
  · intro j u hu
    match j, hu with
    | 0, hu => simp at hu; subst hu; exact hc
    | j + 1, hu => simp at hu
  · intro u hu; simp at hu; subst hu; rfl
  · intro v' w2 hown2 hgrow _ hat
    refine h v' w2 ?_ hgrow hat ((Below.refl base W).grown hgrow hbase (fun k hk => (hown.lt k hk).1))
    rw [List.length_append, List.map_append]
    exact hown2
end Go.Proofs.YtpgnabmkfkcogaaGreatDoor

namespace Go.Proofs.YtpgnabmkfkcogaaGreatDoor
open Go.RowKit

/-- a point of the line through two points -/
def onl (p : Nat) (x y : List Int) (t : Int) : List Int := ls (fun i => (zat x i + t * (zat y i - zat x i)) % (p : Int)) x.length
theorem on_eq (p : Nat) (x y t : Int) : (x + t * ((y - x) % (p : Int)) % (p : Int)) % (p : Int) = (x + t * (y - x)) % (p : Int) := by
  refine emod_of_dvd ?_
  have h1 := Pol.emod_dvd p (t * ((y - x) % (p : Int)))
  have h2 : (p : Int) ∣ t * ((y - x) % (p : Int) - (y - x)) := Int.dvd_mul_of_dvd_right (Pol.emod_dvd p (y - x))
  rw [Int.mul_sub] at h2
  have := Int.dvd_add h1 h2
  generalize t * ((y - x) % (p : Int)) % (p : Int) = A at *
  generalize t * ((y - x) % (p : Int)) = B at *
  generalize t * (y - x) = D at *
  rwa [show x + A - (x + D) = A - B + (B - D) from by omega]

end Go.Proofs.YtpgnabmkfkcogaaGreatDoor
