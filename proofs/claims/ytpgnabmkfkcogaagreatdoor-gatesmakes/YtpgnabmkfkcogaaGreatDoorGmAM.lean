/- attestref12: Sum, Unit, Units, Fits. A number appended to a list of one's own: where it lies then. The reference of package gates: On, Through. The law GatesCatches, plainly: how many elements hide what is not so. -/
import Derived.Test.YtpgnabmkfkcogaaGreatDoorGmAL
import Derived.Test.YtpgnabmkfkcogaaGreatDoorRefs
import Derived.Maps.AppendAt
import Derived.Test.YtpgnabmkfkcogaaGreatDoorGmAF
import Derived.Test.YtpgnabmkfkcogaaGreatDoorGmAI
import Derived.Test.YtpgnabmkfkcogaaGreatDoorGmAG
namespace Go.Proofs.YtpgnabmkfkcogaaGreatDoor
open Go.RowKit

theorem own_step {base size n : Nat} {e : TypeId} {v : Value} {xs : List Value} {w W : World} (h : w.ownsRow base e size v n xs) (hb : Below w.heap.size w W) : W.ownsRow base e size v n xs :=
  h.kept (row := none) ⟨hb.os, hb.tape, hb.output, hb.size, fun k hk _ => hb.block k hk⟩ (by cases v.ownBlock <;> simp)

set_option maxRecDepth 100000 in
set_option maxHeartbeats 1000000 in
theorem runit_any (q i cap : Nat) (a : Option Addr) (at' : List Int) (w : World) (h3 : 3 ≤ q) (h4 : q ≤ 2147483647) (hv : at'.length ≤ 12) (hi : i < 2 ^ at'.length) (hf : Fits at') (hr : RowB w.heap.size w a at') :
    Calls Tryz.prog 123 #[.int .i64 q, .int .i64 (i : Int), .slice a at'.length cap] w fun e w' => e = .returned (.int .i64 (Sum.wgt (zat at') at'.length i % (q : Int))) ∧ Below w.heap.size w w' := by
  have HTW := hid (rtwo_any at'.length w (by omega))
  have hN : 2 ^ at'.length ≤ 4096 := Nat.pow_le_pow_right (n := 2) (by decide) hv
  obtain ⟨N, hNN⟩ : ∃ N, N = 2 ^ at'.length := ⟨_, rfl⟩
  simp only [← hNN] at HTW hN hi
  obtain ⟨t, ht⟩ : ∃ t : List Int, t = (List.replicate N 0).set i 1 := ⟨_, rfl⟩
  have htl : t.length = N := by rw [ht]; simp
  have htz : ∀ j, j < N → zat t j = if j = i then 1 else 0 := fun j hj => by
    rw [ht]
    unfold zat
    rw [List.getElem?_set]
    by_cases e : i = j
    · subst e; simp [hj]
    · rw [if_neg e, if_neg (fun h => e h.symm)]; simp [hj]
  have HEX : Hid (∀ W : World, ArrI W w.heap.size 3 N (zat t) → Below w.heap.size w W → Calls Tryz.prog 157 #[.int .i64 q, .slice (some ⟨w.heap.size, 0, none⟩) N N, .slice a at'.length cap] W fun e w' => e = .returned (.int .i64 (Sum.wgt (zat at') at'.length i % (q : Int))) ∧ w' = W) := fun W hA hB => by
    have h := rextend_any q at'.length N cap (some ⟨w.heap.size, 0, none⟩) a t at' W W.heap.size W.heap.size h3 h4 rfl hv (by rw [htl, hNN]) (fun j hj => by
      rw [htl] at hj
      rw [htz j hj]
      split <;> omega) hf (fun k hk => ⟨_, 0, rfl, hA.lt, by rw [Nat.zero_add]; exact hA.cell (by rw [htl] at hk; exact hk)⟩) ((hr.below hB).mono hB.size)
    rw [htl, ext_unit (zat at') at'.length i (by rw [← hNN]; exact hi) (zat t) (by rw [htz i hi, if_pos rfl]) (fun j hj hne => by rw [htz j (by rw [hNN]; exact hj), if_neg hne])] at h
    exact h
  have HA2 : Hid (ArrI (w.alloc (.cells ((madeCells #[.int .i64 0] N).setIfInBounds i (.int .i64 1)) 3)) w.heap.size 3 N (zat t)) := by
    obtain ⟨cur, e1, e2, e3⟩ := World.rowIs_made w (.int .i64 0) N 3
    rw [heap_alloc_new] at e1
    injection e1 with e1
    injection e1 with e1 _ _
    rw [e1]
    refine ⟨_, heap_alloc_new w _, by simp [e2], fun j hj => ?_⟩
    rw [Array.getElem?_setIfInBounds]
    by_cases e : i = j
    · subst e
      have := htz i hj
      rw [if_pos rfl] at this
      rw [if_pos rfl, if_pos (by omega)]
      simp only [this]
    · have := htz j hj
      rw [if_neg (fun h => e h.symm)] at this
      rw [if_neg e, e3 j hj]
      simp only [this]
  have HB2 : Hid (Below w.heap.size w (w.alloc (.cells ((madeCells #[.int .i64 0] N).setIfInBounds i (.int .i64 1)) 3))) := (Below.refl _ _).alloc (Nat.le_refl _) _
  have hmk2 := fun w => run_make_row' (P := Tryz.prog) 23 3 (.int .i64 0) 8 Tryz.underlying23 Tryz.infoInt rfl .i64 .i64 N (by omega) (by omega) w
  have hi2 : (i : Int) < (N : Int) := by omega
  generalize Sum.wgt (zat at') at'.length i % (q : Int) = E at *
  generalize at'.length = v at *
  clear hf hr hNN ht htl htz
  have hA1 : ArrI (w.alloc (.cells (madeCells #[.int .i64 0] N) 3)) w.heap.size 3 N (fun _ => 0) := World.rowIs_made _ _ _ _
  have c1 := hA1.cell hi
  have y1 := hA1.frozen i
  clear hA1
  go_enter Tryz.func123, Tryz.ntmps123
  go_wp2_with fail
  refine HTW.out.mono ?_
  rintro e w1 ⟨rfl, hw1⟩
  have hw1' := hw1.symm
  subst hw1'
  clear hw1
  go_wp2_with fail
  refine (HEX.out _ HA2.out HB2.out).mono ?_
  rintro e w2 ⟨rfl, hw2⟩
  have hw2' := hw2.symm
  subst hw2'
  go_wp2_with fail
  go_ret
  exact ⟨rfl, HB2.out⟩

end Go.Proofs.YtpgnabmkfkcogaaGreatDoor

namespace Go.Proofs.YtpgnabmkfkcogaaGreatDoor
open Go Go.RowKit

theorem wpList_append1 {ops : Array Oper} {rest : List Oper} {o : Oper} {act : Act} {Q : Exit → Act → World → Prop} (W : World) (base g : Nat) (y : Int) (hgd : o.guard = none) (s x : Operand)
    (ho : o.op = .call { callee := .builtin .append, args := #[s, x], argTypes := #[23, 23] }) (v : Value) (hs : act.eval s = v) (zs : List Int)
    (hown : W.ownsRow base 3 1 v zs.length (zs.map (Value.int .i64))) (hx : act.eval x = .slice (some ⟨g, 0, none⟩) 1 1) (hc : W.cell? ⟨g, 0, none⟩ = some (.int .i64 y)) (hlen : zs.length ≤ 17592186044000) (hbase : base ≤ W.heap.size)
    (h : ∀ v' w2, w2.ownsRow base 3 1 v' (zs ++ [y]).length ((zs ++ [y]).map (Value.int .i64)) → W.grownBy w2 v.ownBlock → (v'.ownBlock = v.ownBlock ∨ v'.ownBlock = some W.heap.size) → Below base W w2 → wpList Tryz.prog ops Q rest (act.put o.dst v') w2) :
    wpList Tryz.prog ops Q (o :: rest) act W := by
  obtain ⟨i0, hi, hz0, hz1, hz2⟩ := info_parts Tryz.infoInt
  refine wpList_append_own_at _ hgd s x 23 ho base 3 i0 (.int .i64 0) 1 8 Tryz.underlying23 hi hz0 hz1 hz2 rfl (by decide) _ _ _ hs hown ⟨g, 0, none⟩ 1 1 [.int .i64 y] hx (by simp) ?_ ?_ (by unfold maxLen; omega) (by omega) hbase ?_
  · intro j u hu
    match j, hu with
    | 0, hu => simp at hu; subst hu; exact hc
    | j + 1, hu => simp at hu
  · intro u hu; simp at hu; subst hu; rfl
  · intro v' w2 hown2 hgrow _ hat
    refine h v' w2 ?_ hgrow hat ((Below.refl base W).grown hgrow hbase (fun k hk => (hown.lt k hk).1))
    rw [List.length_append, List.map_append]
    exact hown2
end Go.Proofs.YtpgnabmkfkcogaaGreatDoor

namespace Go.Proofs.YtpgnabmkfkcogaaGreatDoor
open Go.RowKit

/-- a point of the line through two points -/
def onl (p : Nat) (x y : List Int) (t : Int) : List Int := ls (fun i => (zat x i + t * (zat y i - zat x i)) % (p : Int)) x.length
theorem on_eq (p : Nat) (x y t : Int) : (x + t * ((y - x) % (p : Int)) % (p : Int)) % (p : Int) = (x + t * (y - x)) % (p : Int) := by
  refine emod_of_dvd ?_
  have h1 := Pol.emod_dvd p (t * ((y - x) % (p : Int)))
  have h2 : (p : Int) ∣ t * ((y - x) % (p : Int) - (y - x)) := Int.dvd_mul_of_dvd_right (Pol.emod_dvd p (y - x))
  rw [Int.mul_sub] at h2
  have := Int.dvd_add h1 h2
  generalize t * ((y - x) % (p : Int)) % (p : Int) = A at *
  generalize t * ((y - x) % (p : Int)) = B at *
  generalize t * (y - x) = D at *
  rwa [show x + A - (x + D) = A - B + (B - D) from by omega]

end Go.Proofs.YtpgnabmkfkcogaaGreatDoor

namespace Go.Proofs.YtpgnabmkfkcogaaGreatDoor
open Go.RowKit

/-- is it hidden at t? -/
def hdl (p : Nat) (T x y line : List Int) (t : Nat) : Bool := decide (atz p line (t : Int) = exz p T (onl p x y (t : Int)))
end Go.Proofs.YtpgnabmkfkcogaaGreatDoor
