/- Package domain: wrapped and Values. -/
import Derived.Test.YtidkhgplejglaacDoorDomE
namespace Go.Proofs.YtidkhgplejglaacDoor
open Go.RowKit

set_option maxRecDepth 1000000 in
set_option maxHeartbeats 2000000 in
theorem wrapped_any (p b d n cap : Nat) (r s : Int) (P : Nat → Prop) (a : Option Addr) (zs : List Int) (w : World) (h3 : 3 ≤ p) (hm : p ≤ 2147483647) (hp : w.cell? ⟨b, 0, none⟩ = some (.int .i64 p)) (hd : DomAt w d b n r s)
    (hn0 : 0 < n) (hn : n ≤ 65536) (hs0 : 0 ≤ s) (hs1 : s < p) (hlen : zs.length ≤ 281474976710656) (hfit : Fits zs) (hrow : RowP P w a zs) (hP : ∀ k, P k → k < w.heap.size) :
    Calls Tryd.prog 31 #[.pointer (some ⟨d, 0, none⟩), .slice a zs.length cap] w fun e w' =>
      e = .returned (.slice (some ⟨w.heap.size, 0, none⟩) n n) ∧ w'.rowIs w.heap.size 3 n (fun j => .int .i64 (Dom.wrp (zat zs) s n zs.length j % (p : Int))) ∧ Below w.heap.size w w' ∧ w'.heap.size = w.heap.size + 1 := by
  have hbl0 : b < w.heap.size := by
    rcases Nat.lt_or_ge b w.heap.size with g | g
    · exact g
    · simp [World.cell?, Array.getElem?_eq_none g] at hp
  have hdl := hd.lt
  obtain ⟨c0, c1, c2, c3⟩ := hd
  have HF := hid hfit
  have HR := hid hrow
  have HPP := hid hP
  clear hfit hrow hP
  have hmk := fun n h1 h2 w => run_make_row' (P := Tryd.prog) 27 3 (.int .i64 0) 8 Tryd.underlying27 Tryd.infoInt rfl .i64 .i64 n h1 h2 w
  have hmk2 := hmk n (by omega) (by omega)
  clear hmk
  have hmx : Tryd.prog.follows .mixedOrders = true := by kernel_rfl
  go_enter Tryd.func31, Tryd.ntmps31
  go_wp2_with fail
  go_loopw [6, 18] (fun xv iv wr => ∃ k : Nat, k ≤ zs.length ∧ iv = .int .i64 k ∧ xv = .int .i64 (s ^ k % (p : Int)) ∧ Hid (wr.rowIs w.heap.size 3 n (fun j => .int .i64 (Dom.wrp (zat zs) s n k j % (p : Int)))) ∧ Hid (Below w.heap.size w wr) ∧ wr.heap.size = w.heap.size + 1)
    (fun _ iv _ => zs.length - (intOf iv).toNat)
  case atStart =>
    refine ⟨0, Nat.zero_le _, rfl, ?_, (World.rowIs_made _ _ _ _).congr (fun j _ => ?_), ?_, by simp⟩
    · have : s ^ 0 % (p : Int) = 1 := by rw [Int.pow_zero]; exact Int.emod_eq_of_lt (by omega) (by omega)
      rw [this]
    · simp [Dom.wrp, Pol.zero]
    · exact (Below.refl _ _).alloc (Nat.le_refl _) _
  case round =>
    obtain ⟨k, hk, rfl, rfl, hri, hbel, hsz⟩ := hrel
    by_cases hlt : k < zs.length
    · have hlt2 : (k : Int) < (zs.length : Int) := by omega
      obtain ⟨bl, ol, rfl, hbl, hcl⟩ := HR.out k hlt
      have hcl2 := (hbel.out.cell (p := ⟨bl, ol + k, none⟩) (HPP.out _ hbl)).trans hcl
      obtain ⟨hy1, hy2⟩ := HF.out k hlt
      have hpc := (hbel.out.cell (p := ⟨b, 0, none⟩) hbl0).trans hp
      have d0 := (hbel.out.cell (p := ⟨d, 0, none⟩) hdl).trans c0
      have d1 := (hbel.out.cell (p := ⟨d, 1, none⟩) hdl).trans c1
      have d3 := (hbel.out.cell (p := ⟨d, 3, none⟩) hdl).trans c3
      have htn : k % n < n := Nat.mod_lt _ hn0
      have et : (k : Int) % (n : Int) = ((k % n : Nat) : Int) := by rw [Int.natCast_emod]
      have hok := hri.out.cell htn
      have hos := hri.out.frozen (k % n)
      have HWM := hid (Dom.wrp_mod p (zat zs) s n k)
      obtain ⟨ob1, ob2⟩ := emod_bounds (Dom.wrp (zat zs) s n k (k % n)) p h3
      obtain ⟨qb1, qb2⟩ := emod_bounds (s ^ k) p h3
      have HRI : Hid ((wr.setCell ⟨w.heap.size, k % n, none⟩ (.int .i64 (Dom.wrp (zat zs) s n (k + 1) (k % n) % (p : Int)))).rowIs w.heap.size 3 n (fun j => .int .i64 (Dom.wrp (zat zs) s n (k + 1) j % (p : Int)))) :=
        (hri.out.set (k % n) _).congr (fun j _ => by
          show (if j = k % n then _ else Value.int .i64 (Dom.wrp (zat zs) s n k j % (p : Int))) = Value.int .i64 ((if j = k % n then Dom.wrp (zat zs) s n k j + zat zs k * s ^ k else Dom.wrp (zat zs) s n k j) % (p : Int))
          by_cases e : j = k % n
          · rw [if_pos e, if_pos e, e]; simp only [Dom.wrp, if_true]
          · rw [if_neg e, if_neg e])
      have HB := hid (hbel.out.setCell (p := ⟨w.heap.size, k % n, none⟩) (by simp) (.int .i64 (Dom.wrp (zat zs) s n (k + 1) (k % n) % (p : Int))))
      have HQ : Hid (∀ w1 : World, w1.cell? ⟨b, 0, none⟩ = some (.int .i64 p) → Calls Tryd.prog 27 #[.pointer (some ⟨b, 0, none⟩), .int .i64 (s ^ k % (p : Int)), .int .i64 s] w1 fun e w' => e = .returned (.int .i64 (s ^ (k + 1) % (p : Int))) ∧ w' = w1) :=
        fun w1 hc => by
          have := mul_any p b (s ^ k % (p : Int)) s w1 h3 hm hc (by omega) (by omega) (by omega) (by omega)
          rwa [show s ^ k % (p : Int) * s % (p : Int) = s ^ (k + 1) % (p : Int) from by rw [Int.pow_succ, Int.mul_emod, Int.emod_emod_of_dvd _ (Int.dvd_refl _), ← Int.mul_emod]] at this
      obtain ⟨sn, hsn⟩ : ∃ sn, sn = s ^ (k + 1) % (p : Int) := ⟨_, rfl⟩
      have HSN := hid hsn
      rw [← hsn] at HQ
      have HM : Hid (∀ w1 : World, w1.cell? ⟨b, 0, none⟩ = some (.int .i64 p) → Calls Tryd.prog 27 #[.pointer (some ⟨b, 0, none⟩), .int .i64 (zat zs k), .int .i64 (s ^ k % (p : Int))] w1 fun e w' => e = .returned (.int .i64 (zat zs k * (s ^ k % (p : Int)) % (p : Int))) ∧ w' = w1) :=
        fun w1 hc => mul_any p b _ _ w1 h3 hm hc hy1 hy2 (by omega) (by omega)
      obtain ⟨mb1, mb2⟩ := emod_bounds (zat zs k * (s ^ k % (p : Int))) p h3
      have HA : Hid (∀ w1 : World, w1.cell? ⟨b, 0, none⟩ = some (.int .i64 p) → Calls Tryd.prog 48 #[.pointer (some ⟨b, 0, none⟩), .int .i64 (Dom.wrp (zat zs) s n k (k % n) % (p : Int)), .int .i64 (zat zs k * (s ^ k % (p : Int)) % (p : Int))] w1 fun e w' => e = .returned (.int .i64 (Dom.wrp (zat zs) s n (k + 1) (k % n) % (p : Int))) ∧ w' = w1) :=
        fun w1 hc => by rw [← HWM.out]; exact add_any p b _ _ w1 h3 hm hc (by omega) (by omega) (by omega) (by omega)
      clear hsn HWM hcl
      generalize zat zs k * (s ^ k % (p : Int)) % (p : Int) = mq at *
      generalize s ^ k % (p : Int) = qk at *
      generalize Dom.wrp (zat zs) s n (k + 1) (k % n) % (p : Int) = z at *
      generalize Dom.wrp (zat zs) s n k (k % n) % (p : Int) = oz at *
      generalize zat zs k = y at *
      generalize k % n = t at *
      have htn2 : (t : Int) < (n : Int) := by omega
      have hzn : ((n : Int) == 0) = false := by rw [beq_eq_false_iff_ne]; omega
      have f0 : (wr.setCell ⟨w.heap.size, t, none⟩ (.int .i64 z)).cell? ⟨d, 0, none⟩ = some (.pointer (some ⟨b, 0, none⟩)) := (HB.out.cell (p := ⟨d, 0, none⟩) hdl).trans c0
      have f3 : (wr.setCell ⟨w.heap.size, t, none⟩ (.int .i64 z)).cell? ⟨d, 3, none⟩ = some (.int .i64 s) := (HB.out.cell (p := ⟨d, 3, none⟩) hdl).trans c3
      have hpc2 : (wr.setCell ⟨w.heap.size, t, none⟩ (.int .i64 z)).drew.cell? ⟨b, 0, none⟩ = some (.int .i64 p) := (HB.out.cell (p := ⟨b, 0, none⟩) hbl0).trans hp
      go_wp2_with fail
      go_still_tail 20, hmx
      still_call (HM.out _ hpc)
      still_call (HA.out _ hpc)
      refine wpStill_nil ?_
      go_wp2_with fail
      have g0 : (wr.setCell ⟨w.heap.size, t, none⟩ (.int .i64 z)).drew.cell? ⟨d, 0, none⟩ = some (.pointer (some ⟨b, 0, none⟩)) := f0
      have g3 : (wr.setCell ⟨w.heap.size, t, none⟩ (.int .i64 z)).drew.cell? ⟨d, 3, none⟩ = some (.int .i64 s) := f3
      have HRX : Hid ((wr.setCell ⟨w.heap.size, t, none⟩ (.int .i64 z)).drew.rowIs w.heap.size 3 n (fun j => .int .i64 (Dom.wrp (zat zs) s n (k + 1) j % (p : Int)))) := HRI
      have HBX : Hid (Below w.heap.size w (wr.setCell ⟨w.heap.size, t, none⟩ (.int .i64 z)).drew) := HB.out.drew
      have hsx : (wr.setCell ⟨w.heap.size, t, none⟩ (.int .i64 z)).drew.heap.size = w.heap.size + 1 := by
        show (wr.setCell ⟨w.heap.size, t, none⟩ (.int .i64 z)).heap.size = _
        simp [World.setCell]; exact hsz
      clear f0 f3 HRI HB hok hos hpc d0 d1 d3 hcl2
      generalize (wr.setCell ⟨w.heap.size, t, none⟩ (.int .i64 z)).drew = X at *
      go_quiet (first
        | (go_at_call 27; exact Calls.quiet_of_same (HQ.out _ hpc2)))
      go_wp2_with fail
      go_roundw
      case rel => exact ⟨k + 1, by omega, by go_num, by rw [HSN.out], HRX, below_drewN HBX.out _, hsx⟩
      case measure => simp [intOf]; omega
    · have hlt2 : ¬ (k : Int) < (zs.length : Int) := by omega
      obtain rfl : k = zs.length := by omega
      go_wp2_with fail
      go_ret
      exact ⟨rfl, hri.out, hbel.out, hsz⟩

end Go.Proofs.YtidkhgplejglaacDoor
