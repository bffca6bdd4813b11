/- Package domain: Point and Half. -/
import Derived.Test.YtidkhgplejglaacDoorDomC
import Derived.Test.YtidkhgplejglaacDoorGen
import Derived.Test.YtidkhgplejglaacDoorHeldS
import Derived.StillTailTactics
import Derived.BigRegion
import Derived.Deep.RegionWith
namespace Go.Proofs.YtidkhgplejglaacDoor
open Go.RowKit

set_option maxRecDepth 100000 in
set_option maxHeartbeats 1000000 in
theorem point_any (p b d k : Nat) (r s i : Int) (w : World) (hpr : Num.Prime p) (h3 : 3 ≤ p) (hm : p ≤ 2147483647) (hp : w.cell? ⟨b, 0, none⟩ = some (.int .i64 p)) (hd : DomAt w d b ((2 ^ k : Nat) : Int) r s)
    (hk : k ≤ 16) (hr0 : 0 ≤ r) (hr1 : r < p) (hs0 : 0 ≤ s) (hs1 : s < p) :
    Calls Tryd.prog 13 #[.pointer (some ⟨d, 0, none⟩), .int .i64 i] w fun e w' => e = .returned (.int .i64 (Dom.pt p s r (i % ((2 ^ k : Nat) : Int)).toNat)) ∧ w' = w.drew := by
  have hmx : Tryd.prog.follows .mixedOrders = true := by kernel_rfl
  have hle : 2 ^ k ≤ 65536 := Nat.pow_le_pow_right (by decide : 0 < 2) hk
  have hpos : 1 ≤ 2 ^ k := Nat.pow_pos (by decide)
  obtain ⟨c0, c1, c2, c3⟩ := hd
  have ha := andn_i64 k i (by omega) (((2 ^ k : Nat) : Int) - 1) (by omega)
  have ht0 : 0 ≤ i % ((2 ^ k : Nat) : Int) := Int.emod_nonneg _ (by omega)
  have ht1 : i % ((2 ^ k : Nat) : Int) < ((2 ^ k : Nat) : Int) := Int.emod_lt_of_pos _ (by omega)
  obtain ⟨t, ht⟩ := Int.eq_ofNat_of_zero_le ht0
  rw [ht] at ha ht1 ⊢
  rw [Int.toNat_natCast]
  have HP : Hid (∀ w1 : World, w1.cell? ⟨b, 0, none⟩ = some (.int .i64 p) → Calls Tryd.prog 29 #[.pointer (some ⟨b, 0, none⟩), .int .i64 r, .int .i64 (t : Int)] w1 fun e w' => e = .returned (.int .i64 (r ^ t % (p : Int))) ∧ w' = w1) := fun w1 h => by
    have := pow_any p b r (t : Int) w1 h3 hm h (by omega) (by omega) (by omega) (by omega)
    rwa [powz_ref_nat p t r hpr h3, Num.pwm_cast, show ((el p r : Nat) : Int) = r from by rw [el_cast p r h3]; exact Int.emod_eq_of_lt hr0 hr1] at this
  obtain ⟨pb0, pb1⟩ := emod_bounds (r ^ t) p h3
  have HM : Hid (∀ w1 : World, w1.cell? ⟨b, 0, none⟩ = some (.int .i64 p) → Calls Tryd.prog 27 #[.pointer (some ⟨b, 0, none⟩), .int .i64 s, .int .i64 (r ^ t % (p : Int))] w1 fun e w' => e = .returned (.int .i64 (Dom.pt p s r t)) ∧ w' = w1) := fun w1 h => by
    rw [← Dom.pt_mul]; exact mul_any p b _ _ w1 h3 hm h (by omega) (by omega) (by omega) (by omega)
  have hw : IntKind.i64.wrap (((2 ^ k : Nat) : Int) - 1) = ((2 ^ k : Nat) : Int) - 1 := by rw [IntKind.wrap_i64]; omega
  generalize r ^ t % (p : Int) = y at *
  generalize Dom.pt p s r t = z at *
  clear ht ht0 hpr hle hpos
  generalize ((2 ^ k : Nat) : Int) = n at *
  go_enter Tryd.func13, Tryd.ntmps13
  go_wp2_with fail
  refine wp_region_still_lit hmx (by kernel_rfl) ?_
  repeat still_step
  still_call (HP.out _ hp)
  repeat still_step
  still_call (HM.out _ hp)
  repeat still_step
  refine wpStill_nil ?_
  go_wp2_with fail
  go_ret
  exact ⟨rfl, rfl⟩

theorem half_one (b d : Nat) (r s : Int) (w : World) (hd : DomAt w d b 1 r s) :
    Calls Tryd.prog 15 #[.pointer (some ⟨d, 0, none⟩)] w fun e w' => e = .returned (.tuple #[.pointer none, .iface 61 (.int .i64 2)]) ∧ w' = w := by
  obtain ⟨c0, c1, c2, c3⟩ := hd
  go_enter Tryd.func15, Tryd.ntmps15
  go_wp2_with fail
  go_ret2
  exact ⟨rfl, rfl⟩

set_option maxRecDepth 100000 in
set_option maxHeartbeats 1000000 in
theorem half_any (p b d m : Nat) (r s : Int) (w : World) (h3 : 3 ≤ p) (hm : p ≤ 2147483647) (hp : w.cell? ⟨b, 0, none⟩ = some (.int .i64 p)) (hd : DomAt w d b ((2 * m : Nat) : Int) r s) (h0 : 0 < m) (hmm : m ≤ 65536)
    (hr0 : 0 ≤ r) (hr1 : r < p) (hs0 : 0 ≤ s) (hs1 : s < p) :
    Calls Tryd.prog 15 #[.pointer (some ⟨d, 0, none⟩)] w fun e w' => ∃ d' : Nat, e = .returned (.tuple #[.pointer (some ⟨d', 0, none⟩), .nilIface]) ∧ w.heap.size ≤ d' ∧ DomAt w' d' b m (r * r % (p : Int)) (s * s % (p : Int)) ∧ Below w.heap.size w w' := by
  have hmx : Tryd.prog.follows .mixedOrders = true := by kernel_rfl
  have hdl := hd.lt
  have hbl : b < w.heap.size := by
    rcases Nat.lt_or_ge b w.heap.size with g | g
    · exact g
    · simp [World.cell?, Array.getElem?_eq_none g] at hp
  obtain ⟨c0, c1, c2, c3⟩ := hd
  have e1 : ((2 * m : Nat) : Int) / 2 = (m : Int) := by omega
  have e2 : (((2 * m : Nat) : Int) == 1) = false := by rw [beq_eq_false_iff_ne]; omega
  have e3 : 0 ≤ ((2 * m : Nat) : Int) := by omega
  have e4 : IntKind.i64.wrap (((2 * m : Nat) : Int).tdiv 2) = (m : Int) := by
    rw [Int.tdiv_eq_ediv_of_nonneg (by omega), e1, IntKind.wrap_i64]; omega
  have HR : Hid (∀ w1 : World, w1.cell? ⟨b, 0, none⟩ = some (.int .i64 p) → Calls Tryd.prog 27 #[.pointer (some ⟨b, 0, none⟩), .int .i64 r, .int .i64 r] w1 fun e w' => e = .returned (.int .i64 (r * r % (p : Int))) ∧ w' = w1) := fun w1 h => mul_any p b r r w1 h3 hm h (by omega) (by omega) (by omega) (by omega)
  have HS : Hid (∀ w1 : World, w1.cell? ⟨b, 0, none⟩ = some (.int .i64 p) → Calls Tryd.prog 27 #[.pointer (some ⟨b, 0, none⟩), .int .i64 s, .int .i64 s] w1 fun e w' => e = .returned (.int .i64 (s * s % (p : Int))) ∧ w' = w1) := fun w1 h => mul_any p b s s w1 h3 hm h (by omega) (by omega) (by omega) (by omega)
  generalize r * r % (p : Int) = rr at *
  generalize s * s % (p : Int) = ss at *
  generalize ((2 * m : Nat) : Int) = n at *
  go_enter Tryd.func15, Tryd.ntmps15
  go_wp2_with fail
  have hC0 : w.drew.cell? ⟨d, 0, none⟩ = some (.pointer (some ⟨b, 0, none⟩)) ∧ w.drew.cell? ⟨d, 1, none⟩ = some (.int .i64 n) ∧ w.drew.cell? ⟨d, 2, none⟩ = some (.int .i64 r) := ⟨c0, c1, c2⟩
  have hBW : Below w.heap.size w (w.alloc (.cells #[.pointer none, .int .i64 0, .int .i64 0] 55)).drew := ((Below.refl _ _).alloc (Nat.le_refl _) _).drew
  have hC1 : (w.alloc (.cells #[.pointer none, .int .i64 0, .int .i64 0] 55)).drew.cell? ⟨d, 0, none⟩ = some (.pointer (some ⟨b, 0, none⟩)) ∧ (w.alloc (.cells #[.pointer none, .int .i64 0, .int .i64 0] 55)).drew.cell? ⟨d, 1, none⟩ = some (.int .i64 n) ∧ (w.alloc (.cells #[.pointer none, .int .i64 0, .int .i64 0] 55)).drew.cell? ⟨d, 2, none⟩ = some (.int .i64 r) :=
    ⟨(hBW.cell (p := ⟨d, 0, none⟩) hdl).trans c0, (hBW.cell (p := ⟨d, 1, none⟩) hdl).trans c1, (hBW.cell (p := ⟨d, 2, none⟩) hdl).trans c2⟩
  have hpW := (hBW.cell (p := ⟨b, 0, none⟩) hbl).trans hp
  have HBW := hid hBW
  clear hBW
  refine wp_region_S (C := fun W => W.cell? ⟨d, 0, none⟩ = some (.pointer (some ⟨b, 0, none⟩)) ∧ W.cell? ⟨d, 1, none⟩ = some (.int .i64 n) ∧ W.cell? ⟨d, 2, none⟩ = some (.int .i64 r)) (st := [29]) hmx ?_
  show wpAnyS _ _ _ _ _ _ 30 (Array.replicate 30 false) _ _
  refine wpAnyS_pure (i := 0) (v := .pointer (some ⟨d, 0, none⟩)) rfl (by kernel_rfl) (by kernel_rfl) (by kernel_rfl) (by kernel_rfl) (fun _ _ _ h => h) (Or.inl ⟨by rfl, fun W _ => ?_⟩) (fun _ => hC0) ?_
  · go_simp
  refine wpAnyS_pure (i := 1) (v := .pointer (some ⟨d, 0, none⟩)) rfl (by kernel_rfl) (by kernel_rfl) (by kernel_rfl) (by kernel_rfl) (fun _ _ _ h => h) (Or.inl ⟨by rfl, fun W _ => ?_⟩) (fun _ => hC0) ?_
  · go_simp
  refine wpAnyS_pure (i := 2) (v := .pointer (some ⟨d, 0, none⟩)) rfl (by kernel_rfl) (by kernel_rfl) (by kernel_rfl) (by kernel_rfl) (fun _ _ _ h => h) (Or.inl ⟨by rfl, fun W _ => ?_⟩) (fun _ => hC0) ?_
  · go_simp
  refine wpAnyS_pure (i := 3) (v := .pointer (some ⟨d, 0, none⟩)) rfl (by kernel_rfl) (by kernel_rfl) (by kernel_rfl) (by kernel_rfl) (fun _ _ _ h => h) (Or.inl ⟨by rfl, fun W _ => ?_⟩) (fun _ => hC0) ?_
  · go_simp
  refine wpAnyS_take (i := 4) (v := .pointer (some ⟨b, 0, none⟩)) rfl (by kernel_rfl) (by kernel_rfl) (by kernel_rfl) (by kernel_rfl) (by kernel_rfl) (by kernel_rfl) (fun _ _ _ h => h) (Or.inl ⟨by rfl, fun W hC => ?_⟩) hC0 ?_
  · obtain ⟨g0, g1, g2⟩ := hC
    go_simp
  refine wpAnyS_pure (i := 5) (v := .pointer (some ⟨d, 0, none⟩)) rfl (by kernel_rfl) (by kernel_rfl) (by kernel_rfl) (by kernel_rfl) (fun _ _ _ h => h) (Or.inl ⟨by rfl, fun W _ => ?_⟩) (fun _ => hC0) ?_
  · go_simp
  refine wpAnyS_pure (i := 6) (v := .pointer (some ⟨d, 0, none⟩)) rfl (by kernel_rfl) (by kernel_rfl) (by kernel_rfl) (by kernel_rfl) (fun _ _ _ h => h) (Or.inl ⟨by rfl, fun W _ => ?_⟩) (fun _ => hC0) ?_
  · go_simp
  refine wpAnyS_pure (i := 7) (v := .pointer (some ⟨d, 0, none⟩)) rfl (by kernel_rfl) (by kernel_rfl) (by kernel_rfl) (by kernel_rfl) (fun _ _ _ h => h) (Or.inl ⟨by rfl, fun W _ => ?_⟩) (fun _ => hC0) ?_
  · go_simp
  refine wpAnyS_pure (i := 8) (v := .pointer (some ⟨d, 1, none⟩)) rfl (by kernel_rfl) (by kernel_rfl) (by kernel_rfl) (by kernel_rfl) (fun _ _ _ h => h) (Or.inl ⟨by rfl, fun W _ => ?_⟩) (fun _ => hC0) ?_
  · go_simp
  refine wpAnyS_take (i := 9) (v := .int .i64 n) rfl (by kernel_rfl) (by kernel_rfl) (by kernel_rfl) (by kernel_rfl) (by kernel_rfl) (by kernel_rfl) (fun _ _ _ h => h) (Or.inl ⟨by rfl, fun W hC => ?_⟩) hC0 ?_
  · obtain ⟨g0, g1, g2⟩ := hC
    go_simp
  refine wpAnyS_pure (i := 10) (v := .int .i64 m) rfl (by kernel_rfl) (by kernel_rfl) (by kernel_rfl) (by kernel_rfl) (fun _ _ _ h => h) (Or.inl ⟨by rfl, fun W _ => ?_⟩) (fun _ => hC0) ?_
  · go_simp
  refine wpAnyS_pure (i := 11) (v := .pointer (some ⟨d, 0, none⟩)) rfl (by kernel_rfl) (by kernel_rfl) (by kernel_rfl) (by kernel_rfl) (fun _ _ _ h => h) (Or.inl ⟨by rfl, fun W _ => ?_⟩) (fun _ => hC0) ?_
  · go_simp
  refine wpAnyS_pure (i := 12) (v := .pointer (some ⟨d, 0, none⟩)) rfl (by kernel_rfl) (by kernel_rfl) (by kernel_rfl) (by kernel_rfl) (fun _ _ _ h => h) (Or.inl ⟨by rfl, fun W _ => ?_⟩) (fun _ => hC0) ?_
  · go_simp
  refine wpAnyS_pure (i := 13) (v := .pointer (some ⟨d, 0, none⟩)) rfl (by kernel_rfl) (by kernel_rfl) (by kernel_rfl) (by kernel_rfl) (fun _ _ _ h => h) (Or.inl ⟨by rfl, fun W _ => ?_⟩) (fun _ => hC0) ?_
  · go_simp
  refine wpAnyS_pure (i := 14) (v := .pointer (some ⟨d, 0, none⟩)) rfl (by kernel_rfl) (by kernel_rfl) (by kernel_rfl) (by kernel_rfl) (fun _ _ _ h => h) (Or.inl ⟨by rfl, fun W _ => ?_⟩) (fun _ => hC0) ?_
  · go_simp
  refine wpAnyS_take (i := 15) (v := .pointer (some ⟨b, 0, none⟩)) rfl (by kernel_rfl) (by kernel_rfl) (by kernel_rfl) (by kernel_rfl) (by kernel_rfl) (by kernel_rfl) (fun _ _ _ h => h) (Or.inl ⟨by rfl, fun W hC => ?_⟩) hC0 ?_
  · obtain ⟨g0, g1, g2⟩ := hC
    go_simp
  refine wpAnyS_pure (i := 16) (v := .pointer (some ⟨d, 0, none⟩)) rfl (by kernel_rfl) (by kernel_rfl) (by kernel_rfl) (by kernel_rfl) (fun _ _ _ h => h) (Or.inl ⟨by rfl, fun W _ => ?_⟩) (fun _ => hC0) ?_
  · go_simp
  refine wpAnyS_pure (i := 17) (v := .pointer (some ⟨d, 0, none⟩)) rfl (by kernel_rfl) (by kernel_rfl) (by kernel_rfl) (by kernel_rfl) (fun _ _ _ h => h) (Or.inl ⟨by rfl, fun W _ => ?_⟩) (fun _ => hC0) ?_
  · go_simp
  refine wpAnyS_pure (i := 18) (v := .pointer (some ⟨d, 0, none⟩)) rfl (by kernel_rfl) (by kernel_rfl) (by kernel_rfl) (by kernel_rfl) (fun _ _ _ h => h) (Or.inl ⟨by rfl, fun W _ => ?_⟩) (fun _ => hC0) ?_
  · go_simp
  refine wpAnyS_pure (i := 19) (v := .pointer (some ⟨d, 2, none⟩)) rfl (by kernel_rfl) (by kernel_rfl) (by kernel_rfl) (by kernel_rfl) (fun _ _ _ h => h) (Or.inl ⟨by rfl, fun W _ => ?_⟩) (fun _ => hC0) ?_
  · go_simp
  refine wpAnyS_take (i := 20) (v := .int .i64 r) rfl (by kernel_rfl) (by kernel_rfl) (by kernel_rfl) (by kernel_rfl) (by kernel_rfl) (by kernel_rfl) (fun _ _ _ h => h) (Or.inl ⟨by rfl, fun W hC => ?_⟩) hC0 ?_
  · obtain ⟨g0, g1, g2⟩ := hC
    go_simp
  refine wpAnyS_pure (i := 21) (v := .pointer (some ⟨d, 0, none⟩)) rfl (by kernel_rfl) (by kernel_rfl) (by kernel_rfl) (by kernel_rfl) (fun _ _ _ h => h) (Or.inl ⟨by rfl, fun W _ => ?_⟩) (fun _ => hC0) ?_
  · go_simp
  refine wpAnyS_pure (i := 22) (v := .pointer (some ⟨d, 0, none⟩)) rfl (by kernel_rfl) (by kernel_rfl) (by kernel_rfl) (by kernel_rfl) (fun _ _ _ h => h) (Or.inl ⟨by rfl, fun W _ => ?_⟩) (fun _ => hC0) ?_
  · go_simp
  refine wpAnyS_pure (i := 23) (v := .pointer (some ⟨d, 0, none⟩)) rfl (by kernel_rfl) (by kernel_rfl) (by kernel_rfl) (by kernel_rfl) (fun _ _ _ h => h) (Or.inl ⟨by rfl, fun W _ => ?_⟩) (fun _ => hC0) ?_
  · go_simp
  refine wpAnyS_pure (i := 24) (v := .pointer (some ⟨d, 2, none⟩)) rfl (by kernel_rfl) (by kernel_rfl) (by kernel_rfl) (by kernel_rfl) (fun _ _ _ h => h) (Or.inl ⟨by rfl, fun W _ => ?_⟩) (fun _ => hC0) ?_
  · go_simp
  refine wpAnyS_take (i := 25) (v := .int .i64 r) rfl (by kernel_rfl) (by kernel_rfl) (by kernel_rfl) (by kernel_rfl) (by kernel_rfl) (by kernel_rfl) (fun _ _ _ h => h) (Or.inl ⟨by rfl, fun W hC => ?_⟩) hC0 ?_
  · obtain ⟨g0, g1, g2⟩ := hC
    go_simp
  refine wpAnyS_two (i := 26) (j := 28) (by kernel_rfl) ?one ?two
  case' one =>
    refine wpOp_step rfl (fun K' hK' => ?_)
    rw [if_pos (by rfl)]
    go_simp
    refine (HR.out w.drew hp).mono ?_
    rintro e w5 ⟨rfl, rfl⟩
    refine hK' _ _ ⟨fun _ => hC0, ?_⟩
    clear hK' K'
    refine wpAnyS_pure (i := 27) (v := .agg #[.pointer (some ⟨b, 0, none⟩), .int .i64 m, .int .i64 rr]) rfl (by kernel_rfl) (by kernel_rfl) (by kernel_rfl) (by kernel_rfl) (fun _ _ _ h => h) (Or.inl ⟨by rfl, fun W _ => ?_⟩) (fun _ => hC0) ?_
    · go_simp
    refine wpAnyS_one (i := 28) (by kernel_rfl) ?_
    refine wpOp_step rfl (fun K' hK' => ?_)
    rw [if_pos (by rfl)]
    go_simp
    refine hK' _ _ ⟨fun _ => hC1, ?_⟩
    clear hK' K'
  case' two =>
    refine wpOp_step rfl (fun K' hK' => ?_)
    rw [if_pos (by rfl)]
    go_simp
    refine hK' _ _ ⟨fun _ => hC1, ?_⟩
    clear hK' K'
    refine wpAnyS_one (i := 26) (by kernel_rfl) ?_
    refine wpOp_step rfl (fun K' hK' => ?_)
    rw [if_pos (by rfl)]
    go_simp
    refine (HR.out _ hpW).mono ?_
    rintro e w5 ⟨rfl, rfl⟩
    refine hK' _ _ ⟨fun _ => hC1, ?_⟩
    clear hK' K'
    refine wpAnyS_pure (i := 27) (v := .agg #[.pointer (some ⟨b, 0, none⟩), .int .i64 m, .int .i64 rr]) rfl (by kernel_rfl) (by kernel_rfl) (by kernel_rfl) (by kernel_rfl) (fun _ _ _ h => h) (Or.inl ⟨by rfl, fun W _ => ?_⟩) (fun _ => hC1) ?_
    · go_simp
  all_goals
    refine wpAnyS_one (i := 29) (by kernel_rfl) ?_
    refine wpOp_step rfl (fun K' hK' => ?_)
    rw [if_pos (by rfl)]
    go_simp
    refine hK' _ _ ⟨fun h => absurd (h 29 (by simp)) (by decide), ?_⟩
    clear hK' K'
    refine wpAnyS_done (by kernel_rfl) ?_ _
    have HBF : Hid (Below w.heap.size w (w.alloc (.cells #[.pointer (some ⟨b, 0, none⟩), .int .i64 m, .int .i64 rr] 55)).drew) := ((Below.refl _ _).alloc (Nat.le_refl _) _).drew
    have s0 := (HBF.out.cell (p := ⟨d, 0, none⟩) hdl).trans c0
    have s3 := (HBF.out.cell (p := ⟨d, 3, none⟩) hdl).trans c3
    have hpF : Hid ((w.alloc (.cells #[.pointer (some ⟨b, 0, none⟩), .int .i64 m, .int .i64 rr] 55)).drew.drew.cell? ⟨b, 0, none⟩ = some (.int .i64 p)) := (HBF.out.cell (p := ⟨b, 0, none⟩) hbl).trans hp
    have q0 : (w.alloc (.cells #[.pointer (some ⟨b, 0, none⟩), .int .i64 m, .int .i64 rr] 55)).drew.cell? ⟨w.heap.size, 0, none⟩ = some (.pointer (some ⟨b, 0, none⟩)) := by
      show (w.alloc (.cells #[.pointer (some ⟨b, 0, none⟩), .int .i64 m, .int .i64 rr] 55)).cell? ⟨w.heap.size, 0, none⟩ = _
      simp
    have q1 : (w.alloc (.cells #[.pointer (some ⟨b, 0, none⟩), .int .i64 m, .int .i64 rr] 55)).drew.cell? ⟨w.heap.size, 1, none⟩ = some (.int .i64 m) := by
      show (w.alloc (.cells #[.pointer (some ⟨b, 0, none⟩), .int .i64 m, .int .i64 rr] 55)).cell? ⟨w.heap.size, 1, none⟩ = _
      simp
    have q2 : (w.alloc (.cells #[.pointer (some ⟨b, 0, none⟩), .int .i64 m, .int .i64 rr] 55)).drew.cell? ⟨w.heap.size, 2, none⟩ = some (.int .i64 rr) := by
      show (w.alloc (.cells #[.pointer (some ⟨b, 0, none⟩), .int .i64 m, .int .i64 rr] 55)).cell? ⟨w.heap.size, 2, none⟩ = _
      simp
    clear hC0 hC1 c0 c1 c2 c3 hpW HBW HR
    have hsF : w.heap.size < (w.alloc (.cells #[.pointer (some ⟨b, 0, none⟩), .int .i64 m, .int .i64 rr] 55)).drew.heap.size := by
      show w.heap.size < (w.alloc (.cells #[.pointer (some ⟨b, 0, none⟩), .int .i64 m, .int .i64 rr] 55)).heap.size
      simp
    generalize (w.alloc (.cells #[.pointer (some ⟨b, 0, none⟩), .int .i64 m, .int .i64 rr] 55)).drew = W1 at *
    go_wp2_with fail
    go_still_tail 16, hmx
    still_call (HS.out _ hpF.out)
    repeat still_step
    refine wpStill_nil ?_
    go_wp2_with fail
    go_ret2
    exact ⟨_, rfl, Nat.le_of_lt hsF, ⟨by simp, by simp, by simp, by simp⟩, (HBF.out.drew).alloc (Nat.le_of_lt hsF) _⟩

end Go.Proofs.YtidkhgplejglaacDoor
