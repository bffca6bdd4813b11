/- What attestref1.Generator and Root and the field's methods Root and P answer. -/
import Derived.Test.YtidkhgplejglaacDoorRefB
import Derived.Deep.RegionWith
namespace Go.Proofs.YtidkhgplejglaacDoor
open Go.RowKit

set_option maxRecDepth 100000 in
set_option maxHeartbeats 400000 in
theorem rgen_any (p : Nat) (w : World) (hpr : Num.Prime p) (h3 : 3 ≤ p) (hm : p ≤ 2147483647) :
    Calls Tryd.prog 54 #[.int .i64 p] w fun e w' => ∃ g : Nat, e = .returned (.int .i64 g) ∧ Num.GenIs p g ∧ w' = w := by
  have HO : Hid (∀ (g : Nat) (w : World), 1 ≤ g → g < p → Calls Tryd.prog 66 #[.int .i64 p, .int .i64 g] w fun e w' => ∃ k : Nat, e = .returned (.int .i64 k) ∧ (k = p - 1 ↔ Num.IsGen p g) ∧ w' = w) := by
    intro g w h1 h2
    refine (rorder_any p g w hpr h3 hm (by omega) (by omega)).mono fun e w' ⟨k, he, _, hk, hw⟩ => ⟨k, he, ?_, hw⟩
    have hne : (g : Int) % (p : Int) ≠ 0 := by rw [Int.emod_eq_of_lt (by omega) (by omega)]; omega
    have := hk hne
    rw [el_nat p g h2] at this
    exact Num.leastDiv_gen h3 this
  clear hpr
  go_enter Tryd.func54, Tryd.ntmps54
  go_wp2_with fail
  go_loop [3] (fun iv => ∃ i : Nat, 1 ≤ i ∧ i ≤ p ∧ iv = .int .i64 i ∧ Hid (∀ x, 1 ≤ x → x < i → ¬ Num.IsGen p x)) (fun iv => p - (intOf iv).toNat)
  case atStart => exact ⟨1, by omega, by omega, rfl, hid (fun x h1 h2 => by omega)⟩
  case round =>
    obtain ⟨i, hi1, hi2, rfl, hno⟩ := hrel
    by_cases hlt : i < p
    · have hlt2 : (i : Int) < (p : Int) := by omega
      go_wp2_with fail
      refine (HO.out i _ hi1 hlt).mono ?_
      rintro e w' ⟨k, rfl, hk, rfl⟩
      by_cases hkp : k = p - 1
      · have hb : ((k : Int) == (p : Int) - 1) = true := by rw [beq_iff_eq]; omega
        have HG := hid (hk.1 hkp)
        clear hk hkp
        go_wp2_with fail
        go_ret
        exact ⟨i, rfl, Or.inl ⟨hi1, hlt, HG.out, hno.out⟩, rfl⟩
      · have hb : ((k : Int) == (p : Int) - 1) = false := by rw [beq_eq_false_iff_ne]; omega
        have HG : Hid (¬ Num.IsGen p i) := fun h => hkp (hk.2 h)
        clear hk hkp
        go_wp2_with fail
        go_round
        case rel => exact ⟨i + 1, by omega, by omega, by go_num, fun x hx1 hx2 => by
          by_cases hxk : x = i
          · subst hxk; exact HG.out
          · exact hno.out x hx1 (by omega)⟩
        case measure => simp [intOf]; omega
    · have hlt2 : ¬ (i : Int) < (p : Int) := by omega
      have HN : Hid (∀ x, 1 ≤ x → x < p → ¬ Num.IsGen p x) := fun x hx1 hx2 => hno.out x hx1 (by omega)
      go_wp2_with fail
      go_ret
      exact ⟨0, rfl, Or.inr ⟨rfl, HN.out⟩, rfl⟩

theorem genIs_lt {p g : Nat} (h3 : 3 ≤ p) (h : Num.GenIs p g) : g < p := by
  rcases h with ⟨_, h, _⟩ | ⟨h, _⟩ <;> omega

/-- what Root answers: 0, or (p - 1) / n factors of the least element that makes all others -/
def RootIs (p : Nat) (n : Int) (r : Nat) : Prop :=
  ((n < 1 ∨ ((p : Int) - 1) % n ≠ 0) ∧ r = 0) ∨ (1 ≤ n ∧ ((p : Int) - 1) % n = 0 ∧ ∃ g, Num.GenIs p g ∧ r = Num.pwm p g ((p - 1) / n.toNat))

theorem rootIs_unique {p r s : Nat} {n : Int} (a : RootIs p n r) (b : RootIs p n s) : r = s := by
  rcases a with ⟨a1, a2⟩ | ⟨a1, a2, g, a3, a4⟩
  · rcases b with ⟨b1, b2⟩ | ⟨b1, b2, _⟩
    · omega
    · rcases a1 with a1 | a1
      · omega
      · exact absurd b2 a1
  · rcases b with ⟨b1, b2⟩ | ⟨b1, b2, h, b3, b4⟩
    · rcases b1 with b1 | b1
      · omega
      · exact absurd a2 b1
    · have := Num.genIs_unique a3 b3
      subst this
      omega

theorem quot_facts (p : Nat) (n : Int) (h3 : 3 ≤ p) (hn : 1 ≤ n) : 0 ≤ ((p : Int) - 1) / n ∧ ((p : Int) - 1) / n ≤ (p : Int) - 1 ∧ ((p : Int) - 1) / n = (((p - 1) / n.toNat : Nat) : Int) := by
  refine ⟨Int.ediv_nonneg (by omega) (by omega), Int.ediv_le_self _ (by omega), ?_⟩
  obtain ⟨k, rfl⟩ := Int.eq_ofNat_of_zero_le (show 0 ≤ n by omega)
  rw [Int.toNat_natCast]
  exact div_cast p k h3

theorem tmod_pos (p : Nat) (n : Int) (h3 : 3 ≤ p) : ((p : Int) - 1).tmod n = ((p : Int) - 1) % n := Int.tmod_eq_emod_of_nonneg (by omega)

set_option maxRecDepth 100000 in
set_option maxHeartbeats 400000 in
theorem rroot_any (p : Nat) (n : Int) (w : World) (hpr : Num.Prime p) (h3 : 3 ≤ p) (hm : p ≤ 2147483647) (hn : -9223372036854775808 ≤ n) (hn2 : n ≤ 9223372036854775807) :
    Calls Tryd.prog 44 #[.int .i64 p, .int .i64 n] w fun e w' => ∃ r : Nat, e = .returned (.int .i64 r) ∧ RootIs p n r ∧ w' = w := by
  have hgen := hid (rgen_any p w hpr h3 hm)
  clear hpr
  by_cases h1 : n < 1
  · go_enter Tryd.func44, Tryd.ntmps44
    go_wp2_with fail
    go_ret
    exact ⟨0, rfl, Or.inl ⟨Or.inl h1, rfl⟩, rfl⟩
  · by_cases hd : ((p : Int) - 1) % n = 0
    · have hb : (((p : Int) - 1) % n != 0) = false := by rw [hd]; rfl
      obtain ⟨q1, q2, q3⟩ := quot_facts p n h3 (by omega)
      have HD := hid hd
      have HQ := hid q3
      have HPW : Hid (∀ (g : Nat) (w : World), g < p → Calls Tryd.prog 55 #[.int .i64 p, .int .i64 g, .int .i64 (((p : Int) - 1) / n)] w fun e w' => e = .returned (.int .i64 (Num.pwm p g ((p - 1) / n.toNat))) ∧ w' = w) := by
        intro g w hg
        have := rpow_nat p ((p - 1) / n.toNat) (g : Int) w h3 hm (by omega) (by omega) (by omega)
        rw [el_nat p g hg, ← q3] at this
        exact this
      clear hd q3
      go_enter Tryd.func44, Tryd.ntmps44
      go_wp2_with fail
      refine hgen.out.mono ?_
      rintro e w' ⟨g, rfl, hg, rfl⟩
      have HG := hid hg
      clear hg
      go_wp2_with fail
      refine (HPW.out g _ (genIs_lt h3 HG.out)).mono ?_
      rintro e w' ⟨rfl, rfl⟩
      go_wp2_with fail
      go_ret
      exact ⟨_, rfl, Or.inr ⟨by omega, HD.out, g, HG.out, rfl⟩, rfl⟩
    · have hb : (((p : Int) - 1) % n != 0) = true := by rw [bne_iff_ne]; exact hd
      have HD := hid hd
      clear hd
      go_enter Tryd.func44, Tryd.ntmps44
      go_wp2_with fail
      go_ret
      exact ⟨0, rfl, Or.inl ⟨Or.inr HD.out, rfl⟩, rfl⟩

set_option maxRecDepth 100000 in
set_option maxHeartbeats 400000 in
theorem root_any (p b : Nat) (n : Int) (w : World) (hpr : Num.Prime p) (h3 : 3 ≤ p) (hm : p ≤ 2147483647) (hp : w.cell? ⟨b, 0, none⟩ = some (.int .i64 p)) (hbl : b < w.heap.size) (hn : -9223372036854775808 ≤ n) (hn2 : n ≤ 9223372036854775807) :
    Calls Tryd.prog 43 #[.pointer (some ⟨b, 0, none⟩), .int .i64 n] w fun e w' => ∃ r : Nat, e = .returned (.int .i64 r) ∧ RootIs p n r ∧ Below w.heap.size w w' := by
  have hgen := hid (gen_any p b w h3 hm hp hbl)
  by_cases h1 : n < 1
  · clear hpr
    go_enter Tryd.func43, Tryd.ntmps43
    go_wp2_with fail
    go_ret
    exact ⟨0, rfl, Or.inl ⟨Or.inl h1, rfl⟩, Below.refl _ _⟩
  · by_cases hd : ((p : Int) - 1) % n = 0
    · have hb : (((p : Int) - 1) % n != 0) = false := by rw [hd]; rfl
      obtain ⟨q1, q2, q3⟩ := quot_facts p n h3 (by omega)
      have HD := hid hd
      have HPW : Hid (∀ (g : Nat) (w : World), g < p → w.cell? ⟨b, 0, none⟩ = some (.int .i64 p) → Calls Tryd.prog 29 #[.pointer (some ⟨b, 0, none⟩), .int .i64 g, .int .i64 (((p : Int) - 1) / n)] w fun e w' => e = .returned (.int .i64 (Num.pwm p g ((p - 1) / n.toNat))) ∧ w' = w) := by
        intro g w hg hp
        have := pow_any p b (g : Int) (((p : Int) - 1) / n) w h3 hm hp (by omega) (by omega) (by omega) (by omega)
        rw [q3, powz_ref_nat p _ (g : Int) hpr h3, el_nat p g hg] at this
        rw [q3]
        exact this
      have HGEN : Hid (∀ w1 : World, w1.cell? ⟨b, 0, none⟩ = some (.int .i64 p) → b < w1.heap.size → Calls Tryd.prog 53 #[.pointer (some ⟨b, 0, none⟩)] w1 fun e w' => ∃ g : Nat, e = .returned (.int .i64 g) ∧ Num.GenIs p g ∧ Below w1.heap.size w1 w') :=
        fun w1 h1 h2 => gen_any p b w1 h3 hm h1 h2
      clear hd q3 hpr hgen
      go_enter Tryd.func43, Tryd.ntmps43
      go_wp2_with fail
      go_region_with (first
        | (go_at_call 53; refine (HGEN.out _ ?_ ?_).mono ?_; exact hp; exact hbl; rintro e w1 ⟨g, rfl, hg, hbel⟩; have hp1 := (hbel.cell (p := ⟨b, 0, none⟩) hbl).trans hp; have HG := hid hg; have HB := hid hbel; clear hg hbel)
        | (go_at_call 29; refine (HPW.out g _ ?_ ?_).mono ?_; exact genIs_lt h3 HG.out; exact hp1; rintro e w2 ⟨rfl, rfl⟩))
      all_goals
        go_wp2_with fail
        go_ret
        exact ⟨_, rfl, Or.inr ⟨by omega, HD.out, g, HG.out, rfl⟩, ((Below.refl w.heap.size w).drew).trans HB.out⟩
    · have hb : (((p : Int) - 1) % n != 0) = true := by rw [bne_iff_ne]; exact hd
      have HD := hid hd
      clear hd hpr
      go_enter Tryd.func43, Tryd.ntmps43
      go_wp2_with fail
      go_ret
      exact ⟨0, rfl, Or.inl ⟨Or.inr HD.out, rfl⟩, Below.refl _ _⟩

theorem p_any (p b : Nat) (w : World) (hp : w.cell? ⟨b, 0, none⟩ = some (.int .i64 p)) :
    Calls Tryd.prog 12 #[.pointer (some ⟨b, 0, none⟩)] w fun e w' => e = .returned (.int .i64 p) ∧ w' = w := by
  go_enter Tryd.func12, Tryd.ntmps12
  go_wp2_with fail
  go_ret
  exact ⟨rfl, rfl⟩

end Go.Proofs.YtidkhgplejglaacDoor
