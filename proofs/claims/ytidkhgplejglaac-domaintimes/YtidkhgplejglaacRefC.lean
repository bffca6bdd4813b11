/- What attestref1.Generator and Root and the field's methods Root and P answer. -/
import Derived.Test.YtidkhgplejglaacRefB
import Derived.Deep.RegionWith
namespace Go.Proofs.Ytidkhgplejglaac
open Go.RowKit

theorem genIs_lt {p g : Nat} (h3 : 3 ≤ p) (h : Num.GenIs p g) : g < p := by
  rcases h with ⟨_, h, _⟩ | ⟨h, _⟩ <;> omega

/-- what Root answers: 0, or (p - 1) / n factors of the least element that makes all others -/
def RootIs (p : Nat) (n : Int) (r : Nat) : Prop :=
  ((n < 1 ∨ ((p : Int) - 1) % n ≠ 0) ∧ r = 0) ∨ (1 ≤ n ∧ ((p : Int) - 1) % n = 0 ∧ ∃ g, Num.GenIs p g ∧ r = Num.pwm p g ((p - 1) / n.toNat))

theorem rootIs_unique {p r s : Nat} {n : Int} (a : RootIs p n r) (b : RootIs p n s) : r = s := by
  rcases a with ⟨a1, a2⟩ | ⟨a1, a2, g, a3, a4⟩
  · rcases b with ⟨b1, b2⟩ | ⟨b1, b2, _⟩
    · omega
    · rcases a1 with a1 | a1
      · omega
      · exact absurd b2 a1
  · rcases b with ⟨b1, b2⟩ | ⟨b1, b2, h, b3, b4⟩
    · rcases b1 with b1 | b1
      · omega
      · exact absurd a2 b1
    · have := Num.genIs_unique a3 b3
      subst this
      omega

theorem quot_facts (p : Nat) (n : Int) (h3 : 3 ≤ p) (hn : 1 ≤ n) : 0 ≤ ((p : Int) - 1) / n ∧ ((p : Int) - 1) / n ≤ (p : Int) - 1 ∧ ((p : Int) - 1) / n = (((p - 1) / n.toNat : Nat) : Int) := by
  refine ⟨Int.ediv_nonneg (by omega) (by omega), Int.ediv_le_self _ (by omega), ?_⟩
  obtain ⟨k, rfl⟩ := Int.eq_ofNat_of_zero_le (show 0 ≤ n by omega)
  rw [Int.toNat_natCast]
  exact div_cast p k h3

theorem tmod_pos (p : Nat) (n : Int) (h3 : 3 ≤ p) : ((p : Int) - 1).tmod n = ((p : Int) - 1) % n := Int.tmod_eq_emod_of_nonneg (by omega)

set_option maxRecDepth 100000 in
set_option maxHeartbeats 400000 in
theorem root_any (p b : Nat) (n : Int) (w : World) (hpr : Num.Prime p) (h3 : 3 ≤ p) (hm : p ≤ 2147483647) (hp : w.cell? ⟨b, 0, none⟩ = some (.int .i64 p)) (hbl : b < w.heap.size) (hn : -9223372036854775808 ≤ n) (hn2 : n ≤ 9223372036854775807) :
    Calls Try.prog 34 #[.pointer (some ⟨b, 0, none⟩), .int .i64 n] w fun e w' => ∃ r : Nat, e = .returned (.int .i64 r) ∧ RootIs p n r ∧ Below w.heap.size w w' := by
  have hgen := hid (gen_any p b w h3 hm hp hbl)
  by_cases h1 : n < 1
  · clear hpr
    go_enter Try.func34, Try.ntmps34
    go_wp2_with fail
    go_ret
    exact ⟨0, rfl, Or.inl ⟨Or.inl h1, rfl⟩, Below.refl _ _⟩
  · by_cases hd : ((p : Int) - 1) % n = 0
    · have hb : (((p : Int) - 1) % n != 0) = false := by rw [hd]; rfl
      obtain ⟨q1, q2, q3⟩ := quot_facts p n h3 (by omega)
      have HD := hid hd
      have HPW : Hid (∀ (g : Nat) (w : World), g < p → w.cell? ⟨b, 0, none⟩ = some (.int .i64 p) → Calls Try.prog 28 #[.pointer (some ⟨b, 0, none⟩), .int .i64 g, .int .i64 (((p : Int) - 1) / n)] w fun e w' => e = .returned (.int .i64 (Num.pwm p g ((p - 1) / n.toNat))) ∧ w' = w) := by
        intro g w hg hp
        have := pow_any p b (g : Int) (((p : Int) - 1) / n) w h3 hm hp (by omega) (by omega) (by omega) (by omega)
        rw [q3, powz_ref_nat p _ (g : Int) hpr h3, el_nat p g hg] at this
        rw [q3]
        exact this
      have HGEN : Hid (∀ w1 : World, w1.cell? ⟨b, 0, none⟩ = some (.int .i64 p) → b < w1.heap.size → Calls Try.prog 18 #[.pointer (some ⟨b, 0, none⟩)] w1 fun e w' => ∃ g : Nat, e = .returned (.int .i64 g) ∧ Num.GenIs p g ∧ Below w1.heap.size w1 w') :=
        fun w1 h1 h2 => gen_any p b w1 h3 hm h1 h2
      clear hd q3 hpr hgen
      go_enter Try.func34, Try.ntmps34
      go_wp2_with fail
      go_region_with (first
        | (go_at_call 18; refine (HGEN.out _ ?_ ?_).mono ?_; exact hp; exact hbl; rintro e w1 ⟨g, rfl, hg, hbel⟩; have hp1 := (hbel.cell (p := ⟨b, 0, none⟩) hbl).trans hp; have HG := hid hg; have HB := hid hbel; clear hg hbel)
        | (go_at_call 28; refine (HPW.out g _ ?_ ?_).mono ?_; exact genIs_lt h3 HG.out; exact hp1; rintro e w2 ⟨rfl, rfl⟩))
      all_goals
        go_wp2_with fail
        go_ret
        exact ⟨_, rfl, Or.inr ⟨by omega, HD.out, g, HG.out, rfl⟩, ((Below.refl w.heap.size w).drew).trans HB.out⟩
    · have hb : (((p : Int) - 1) % n != 0) = true := by rw [bne_iff_ne]; exact hd
      have HD := hid hd
      clear hd hpr
      go_enter Try.func34, Try.ntmps34
      go_wp2_with fail
      go_ret
      exact ⟨0, rfl, Or.inl ⟨Or.inr HD.out, rfl⟩, Below.refl _ _⟩

theorem p_any (p b : Nat) (w : World) (hp : w.cell? ⟨b, 0, none⟩ = some (.int .i64 p)) :
    Calls Try.prog 38 #[.pointer (some ⟨b, 0, none⟩)] w fun e w' => e = .returned (.int .i64 p) ∧ w' = w := by
  go_enter Try.func38, Try.ntmps38
  go_wp2_with fail
  go_ret
  exact ⟨rfl, rfl⟩

end Go.Proofs.Ytidkhgplejglaac
