/- Package fold: joined, folded, Fold. -/
import Derived.Test.YtfppkjpgihnibaaGreatDoorCods
import Derived.Test.YtfppkjpgihnibaaGreatDoorSpgs
import Derived.StillTailTactics
namespace Go.Proofs.YtfppkjpgihnibaaGreatDoor
open Go.RowKit

theorem joined_eq {p : Nat} (hp : Num.Prime p) (h3 : 3 ≤ p) {x : Int} (hx : ¬ (p : Int) ∣ x) (a b c : Int) :
    (x * ((a + b) % (p : Int)) % (p : Int) + c * ((a - b) % (p : Int)) % (p : Int)) % (p : Int) * (invn p (2 * x % (p : Int)) : Int) % (p : Int) = Fol.pairz p x a b c := by
  have h2 := Fol.two_nd h3
  have hx2 : ¬ (p : Int) ∣ x * 2 % (p : Int) := fun h => by
    have : (p : Int) ∣ x * 2 := by
      have := Int.dvd_sub h (Pol.emod_dvd p (x * 2))
      rwa [show x * 2 % (p : Int) - (x * 2 % (p : Int) - x * 2) = x * 2 from by omega] at this
    exact (Pol.prime_mul hp this).elim hx h2
  have i2 := invn_dvd hp h3 h2
  have ix := invn_dvd hp h3 hx2
  unfold Fol.pairz
  rw [Int.mul_comm 2 x]
  obtain ⟨I, hI⟩ : ∃ I : Int, I = (invn p 2 : Int) := ⟨_, rfl⟩
  obtain ⟨J, hJ⟩ : ∃ J : Int, J = (invn p (x * 2 % (p : Int)) : Int) := ⟨_, rfl⟩
  rw [← hI] at i2 ⊢
  rw [← hJ] at ix ⊢
  have ix2 : (p : Int) ∣ J * (x * 2) - 1 := Fol.dvdt (Fol.dvdm (Fol.dvd0 p J) (Fol.dvdn (Pol.emod_dvd p (x * 2)))) ix
  rw [Pol.emod_eq_iff (by omega)]
  have k1 : (p : Int) ∣ (x * ((a + b) % (p : Int)) % (p : Int) + c * ((a - b) % (p : Int)) % (p : Int)) % (p : Int) - (x * (a + b) + c * (a - b)) :=
    Fol.dvdt (Pol.emod_dvd p _) (Fol.dvda (Fol.dvdt (Pol.emod_dvd p _) (Fol.dvdm (Fol.dvd0 p x) (Pol.emod_dvd p _))) (Fol.dvdt (Pol.emod_dvd p _) (Fol.dvdm (Fol.dvd0 p c) (Pol.emod_dvd p _))))
  refine Fol.dvdt (Fol.dvdm k1 (Fol.dvd0 p J)) ?_
  -- (x (a + b) + c (a - b)) J against (a + b) I + (a - b) J c
  have k2 : (p : Int) ∣ x * J - I := by
    have e1 := Fol.dvdm (Fol.dvd0 p (x * J)) i2
    have e2 := Fol.dvdm ix2 (Fol.dvd0 p I)
    have e3 := Fol.dvds e2 e1
    rwa [show J * (x * 2) * I - x * J * (I * 2) - (1 * I - x * J * 1) = x * J - I from by grind] at e3
  have k3 := Fol.dvdm (Fol.dvd0 p (a + b)) k2
  rwa [show (a + b) * (x * J) - (a + b) * I = (x * (a + b) + c * (a - b)) * J - ((a + b) * I + (a - b) * J * c) from by grind] at k3

set_option maxRecDepth 100000 in
set_option maxHeartbeats 1000000 in
theorem fjoined_any (p f : Nat) (x a b c : Int) (w : World) (hpr : Num.Prime p) (h3 : 3 ≤ p) (hm : p ≤ 2147483647) (hp : w.cell? ⟨f, 0, none⟩ = some (.int .i64 p)) (hx : ¬ (p : Int) ∣ x) (hx0 : 0 ≤ x) (hx1 : x < p) (ha : -9223372036854775808 ≤ a) (ha2 : a ≤ 9223372036854775807) (hb : -9223372036854775808 ≤ b) (hb2 : b ≤ 9223372036854775807) (hc : -9223372036854775808 ≤ c) (hc2 : c ≤ 9223372036854775807) :
    Calls Tryz.prog 119 #[.pointer (some ⟨f, 0, none⟩), .int .i64 x, .int .i64 a, .int .i64 b, .int .i64 c] w fun e w' => e = .returned (.int .i64 (Fol.pairz p x a b c)) ∧ w' = w := by
  have HE := hid (joined_eq hpr h3 hx a b c)
  have H1 := hid (add_any p f a b w h3 hm hp ha ha2 hb hb2)
  have H2 := hid (sub_any p f a b w h3 hm hp ha ha2 hb hb2)
  obtain ⟨m1, m2⟩ := emod_bounds (a + b) p h3
  obtain ⟨m3, m4⟩ := emod_bounds (a - b) p h3
  generalize (a + b) % (p : Int) = s1 at *
  generalize (a - b) % (p : Int) = s2 at *
  have H3 := hid (mul_any p f x s1 w h3 hm hp (by omega) (by omega) (by omega) (by omega))
  have H4 := hid (mul_any p f c s2 w h3 hm hp hc hc2 (by omega) (by omega))
  obtain ⟨m5, m6⟩ := emod_bounds (x * s1) p h3
  obtain ⟨m7, m8⟩ := emod_bounds (c * s2) p h3
  generalize x * s1 % (p : Int) = s3 at *
  generalize c * s2 % (p : Int) = s4 at *
  have H5 := hid (add_any p f s3 s4 w h3 hm hp (by omega) (by omega) (by omega) (by omega))
  obtain ⟨m9, m10⟩ := emod_bounds (s3 + s4) p h3
  generalize (s3 + s4) % (p : Int) = s5 at *
  have H6 := hid (mul_any p f 2 x w h3 hm hp (by omega) (by omega) (by omega) (by omega))
  obtain ⟨m11, m12⟩ := emod_bounds (2 * x) p h3
  generalize 2 * x % (p : Int) = s6 at *
  have H7 := hid (div_any p f s5 s6 w hpr h3 hm hp (by omega) (by omega) (by omega) (by omega))
  rw [HE.out] at H7
  generalize Fol.pairz p x a b c = z at *
  clear HE hpr hx hp
  go_enter Tryz.func119, Tryz.ntmps119
  go_wp2_with fail
  refine H1.out.mono ?_
  rintro e w' ⟨rfl, rfl⟩
  go_wp2_with fail
  refine H3.out.mono ?_
  rintro e w' ⟨rfl, rfl⟩
  go_wp2_with fail
  refine H2.out.mono ?_
  rintro e w' ⟨rfl, rfl⟩
  go_wp2_with fail
  refine H4.out.mono ?_
  rintro e w' ⟨rfl, rfl⟩
  go_wp2_with fail
  refine H5.out.mono ?_
  rintro e w' ⟨rfl, rfl⟩
  go_wp2_with fail
  refine H6.out.mono ?_
  rintro e w' ⟨rfl, rfl⟩
  go_wp2_with fail
  refine H7.out.mono ?_
  rintro e w' ⟨rfl, rfl⟩
  go_wp2_with fail
  go_ret
  exact ⟨rfl, rfl⟩

theorem lst_arr {w : World} {g n : Nat} {f : Nat → Int} {zs : List Int} (h : ArrI w g 3 n f) (hl : zs.length = n) (hz : ∀ j, j < n → zat zs j = f j) : Lst w.heap.size w (some ⟨g, 0, none⟩) n zs :=
  ⟨fun k hk => ⟨g, 0, rfl, h.lt, by rw [Nat.zero_add, h.cell (by omega), hz k (by omega)]⟩, by omega, fun e => by cases e⟩

end Go.Proofs.YtfppkjpgihnibaaGreatDoor
