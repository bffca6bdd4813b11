/- attestsame.Sponge, attestlaw3's plain and lives. -/
import Derived.Test.YtgjkakfkefpgbafSpgs
import Derived.Test.YtgjkakfkefpgbafDoms
namespace Go.Proofs.Ytgjkakfkefpgbaf
open Go.RowKit

/-- a sponge may be made of this -/
def GoodS (p : Int) : Prop := okPrime p ∧ 23 ≤ p

theorem plain3_yes (q : Nat) (w : World) (h23 : 23 ≤ q) (h4 : q ≤ 2147483647) (hpr : Num.Prime q) :
    Calls Try.prog 7 #[.int .i64 q] w fun e w' => ∃ s b n d, e = .returned (.pointer (some ⟨s, 0, none⟩)) ∧ SpgOk q n d ∧ SpgAt w' s b q n d ∧ Below w.heap.size w w' := by
  have HF := hid (new_yes q w (by omega) h4 hpr)
  have HP := hid hpr
  clear hpr
  go_enter Try.func7, Try.ntmps7
  go_wp2_with fail
  refine HF.out.mono ?_
  rintro e w1 ⟨rfl, hc1, hb1, hlt1⟩
  have HC1 := hid hc1
  have HB1 := hid hb1
  clear hc1 hb1
  go_wp2_with fail
  refine (snew_any q w.heap.size w1 HP.out h23 h4 HC1.out).mono ?_
  rintro e w2 ⟨s, n, d, rfl, hls, hok, hat, hb2⟩
  have HE := hid (And.intro hok (And.intro hat (HB1.out.trans (hb2.mono HB1.out.size))))
  clear hok hat hb2
  go_wp2_with fail
  go_ret
  exact ⟨s, _, n, d, rfl, HE.out.1, HE.out.2.1, HE.out.2.2⟩

set_option maxHeartbeats 1000000 in
theorem plain3_no (p : Int) (w : World) (hno : ¬ GoodS p) (hp1 : -9223372036854775808 ≤ p) (hp2 : p ≤ 9223372036854775807) :
    Calls Try.prog 7 #[.int .i64 p] w fun e w' => e = .returned (.pointer none) ∧ Below w.heap.size w w' := by
  by_cases hok : okPrime p
  · obtain ⟨q, rfl⟩ := Int.eq_ofNat_of_zero_le (show 0 ≤ p by have := hok.1; omega)
    have hlt : q < 23 := by
      rcases Nat.lt_or_ge q 23 with g | g
      · exact g
      · exact absurd ⟨hok, by omega⟩ hno
    obtain ⟨hq3, hq4, hqp⟩ := hok
    rw [Int.toNat_natCast] at hqp
    have HF := hid (new_yes q w (by omega) (by omega) hqp)
    clear hno hqp hp1 hp2
    go_enter Try.func7, Try.ntmps7
    go_wp2_with fail
    refine HF.out.mono ?_
    rintro e w1 ⟨rfl, hc1, hb1, hlt1⟩
    have HC1 := hid hc1
    have HB1 := hid hb1
    clear hc1 hb1
    go_wp2_with fail
    refine (snew_no q w.heap.size w1 (by omega) hlt HC1.out).mono ?_
    rintro e w2 ⟨rfl, rfl⟩
    go_wp2_with fail
    go_ret
    exact ⟨rfl, HB1.out⟩
  · have HF := hid (new_no p w hok hp1 hp2)
    clear hno hok hp1 hp2
    go_enter Try.func7, Try.ntmps7
    go_wp2_with fail
    refine HF.out.mono ?_
    rintro e w1 ⟨rfl, rfl⟩
    go_wp2_with fail
    go_ret
    exact ⟨rfl, Below.refl _ _⟩

theorem prime97 : Num.Prime 97 := by
  refine ⟨by decide, fun d hd => ?_⟩
  have hle : d ≤ 97 := Nat.le_of_dvd (by decide) hd
  have key : ∀ e, e ≤ 97 → 97 % e = 0 → e = 1 ∨ e = 97 := by decide
  exact key d hle (Nat.mod_eq_zero_of_dvd hd)

theorem pow97 : Spo.PowIs 97 5 := by
  refine ⟨by decide, (Spo.apart_gcd (by decide)).2 (by decide), fun m h1 h2 h => ?_⟩
  have hg := (Spo.apart_gcd (n := m) (m := 97 - 1) (by omega)).1 h
  have : m = 2 ∨ m = 3 ∨ m = 4 := by omega
  rcases this with rfl | rfl | rfl <;> exact absurd hg (by decide)

theorem ArrI.rowB {w : World} {b n n0 : Nat} {t : TypeId} {f : Nat → Int} (h : ArrI w b t n f) {zs : List Int} (hn : zs.length ≤ n) (hz : ∀ j, j < zs.length → zat zs j = f j) (hg : b < n0) : RowB n0 w (some ⟨b, 0, none⟩) zs :=
  fun k hk => ⟨b, 0, rfl, hg, by rw [Nat.zero_add, hz k hk]; exact h.cell (by omega)⟩
theorem ArrI.rowF {w : World} {b n m n0 : Nat} {t : TypeId} {f : Nat → Int} (h : ArrI w b t n f) (hm : m ≤ n) (hg : b < n0) : RowF (· < n0) w (some ⟨b, 0, none⟩) m f :=
  fun k hk => ⟨b, 0, rfl, hg, by rw [Nat.zero_add]; exact h.cell (by omega)⟩

set_option maxRecDepth 100000 in
set_option maxHeartbeats 1000000 in
theorem lives3_any (w : World) : Calls Try.prog 6 #[] w fun e w' => e = .returned (.bool true) ∧ Below w.heap.size w w' := by
  go_enter Try.func6, Try.ntmps6
  go_wp2_with fail
  refine (plain3_yes 97 w (by decide) (by decide) prime97).mono ?_
  rintro e w1 ⟨s, b, n, d, rfl, hok, hat, hb1⟩
  obtain rfl : n = 5 := hok.pw.unique pow97
  have HAT := hid hat
  have HB1 := hid hb1
  clear hok hat hb1
  have HBL : Hid (Below w1.heap.size w1 (w1.alloc (.cells #[.int .i64 5] 3))) := (Below.refl _ _).alloc (Nat.le_refl _) _
  have HPD := hid (spad_any 97 5 d b s 1 1 (some ⟨w1.heap.size, 0, none⟩) (fun _ => 5) (w1.alloc (.cells #[.int .i64 5] 3)) (by decide) (by decide) (HAT.out.keep HBL.out) (by decide)
    (fun j _ => by show (-9223372036854775808 : Int) ≤ 5 ∧ (5 : Int) ≤ 9223372036854775807; decide) (fun k hk => by
      obtain rfl : k = 0 := by omega
      exact ⟨w1.heap.size, 0, rfl, by simp, by simp⟩))
  go_wp2_with fail
  refine HPD.out.mono ?_
  rintro e w2 ⟨rfl, hA, hb2⟩
  have HA := hid hA
  have HAT2 := hid ((HAT.out.keep HBL.out).keep hb2)
  have HB2 : Hid (Below w.heap.size w w2) := HB1.out.trans ((HBL.out.trans (hb2.mono (by simp))).mono HB1.out.size)
  have hlt2 := hA.lt
  have hsz : (w1.alloc (.cells #[.int .i64 5] 3)).heap.size = w1.heap.size + 1 := by simp
  rw [hsz] at HA hlt2
  rw [hsz]
  clear hA hb2 HPD HBL HAT hsz
  go_wp2_with fail
  refine (spower_any 97 5 d b s w2 HAT2.out).mono ?_
  rintro e w3 ⟨rfl, rfl⟩
  have HR1 : Hid (RowB w3.heap.size (w3.alloc (.cells #[.int .i64 5, .int .i64 1, .int .i64 0, .int .i64 0] 3)) (some ⟨w1.heap.size + 1, 0, none⟩) [5, 1, 0, 0]) :=
    (HA.out.alloc _).rowB (by decide) (fun j hj => by
      have : j = 0 ∨ j = 1 ∨ j = 2 ∨ j = 3 := by simp at hj; omega
      rcases this with rfl | rfl | rfl | rfl <;> decide) hlt2
  have HR2 : Hid (RowB (w3.heap.size + 1) (w3.alloc (.cells #[.int .i64 5, .int .i64 1, .int .i64 0, .int .i64 0] 3)) (some ⟨w3.heap.size, 0, none⟩) [5, 1, 0, 0]) := fun k hk => by
      have : k = 0 ∨ k = 1 ∨ k = 2 ∨ k = 3 := by simp at hk; omega
      rcases this with rfl | rfl | rfl | rfl <;> exact ⟨w3.heap.size, 0, rfl, by omega, by simp [zat]⟩
  have HI := hid (ints_same _ _ [5, 1, 0, 0] _ _ 4 4 (w3.alloc (.cells #[.int .i64 5, .int .i64 1, .int .i64 0, .int .i64 0] 3)) HR1.out HR2.out (by decide))
  rw [show pln 1 = 4 from by decide]
  go_wp2_with fail
  refine HI.out.mono ?_
  rintro e w4 ⟨rfl, n4, rfl⟩
  go_wp2_with fail
  go_ret
  exact ⟨rfl, below_drewN (HB2.out.alloc HB2.out.size _) n4⟩

end Go.Proofs.Ytgjkakfkefpgbaf
