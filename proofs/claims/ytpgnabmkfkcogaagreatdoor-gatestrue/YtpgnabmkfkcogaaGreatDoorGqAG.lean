/- attestref4: weight, Extend, Fix, Total, At. attestsame.Sponge, attestlaw3's plain and lives. -/
import Derived.Test.YtpgnabmkfkcogaaGreatDoorGqAF
import Derived.Test.YtpgnabmkfkcogaaGreatDoorSpgs
import Derived.Test.YtpgnabmkfkcogaaGreatDoorDoms
namespace Go.Proofs.YtpgnabmkfkcogaaGreatDoor
open Go.RowKit

theorem dvd_self_mod (p : Nat) (a : Int) : (p : Int) ∣ a % (p : Int) - a := Pol.emod_dvd p a

/-- the table over one variable less: the first is r -/
def fixl (p : Nat) (t : List Int) (r : Int) : List Int := ls (fun i => (zat t i * (1 - r) + zat t (i + t.length / 2) * r) % (p : Int)) (t.length / 2)
theorem fixl_len (p : Nat) (t : List Int) (r : Int) : (fixl p t r).length = t.length / 2 := ls_len _ _
theorem fixl_at {p : Nat} {t : List Int} {r : Int} {i : Nat} (h : i < t.length / 2) : zat (fixl p t r) i = (zat t i * (1 - r) + zat t (i + t.length / 2) * r) % (p : Int) := ls_at _ _ _ h

/-- the sum of products -/
def totz (p : Nat) (rows : List (List Int)) : Int := Dom.sm (fun i => Sum.prz (fun k => zat (rat rows k) i) rows.length) (rat rows 0).length % (p : Int)
theorem totz_bounds (p : Nat) (rows : List (List Int)) (h3 : 3 ≤ p) : 0 ≤ totz p rows ∧ totz p rows < p := emod_bounds _ p h3

/-- 0, 1, .. -/
def cnt' (n : Nat) : List Int := ls (fun i => (i : Int)) n
theorem cnt_len (n : Nat) : (cnt' n).length = n := ls_len _ _
/-- what the polynomial that is l at 0, 1, .. is at r -/
def atz (p : Nat) (l : List Int) (r : Int) : Int := evz p (pfit p (cnt' l.length) l) r
theorem atz_bounds (p : Nat) (l : List Int) (r : Int) (h3 : 3 ≤ p) : 0 ≤ atz p l r ∧ atz p l r < p := emod_bounds _ p h3
theorem pfit_can {p : Nat} (h3 : 3 ≤ p) (xs ys : List Int) : Pol.Can p (pfit p xs ys) := Pol.mk_can (by omega) _ _
theorem pfit_le (p : Nat) (xs ys : List Int) : (pfit p xs ys).length ≤ xs.length := by rw [pfit, Pol.mk_length]; exact Pol.tp_le _ _ _

end Go.Proofs.YtpgnabmkfkcogaaGreatDoor

namespace Go.Proofs.YtpgnabmkfkcogaaGreatDoor
open Go.RowKit

/-- a sponge may be made of this -/
def GoodS (p : Int) : Prop := okPrime p ∧ 23 ≤ p

theorem sponge_yes (q : Nat) (w : World) (h23 : 23 ≤ q) (h4 : q ≤ 2147483647) (hpr : Num.Prime q) :
    Calls Tryz.prog 28 #[.int .i64 q] w fun e w' => ∃ s b n d, e = .returned (.tuple #[.pointer (some ⟨s, 0, none⟩), .bool true]) ∧ SpgOk q n d ∧ SpgAt w' s b q n d ∧ Below w.heap.size w w' := by
  have HF := hid (field_yes q w (by omega) h4 hpr)
  have HP := hid hpr
  have hge : (23 : Int) ≤ (q : Int) := by omega
  clear hpr
  go_enter Tryz.func28, Tryz.ntmps28
  go_wp2_with fail
  refine HF.out.mono ?_
  rintro e w1 ⟨rfl, hc1, hb1, hlt1⟩
  have HC1 := hid hc1
  have HB1 := hid hb1
  clear hc1 hb1
  go_wp2_with fail
  refine (snew_any q w.heap.size w1 HP.out h23 h4 HC1.out).mono ?_
  rintro e w2 ⟨s, n, d, rfl, hls, hok, hat, hb2⟩
  have HE := hid (And.intro hok (And.intro hat (HB1.out.trans (hb2.mono HB1.out.size))))
  clear hok hat hb2
  go_wp2_with fail
  refine (error_nil 0 _).mono ?_
  rintro e w3 ⟨rfl, rfl⟩
  go_wp2_with fail
  go_ret2
  exact ⟨s, _, n, d, rfl, HE.out.1, HE.out.2.1, HE.out.2.2⟩

set_option maxHeartbeats 1000000 in
theorem sponge_no (p : Int) (w : World) (hL : Laid w) (hno : ¬ GoodS p) (hp1 : -9223372036854775808 ≤ p) (hp2 : p ≤ 9223372036854775807) :
    Calls Tryz.prog 28 #[.int .i64 p] w fun e w' => e = .returned (.tuple #[.pointer none, .bool true]) ∧ Below w.heap.size w w' := by
  by_cases hok : okPrime p
  · obtain ⟨q, rfl⟩ := Int.eq_ofNat_of_zero_le (show 0 ≤ p by have := hok.1; omega)
    have hlt : q < 23 := by
      rcases Nat.lt_or_ge q 23 with g | g
      · exact g
      · exact absurd ⟨hok, by omega⟩ hno
    obtain ⟨hq3, hq4, hqp⟩ := hok
    rw [Int.toNat_natCast] at hqp
    have HF := hid (field_yes q w (by omega) (by omega) hqp)
    have hlt2 : ¬ (23 : Int) ≤ (q : Int) := by omega
    have HL := hid hL
    clear hno hqp hL hp1 hp2
    go_enter Tryz.func28, Tryz.ntmps28
    go_wp2_with fail
    refine HF.out.mono ?_
    rintro e w1 ⟨rfl, hc1, hb1, hlt1⟩
    have HC1 := hid hc1
    have HB1 := hid hb1
    have HL1 : Hid (Laid w1) := (hb1.cell (p := ⟨0, 0, none⟩) (cell_lt HL.out)).trans HL.out
    clear hc1 hb1
    go_wp2_with fail
    refine (snew_no q w.heap.size w1 (by omega) hlt HC1.out).mono ?_
    rintro e w2 ⟨rfl, rfl⟩
    go_wp2_with fail
    refine (error_hit 3 3 _ HL1.out).mono ?_
    rintro e w3 ⟨rfl, hb3⟩
    have HB3 : Hid (Below w.heap.size w w3) := HB1.out.trans (hb3.mono HB1.out.size)
    clear hb3
    go_wp2_with fail
    go_ret2
    exact ⟨rfl, HB3.out⟩
  · have HF := hid (field_no p w hL hok hp1 hp2)
    clear hno hok hL hp1 hp2
    go_enter Tryz.func28, Tryz.ntmps28
    go_wp2_with fail
    refine HF.out.mono ?_
    rintro e w1 ⟨rfl, hb1⟩
    have HB1 := hid hb1
    clear hb1
    go_wp2_with fail
    go_ret2
    exact ⟨rfl, HB1.out⟩

theorem ArrI.rowB {w : World} {b n n0 : Nat} {t : TypeId} {f : Nat → Int} (h : ArrI w b t n f) {zs : List Int} (hn : zs.length ≤ n) (hz : ∀ j, j < zs.length → zat zs j = f j) (hg : b < n0) : RowB n0 w (some ⟨b, 0, none⟩) zs :=
  fun k hk => ⟨b, 0, rfl, hg, by rw [Nat.zero_add, hz k hk]; exact h.cell (by omega)⟩
end Go.Proofs.YtpgnabmkfkcogaaGreatDoor
