/- The law SpongePads answers true: what stands behind any list; unlike lists stay unlike. -/
import Derived.Test.YtfijhnojflcajaeDoorSpgT
namespace Go.Proofs.YtfijhnojflcajaeDoor
open Go.RowKit

set_option maxRecDepth 100000 in
set_option maxHeartbeats 2000000 in
theorem spads_walk (p : Int) (a1 a2 : Option Addr) (c1 c2 : Nat) (xs ys : List Int) (w : World) (hL : Laid w) (hp1 : -9223372036854775808 ≤ p) (hp2 : p ≤ 9223372036854775807)
    (hlx : xs.length ≤ 17592186043904) (hly : ys.length ≤ 17592186043904) (hf1 : Fits xs) (hf2 : Fits ys) (hl1 : Lst w.heap.size w a1 c1 xs) (hl2 : Lst w.heap.size w a2 c2 ys) :
    Calls Tryd.prog 3 #[.int .i64 p, .slice a1 xs.length c1, .slice a2 ys.length c2] w fun e w' => e = .returned (.bool true) ∧ Below w.heap.size w w' := by
  have HF1 := hid hf1
  have HF2 := hid hf2
  have HR1 := hid hl1.row
  have HR2 := hid hl2.row
  clear hf1 hf2 hl1 hl2
  by_cases hg : GoodS p
  · obtain ⟨⟨hq3, hq4, hqp⟩, h23⟩ := hg
    obtain ⟨q, rfl⟩ := Int.eq_ofNat_of_zero_le (show 0 ≤ p by omega)
    rw [Int.toNat_natCast] at hqp
    have h4 : q ≤ 2147483647 := by omega
    have h3 : 3 ≤ q := by omega
    have HP := hid hqp
    have h23n : 23 ≤ q := by omega
    clear hqp hL hq3 hq4 hp1 hp2 h23
    have HSAME := hid (pad_same q xs ys)
    have hpl1 : pln xs.length ≤ 17592186044400 := by unfold pln; omega
    have hpl2 : pln ys.length ≤ 17592186044400 := by unfold pln; omega
    go_enter Tryd.func3, Tryd.ntmps3
    go_wp2_with fail
    refine (sponge_yes q w h23n h4 HP.out).mono ?_
    rintro e w1 ⟨s, b, n, d, rfl, hok, hat, hb1⟩
    have HAT := hid hat
    have HB1 := hid hb1
    have HX1 := hid ((HR1.out.below hb1).mono hb1.size)
    have HY1 := hid ((HR2.out.below hb1).mono hb1.size)
    clear hok hat hb1 HR1 HR2
    go_wp2_with fail
    refine (spad_any q n d b s xs.length c1 a1 (zat xs) w1 h3 h4 HAT.out (by omega) HF1.out HX1.out.f).mono ?_
    rintro e w2 ⟨rfl, hA2, hb2⟩
    have HA2 := hid hA2
    have hlt2 := hA2.lt
    have HB2 : Hid (Below w.heap.size w w2) := HB1.out.trans (hb2.mono HB1.out.size)
    have HAT2 := hid (HAT.out.keep hb2)
    have HX2 := hid ((HX1.out.below hb2).mono hb2.size)
    have HY2 := hid ((HY1.out.below hb2).mono hb2.size)
    clear hA2 hb2 HAT HB1 HX1 HY1
    go_wp2_with fail
    refine (spad_any q n d b s ys.length c2 a2 (zat ys) w2 h3 h4 HAT2.out (by omega) HF2.out HY2.out.f).mono ?_
    rintro e w3 ⟨rfl, hA3, hb3⟩
    have HA3 := hid hA3
    have hlt3 := hA3.lt
    have HA23 := hid (HA2.out.below hb3 hlt2)
    have HB3 : Hid (Below w.heap.size w w3) := HB2.out.trans (hb3.mono HB2.out.size)
    have HX3 := hid ((HX2.out.below hb3).mono hb3.size)
    have HY3 := hid ((HY2.out.below hb3).mono hb3.size)
    have hlt23 : w1.heap.size < w3.heap.size := Nat.lt_of_lt_of_le hlt2 hb3.size
    clear hA3 hb3 HAT2 HB2 HX2 HY2 HA2
    go_wp2_with fail
    refine (rpad_own q xs.length c1 a1 (zat xs) w3 h3 h4 (by omega) HF1.out HX3.out.f).mono ?_
    rintro e w4 ⟨v, rfl, hown, hb4⟩
    obtain ⟨a4, c4, rfl, hl4⟩ := lst_of_owns hown
    have HL4 := hid hl4
    clear hl4
    have HA4 := hid (HA3.out.below hb4 hlt3)
    have HA24 := hid (HA23.out.below hb4 hlt23)
    have HX4 := hid ((HX3.out.below hb4).mono hb4.size)
    have HY4 := hid ((HY3.out.below hb4).mono hb4.size)
    have HB4 : Hid (Below w.heap.size w w4) := HB3.out.trans (hb4.mono HB3.out.size)
    have hl1 : w1.heap.size < w4.heap.size := Nat.lt_of_lt_of_le hlt23 hb4.size
    have hl2 : w2.heap.size < w4.heap.size := Nat.lt_of_lt_of_le hlt3 hb4.size
    have HRX := hid (HA24.out.rowB (zs := ls (pdf q (zat xs) xs.length) (pln xs.length)) (by rw [ls_len]; omega) (fun j hj => by rw [ls_len] at hj; exact ls_at _ _ _ hj) hl1)
    have HRY := hid (HA4.out.rowB (zs := ls (pdf q (zat ys) ys.length) (pln ys.length)) (by rw [ls_len]; omega) (fun j hj => by rw [ls_len] at hj; exact ls_at _ _ _ hj) hl2)
    have HI1 := hid (ints_same _ _ (ls (pdf q (zat xs) xs.length) (pln xs.length)) _ _ (pln xs.length) c4 w4 HRX.out HL4.out.row (by rw [ls_len]; omega))
    rw [ls_len] at HI1
    rw [ls_len]
    clear hown hb4 HA23 HA3 HX3 HY3 HB3 HL4
    go_wp2_with fail
    refine HI1.out.mono ?_
    rintro e w5 ⟨rfl, n5, rfl⟩
    have HRX5 : Hid (RowB w4.heap.size (w4.drewN n5) (some ⟨w1.heap.size, 0, none⟩) (ls (pdf q (zat xs) xs.length) (pln xs.length))) := HRX.out
    have HRY5 : Hid (RowB w4.heap.size (w4.drewN n5) (some ⟨w2.heap.size, 0, none⟩) (ls (pdf q (zat ys) ys.length) (pln ys.length))) := HRY.out
    have HX5 : Hid (RowB w4.heap.size (w4.drewN n5) a1 xs) := HX4.out
    have HY5 : Hid (RowB w4.heap.size (w4.drewN n5) a2 ys) := HY4.out
    have HB5 : Hid (Below w.heap.size w (w4.drewN n5)) := below_drewN HB4.out n5
    have hs5 : w4.heap.size = (w4.drewN n5).heap.size := rfl
    have HI2 := hid (ints_any (ls (pdf q (zat xs) xs.length) (pln xs.length)) (ls (pdf q (zat ys) ys.length) (pln ys.length)) _ _ (w4.drewN n5) (rowZ_of_B (pln xs.length) HRX5.out) (rowZ_of_B (pln ys.length) HRY5.out) (by rw [ls_len]; omega) (by rw [ls_len]; omega))
    rw [ls_len, ls_len, HSAME.out] at HI2
    clear HRX HRY HI1 HX4 HY4 HB4 HA4 HA24 HRX5 HRY5
    go_wp2_with fail
    refine HI2.out.mono ?_
    rintro e w6 ⟨rfl, n6, rfl⟩
    have HX6 : Hid (RowB ((w4.drewN n5).drewN n6).heap.size ((w4.drewN n5).drewN n6) a1 xs) := HX5.out
    have HY6 : Hid (RowB ((w4.drewN n5).drewN n6).heap.size ((w4.drewN n5).drewN n6) a2 ys) := HY5.out
    have HB6 : Hid (Below w.heap.size w ((w4.drewN n5).drewN n6)) := below_drewN HB5.out n6
    clear HX5 HY5 HB5 HI2 hs5
    generalize (w4.drewN n5).drewN n6 = w6 at *
    go_wp2_with fail
    refine (rsame_any q c1 c2 a1 a2 xs ys w6 h3 h4 (by omega) (by omega) HF1.out HF2.out HX6.out HY6.out).mono ?_
    rintro e w7 ⟨rfl, rfl⟩
    generalize samb q xs ys = t at *
    go_wp2_with fail
    go_ret
    exact ⟨by first | rfl | simp, HB6.out⟩
  · have HN := hid (sponge_no p w hL hg hp1 hp2)
    clear hg hL
    go_enter Tryd.func3, Tryd.ntmps3
    go_wp2_with fail
    refine HN.out.mono ?_
    rintro e w1 ⟨rfl, hb1⟩
    have HB1 := hid hb1
    clear hb1
    go_wp2_with fail
    go_ret
    exact ⟨rfl, HB1.out⟩

end Go.Proofs.YtfijhnojflcajaeDoor
