/- The laws SpongeBack and SpongeSpreads answer true: stirring is undone; what is unlike at few places is unlike at many behind Mix. -/
import Derived.Test.YtfijhnojflcajaeLawSStirs
namespace Go.Proofs.Ytfijhnojflcajae
open Go.RowKit

set_option maxRecDepth 100000 in
set_option maxHeartbeats 2000000 in
theorem sback_walk (p : Int) (a1 : Option Addr) (c1 : Nat) (xs : List Int) (w : World) (hp1 : -9223372036854775808 ≤ p) (hp2 : p ≤ 9223372036854775807)
    (hf1 : Fits xs) (hl1 : Lst w.heap.size w a1 c1 xs) :
    Calls Try.prog 3 #[.int .i64 p, .slice a1 xs.length c1] w fun e w' => e = .returned (.bool true) ∧ Below w.heap.size w w' := by
  have HF1 := hid hf1
  have HL1 := hid hl1.row
  clear hf1 hl1
  by_cases hg : GoodS p
  · obtain ⟨⟨hq3, hq4, hqp⟩, h23⟩ := hg
    obtain ⟨q, rfl⟩ := Int.eq_ofNat_of_zero_le (show 0 ≤ p by omega)
    rw [Int.toNat_natCast] at hqp
    have h4 : q ≤ 2147483647 := by omega
    have h23n : 23 ≤ q := by omega
    have h3 : 3 ≤ q := by omega
    have HP := hid hqp
    by_cases h8 : xs.length = 8
    · have H8 := hid h8
      rw [h8]
      clear hqp hq3 hq4 hp1 hp2 h23 h8
      go_enter Try.func3, Try.ntmps3
      go_wp2_with fail
      refine (lives3_any w).mono ?_
      rintro e w0 ⟨rfl, hb0⟩
      have HB0 := hid hb0
      have HL0 := hid ((HL1.out.below hb0).mono hb0.size)
      clear hb0 HL1
      go_wp2_with fail
      refine (plain3_yes q w0 h23n h4 HP.out).mono ?_
      rintro e w1 ⟨s, b, n, d, rfl, hok, hat, hb1⟩
      have HOK := hid hok
      have HAT := hid hat
      have HB1 : Hid (Below w.heap.size w w1) := HB0.out.trans (hb1.mono HB0.out.size)
      have HL2 := hid ((HL0.out.below hb1).mono hb1.size)
      clear hok hat hb1 HL0 HB0
      go_wp2_with fail
      refine (Permute_any q n d b s c1 a1 (zat xs) w1 HOK.out HAT.out (HF1.out.f8 H8.out) (HL2.out.f8 H8.out)).mono ?_
      rintro e w2 ⟨rfl, hA2, hb2⟩
      have HA2 := hid hA2
      have hlt2 := hA2.lt
      have HL3 := hid ((HL2.out.below hb2).mono hb2.size)
      have HAT2 := hid (HAT.out.keep hb2)
      have HB2 : Hid (Below w.heap.size w w2) := HB1.out.trans (hb2.mono HB1.out.size)
      clear hA2 hb2 HB1 HL2 HAT
      go_wp2_with fail
      refine (Unpermute_any q n d b s 8 (some ⟨w1.heap.size, 0, none⟩) (stir q n (fun j => zat xs j % (q : Int)) 8) w2 HOK.out HAT2.out (fun j _ => by have := stir_bounds q n (fun j => zat xs j % (q : Int)) 8 j h3; omega) (HA2.out.rowF (Nat.le_refl _) hlt2)).mono ?_
      rintro e w3 ⟨rfl, hA3, hb3⟩
      have HA3 : Hid (ArrI w3 w2.heap.size 44 8 (fun j => zat xs j % (q : Int))) := hA3.congr (fun j hj => by
        rw [show (fun j => stir q n (fun j => zat xs j % (q : Int)) 8 j % (q : Int)) = stir q n (fun j => zat xs j % (q : Int)) 8 from funext fun i => by
          have := stir_bounds q n (fun j => zat xs j % (q : Int)) 8 i h3; exact Int.emod_eq_of_lt this.1 this.2]
        rw [unstir_back HOK.out.pr HOK.out.h23 HOK.out.pw HOK.out.bk _ j hj, Int.emod_emod_of_dvd _ (Int.dvd_refl _)])
      have hlt3 := hA3.lt
      have HL4 := hid ((HL3.out.below hb3).mono hb3.size)
      have HAT3 := hid (HAT2.out.keep hb3)
      have HB3 : Hid (Below w.heap.size w w3) := HB2.out.trans (hb3.mono HB2.out.size)
      clear hA3 hb3 HB2 HL3 HAT2 HA2 hlt2
      go_wp2_with fail
      refine (Unpermute_any q n d b s c1 a1 (zat xs) w3 HOK.out HAT3.out (HF1.out.f8 H8.out) (HL4.out.f8 H8.out)).mono ?_
      rintro e w4 ⟨rfl, hA4, hb4⟩
      have HA4 := hid hA4
      have hlt4 := hA4.lt
      have HA34 := hid (HA3.out.below hb4 hlt3)
      have hlt34 : w2.heap.size < w4.heap.size := Nat.lt_of_lt_of_le hlt3 hb4.size
      have HL5 := hid ((HL4.out.below hb4).mono hb4.size)
      have HAT4 := hid (HAT3.out.keep hb4)
      have HB4 : Hid (Below w.heap.size w w4) := HB3.out.trans (hb4.mono HB3.out.size)
      clear hA4 hb4 HB3 HL4 HAT3 HA3 hlt3
      go_wp2_with fail
      refine (Permute_any q n d b s 8 (some ⟨w3.heap.size, 0, none⟩) (ust q d (fun j => zat xs j % (q : Int)) 8) w4 HOK.out HAT4.out (fun j _ => by have := ust_bounds q d (fun j => zat xs j % (q : Int)) 8 j h3; omega) (HA4.out.rowF (Nat.le_refl _) hlt4)).mono ?_
      rintro e w5 ⟨rfl, hA5, hb5⟩
      have HA5 : Hid (ArrI w5 w4.heap.size 44 8 (fun j => zat xs j % (q : Int))) := hA5.congr (fun j hj => by
        rw [show (fun j => ust q d (fun j => zat xs j % (q : Int)) 8 j % (q : Int)) = ust q d (fun j => zat xs j % (q : Int)) 8 from funext fun i => by
          have := ust_bounds q d (fun j => zat xs j % (q : Int)) 8 i h3; exact Int.emod_eq_of_lt this.1 this.2]
        rw [stir_back HOK.out.pr HOK.out.h23 HOK.out.bk _ j hj, Int.emod_emod_of_dvd _ (Int.dvd_refl _)])
      have hlt5 := hA5.lt
      have HA35 := hid (HA34.out.below hb5 hlt34)
      have hlt35 : w2.heap.size < w5.heap.size := Nat.lt_of_lt_of_le hlt34 hb5.size
      have HL6 := hid ((HL5.out.below hb5).mono hb5.size)
      have HB5 : Hid (Below w.heap.size w w5) := HB4.out.trans (hb5.mono HB4.out.size)
      clear hA5 hb5 HB4 HL5 HAT4 HA4 HA34 hlt34 hlt4
      go_wp2_with fail
      refine (rall_any q 8 c1 a1 (zat xs) w5 h3 h4 (by omega) (HF1.out.f8 H8.out) (HL6.out.f8 H8.out)).mono ?_
      rintro e w6 ⟨a6, c6, rfl, hl6, hb6⟩
      have HR6 := hid hl6.row
      have HX6 : Hid (RowB w6.heap.size w6 (some ⟨w2.heap.size, 0, none⟩) (ls (fun j => zat xs j % (q : Int)) 8)) := (HA35.out.below hb6 hlt35).rowB (by rw [ls_len]; omega) (fun j hj => by rw [ls_len] at hj; exact ls_at _ _ _ hj) (Nat.lt_of_lt_of_le hlt35 hb6.size)
      have HY6 : Hid (RowB w6.heap.size w6 (some ⟨w4.heap.size, 0, none⟩) (ls (fun j => zat xs j % (q : Int)) 8)) := (HA5.out.below hb6 hlt5).rowB (by rw [ls_len]; omega) (fun j hj => by rw [ls_len] at hj; exact ls_at _ _ _ hj) (Nat.lt_of_lt_of_le hlt5 hb6.size)
      have HB6 : Hid (Below w.heap.size w w6) := HB5.out.trans (hb6.mono HB5.out.size)
      have HI6 := hid (ints_same _ _ (ls (fun j => zat xs j % (q : Int)) 8) _ _ 8 c6 w6 HX6.out HR6.out (by rw [ls_len]; omega))
      rw [ls_len] at HI6
      clear hl6 hb6 HA5 HA35 HL6 HB5 hlt5 hlt35 HX6
      go_wp2_with fail
      refine HI6.out.mono ?_
      rintro e w7 ⟨rfl, n7, rfl⟩
      have HI7 := hid (ints_same _ _ (ls (fun j => zat xs j % (q : Int)) 8) _ _ 8 c6 (w6.drewN n7) (show RowB w6.heap.size (w6.drewN n7) (some ⟨w4.heap.size, 0, none⟩) (ls (fun j => zat xs j % (q : Int)) 8) from HY6.out) (show RowB w6.heap.size (w6.drewN n7) a6 (ls (fun j => zat xs j % (q : Int)) 8) from HR6.out) (by rw [ls_len]; omega))
      rw [ls_len] at HI7
      clear HI6 HY6 HR6
      go_wp2_with fail
      refine HI7.out.mono ?_
      rintro e w8 ⟨rfl, n8, rfl⟩
      go_wp2_with fail
      go_ret
      exact ⟨rfl, below_drewN HB6.out _⟩
    · have hnb : ((xs.length : Int) != 8) = true := by rw [bne_iff_ne]; omega
      clear hqp hq3 hq4 hp1 hp2 h23 h8 HL1
      go_enter Try.func3, Try.ntmps3
      go_wp2_with fail
      refine (lives3_any w).mono ?_
      rintro e w0 ⟨rfl, hb0⟩
      have HB0 := hid hb0
      clear hb0
      go_wp2_with fail
      refine (plain3_yes q w0 h23n h4 HP.out).mono ?_
      rintro e w1 ⟨s, b, n, d, rfl, hok, hat, hb1⟩
      have HB1 : Hid (Below w.heap.size w w1) := HB0.out.trans (hb1.mono HB0.out.size)
      clear hok hat hb1
      go_wp2_with fail
      go_ret
      exact ⟨rfl, HB1.out⟩
  · have HN := hid (fun w0 => plain3_no p w0 hg hp1 hp2)
    clear hg HL1 HF1
    go_enter Try.func3, Try.ntmps3
    go_wp2_with fail
    refine (lives3_any w).mono ?_
    rintro e w0 ⟨rfl, hb0⟩
    have HB0 := hid hb0
    clear hb0
    go_wp2_with fail
    refine (HN.out w0).mono ?_
    rintro e w1 ⟨rfl, hb1⟩
    have HB1 : Hid (Below w.heap.size w w1) := HB0.out.trans (hb1.mono HB0.out.size)
    clear hb1
    go_wp2_with fail
    go_ret
    exact ⟨rfl, HB1.out⟩

set_option maxRecDepth 100000 in
set_option maxHeartbeats 2000000 in
theorem sspreads_walk (p : Int) (a1 a2 : Option Addr) (c1 c2 : Nat) (xs ys : List Int) (w : World) (hp1 : -9223372036854775808 ≤ p) (hp2 : p ≤ 9223372036854775807)
    (hf1 : Fits xs) (hf2 : Fits ys) (hl1 : Lst w.heap.size w a1 c1 xs) (hl2 : Lst w.heap.size w a2 c2 ys) :
    Calls Try.prog 4 #[.int .i64 p, .slice a1 xs.length c1, .slice a2 ys.length c2] w fun e w' => e = .returned (.bool true) ∧ Below w.heap.size w w' := by
  have HF1 := hid hf1
  have HF2 := hid hf2
  have HL1 := hid hl1.row
  have HM1 := hid hl2.row
  clear hf1 hl1 hf2 hl2
  by_cases hg : GoodS p
  · obtain ⟨⟨hq3, hq4, hqp⟩, h23⟩ := hg
    obtain ⟨q, rfl⟩ := Int.eq_ofNat_of_zero_le (show 0 ≤ p by omega)
    rw [Int.toNat_natCast] at hqp
    have h4 : q ≤ 2147483647 := by omega
    have h23n : 23 ≤ q := by omega
    have h3 : 3 ≤ q := by omega
    have HP := hid hqp
    by_cases h8 : xs.length = 8
    · by_cases g8 : ys.length = 8
      · have H8 := hid h8
        have G8 := hid g8
        rw [h8, g8]
        clear hqp hq3 hq4 hp1 hp2 h23 h8 g8
        go_enter Try.func4, Try.ntmps4
        go_wp2_with fail
        refine (lives3_any w).mono ?_
        rintro e w0 ⟨rfl, hb0⟩
        have HB0 := hid hb0
        have HL0 := hid ((HL1.out.below hb0).mono hb0.size)
        have HM0 := hid ((HM1.out.below hb0).mono hb0.size)
        clear hb0 HL1 HM1
        go_wp2_with fail
        refine (plain3_yes q w0 h23n h4 HP.out).mono ?_
        rintro e w1 ⟨s, b, n, d, rfl, hok, hat, hb1⟩
        have HOK := hid hok
        have HAT := hid hat
        have HB1 : Hid (Below w.heap.size w w1) := HB0.out.trans (hb1.mono HB0.out.size)
        have HL2 := hid ((HL0.out.below hb1).mono hb1.size)
        have HM2 := hid ((HM0.out.below hb1).mono hb1.size)
        clear hok hat hb1 HL0 HB0 HM0
        go_wp2_with fail
        refine (Mix_any q n d b s c1 a1 (zat xs) w1 HOK.out HAT.out (HF1.out.f8 H8.out) (HL2.out.f8 H8.out)).mono ?_
        rintro e w2 ⟨rfl, hA2, hb2⟩
        have HA2 : Hid (ArrI w2 w1.heap.size 44 8 (mx q (zat xs))) := hA2.congr (fun j _ => mx_el (by omega) _ j)
        have hlt2 := hA2.lt
        have HL3 := hid ((HL2.out.below hb2).mono hb2.size)
        have HM3 := hid ((HM2.out.below hb2).mono hb2.size)
        have HAT2 := hid (HAT.out.keep hb2)
        have HB2 : Hid (Below w.heap.size w w2) := HB1.out.trans (hb2.mono HB1.out.size)
        clear hA2 hb2 HB1 HL2 HAT HM2
        go_wp2_with fail
        refine (Mix_any q n d b s c2 a2 (zat ys) w2 HOK.out HAT2.out (HF2.out.f8 G8.out) (HM3.out.f8 G8.out)).mono ?_
        rintro e w3 ⟨rfl, hA3, hb3⟩
        have HA3 : Hid (ArrI w3 w2.heap.size 44 8 (mx q (zat ys))) := hA3.congr (fun j _ => mx_el (by omega) _ j)
        have hlt3 := hA3.lt
        have HA23 := hid (HA2.out.below hb3 hlt2)
        have hlt23 : w1.heap.size < w3.heap.size := Nat.lt_of_lt_of_le hlt2 hb3.size
        have HL4 := hid ((HL3.out.below hb3).mono hb3.size)
        have HM4 := hid ((HM3.out.below hb3).mono hb3.size)
        have HB3 : Hid (Below w.heap.size w w3) := HB2.out.trans (hb3.mono HB2.out.size)
        clear hA3 hb3 HB2 HL3 HAT2 HA2 hlt2 HM3
        go_wp2_with fail
        refine (rdiffer_any q c1 c2 a1 a2 (zat xs) (zat ys) w3 h3 h4 (HF1.out.f8 H8.out) (HF2.out.f8 G8.out) (HL4.out.f8 H8.out) (HM4.out.f8 G8.out)).mono ?_
        rintro e w4 ⟨rfl, rfl⟩
        go_wp2_with fail
        refine (rdiffer_any q 8 8 (some ⟨w1.heap.size, 0, none⟩) (some ⟨w2.heap.size, 0, none⟩) (mx q (zat xs)) (mx q (zat ys)) w4 h3 h4 (fun j _ => by have := mx_bounds q (zat xs) j h3; omega) (fun j _ => by have := mx_bounds q (zat ys) j h3; omega) (HA23.out.rowF (Nat.le_refl _) hlt23) (HA3.out.rowF (Nat.le_refl _) hlt3)).mono ?_
        rintro e w5 ⟨rfl, rfl⟩
        have hc1 := Cod.cnt_le (dfb q (zat xs) (zat ys)) 8
        have hc2 := Cod.cnt_le (dfb q (mx q (zat xs)) (mx q (zat ys))) 8
        have hsp : 0 < Cod.cnt (dfb q (zat xs) (zat ys)) 8 → 9 ≤ Cod.cnt (dfb q (zat xs) (zat ys)) 8 + Cod.cnt (dfb q (mx q (zat xs)) (mx q (zat ys))) 8 := fun h0 => spreads HOK.out.pr HOK.out.h23 _ _ h0
        have hze : Cod.cnt (dfb q (zat xs) (zat ys)) 8 = 0 → Cod.cnt (dfb q (mx q (zat xs)) (mx q (zat ys))) 8 = 0 := fun h0 => Cod.cnt_zero.2 (fun i _ => by
          have h1 := Cod.cnt_zero.1 h0
          unfold dfb
          rw [mx_congr (g := zat ys) (by omega) (fun j hj => by have := h1 j hj; unfold dfb at this; simpa using this) i]
          simp)
        generalize Cod.cnt (dfb q (zat xs) (zat ys)) 8 = n1 at *
        generalize Cod.cnt (dfb q (mx q (zat xs)) (mx q (zat ys))) 8 = n2 at *
        clear HA23 HA3 HL4 HM4 HOK
        by_cases h0 : n1 = 0
        · obtain rfl := hze h0
          subst h0
          clear hsp hze
          go_wp2_with fail
          go_ret
          exact ⟨rfl, HB3.out⟩
        · have h1 := hsp (by omega)
          have hb0 : ((n1 : Int) == 0) = false := by rw [beq_eq_false_iff_ne]; omega
          have hw1 : IntKind.i64.wrap ((n1 : Int) + (n2 : Int)) = (n1 : Int) + (n2 : Int) := by rw [IntKind.wrap_i64]; omega
          have h2 : (9 : Int) ≤ (n1 : Int) + (n2 : Int) := by omega
          clear hsp hze h0
          go_wp2_with fail
          go_ret
          exact ⟨by first | rfl | simp | (simp; omega), HB3.out⟩
      · have hnb0 : ((xs.length : Int) != 8) = false := by rw [h8]; rfl
        have hnb : ((ys.length : Int) != 8) = true := by rw [bne_iff_ne]; omega
        clear hqp hq3 hq4 hp1 hp2 h23 h8 g8 HL1 HM1
        go_enter Try.func4, Try.ntmps4
        go_wp2_with fail
        refine (lives3_any w).mono ?_
        rintro e w0 ⟨rfl, hb0⟩
        have HB0 := hid hb0
        clear hb0
        go_wp2_with fail
        refine (plain3_yes q w0 h23n h4 HP.out).mono ?_
        rintro e w1 ⟨s, b, n, d, rfl, hok, hat, hb1⟩
        have HB1 : Hid (Below w.heap.size w w1) := HB0.out.trans (hb1.mono HB0.out.size)
        clear hok hat hb1
        go_wp2_with fail
        go_ret
        exact ⟨rfl, HB1.out⟩
    · have hnb : ((xs.length : Int) != 8) = true := by rw [bne_iff_ne]; omega
      clear hqp hq3 hq4 hp1 hp2 h23 h8 HL1 HM1
      go_enter Try.func4, Try.ntmps4
      go_wp2_with fail
      refine (lives3_any w).mono ?_
      rintro e w0 ⟨rfl, hb0⟩
      have HB0 := hid hb0
      clear hb0
      go_wp2_with fail
      refine (plain3_yes q w0 h23n h4 HP.out).mono ?_
      rintro e w1 ⟨s, b, n, d, rfl, hok, hat, hb1⟩
      have HB1 : Hid (Below w.heap.size w w1) := HB0.out.trans (hb1.mono HB0.out.size)
      clear hok hat hb1
      go_wp2_with fail
      go_ret
      exact ⟨rfl, HB1.out⟩
  · have HN := hid (fun w0 => plain3_no p w0 hg hp1 hp2)
    clear hg HL1 HF1 HM1 HF2
    go_enter Try.func4, Try.ntmps4
    go_wp2_with fail
    refine (lives3_any w).mono ?_
    rintro e w0 ⟨rfl, hb0⟩
    have HB0 := hid hb0
    clear hb0
    go_wp2_with fail
    refine (HN.out w0).mono ?_
    rintro e w1 ⟨rfl, hb1⟩
    have HB1 : Hid (Below w.heap.size w w1) := HB0.out.trans (hb1.mono HB0.out.size)
    clear hb1
    go_wp2_with fail
    go_ret
    exact ⟨rfl, HB1.out⟩

end Go.Proofs.Ytfijhnojflcajae
