/- The law SpongeStirs answers true: any state is stirred, and mixed. -/
import Derived.Test.YtfijhnojflcajadDoorSpgT
import Derived.Test.YtfijhnojflcajadDoorPls
namespace Go.Proofs.YtfijhnojflcajadDoor
open Go.RowKit

theorem rowB_of_rw {w : World} {g N n0 : Nat} {t : TypeId} {F : Nat → Value} {zs : List Int} (h : w.rowIs g t N F) (hn : zs.length ≤ N) (hz : ∀ j, j < zs.length → F j = .int .i64 (zat zs j)) (hg : g < n0) : RowB n0 w (some ⟨g, 0, none⟩) zs :=
  fun k hk => ⟨g, 0, rfl, hg, by rw [Nat.zero_add, ← hz k hk]; exact h.cell (by omega)⟩
theorem RowB.f8 {n0 : Nat} {w : World} {a : Option Addr} {zs : List Int} (h : RowB n0 w a zs) (h8 : zs.length = 8) : RowF (· < n0) w a 8 (zat zs) := by rw [← h8]; exact h.f
theorem Fits.f8 {zs : List Int} (h : Fits zs) (h8 : zs.length = 8) : FitsF 8 (zat zs) := by rw [← h8]; exact h

/-- the elements alone count -/
theorem stir_el {q n : Nat} (hq : 0 < q) (f : Nat → Int) (j : Nat) (hj : j < 8) : stir q n (fun j => f j % (q : Int)) 8 j = stir q n f 8 j :=
  stir_congr hq (fun _ _ => Int.emod_emod_of_dvd _ (Int.dvd_refl _)) 8 j hj
theorem mx_el {q : Nat} (hq : 0 < q) (f : Nat → Int) (j : Nat) : mx q (fun j => f j % (q : Int)) j = mx q f j :=
  mx_congr hq (fun _ _ => Int.emod_emod_of_dvd _ (Int.dvd_refl _)) j

set_option maxRecDepth 100000 in
set_option maxHeartbeats 2000000 in
theorem sstirs_8 (q c1 : Nat) (a1 : Option Addr) (xs : List Int) (w : World) (h23 : 23 ≤ q) (h4 : q ≤ 2147483647) (hpr : Num.Prime q) (h8 : xs.length = 8) (hf1 : Fits xs) (hl1 : Lst w.heap.size w a1 c1 xs) :
    Calls Tryd.prog 7 #[.int .i64 q, .slice a1 8 c1] w fun e w' => e = .returned (.bool true) ∧ Below w.heap.size w w' := by
  have HF1 := hid hf1
  have HL1 := hid hl1
  have H8 := hid h8
  have HP := hid hpr
  have h3 : 3 ≤ q := by omega
  have h5 : 5 ≤ q := by omega
  clear hf1 hl1 h8 hpr
  go_enter Tryd.func7, Tryd.ntmps7
  go_wp2_with fail
  refine (sponge_yes q w h23 h4 HP.out).mono ?_
  rintro e w1 ⟨s, b, n, d, rfl, hok, hat, hb1⟩
  have HOK := hid hok
  have HAT := hid hat
  have HB1 := hid hb1
  have HL2 := hid ((HL1.out.below hb1).mono hb1.size)
  clear hok hat hb1 HL1
  go_wp2_with (at_builtin; refine wpList_copy w1 rfl _ _ rfl rfl a1 c1 xs (by rw [H8.out]; rfl) (by rw [H8.out]; omega) HL2.out ?_)
  intro a2 c2 w2 hl2 hb2 hlt2
  rw [H8.out]
  have HO2 := hid hl2.row
  have HL3 := hid ((HL2.out.row.below hb2).mono hb2.size)
  have HAT2 := hid (HAT.out.keep hb2)
  have HB2 : Hid (Below w.heap.size w w2) := HB1.out.trans (hb2.mono HB1.out.size)
  clear hl2 hb2 HB1 HL2 HAT
  go_wp2_with fail
  refine (Permute_any q n d b s c2 a2 (zat xs) w2 HOK.out HAT2.out (HF1.out.f8 H8.out) (HO2.out.f8 H8.out)).mono ?_
  rintro e w3 ⟨rfl, hA3, hb3⟩
  have HA3 := hid hA3
  have hlt3 := hA3.lt
  have HO3 := hid ((HO2.out.below hb3).mono hb3.size)
  have HL4 := hid ((HL3.out.below hb3).mono hb3.size)
  have HAT3 := hid (HAT2.out.keep hb3)
  have HB3 : Hid (Below w.heap.size w w3) := HB2.out.trans (hb3.mono HB2.out.size)
  clear hA3 hb3 HB2 HO2 HL3 HAT2
  go_wp2_with fail
  refine (Mix_any q n d b s c2 a2 (zat xs) w3 HOK.out HAT3.out (HF1.out.f8 H8.out) (HO3.out.f8 H8.out)).mono ?_
  rintro e w4 ⟨rfl, hA4, hb4⟩
  have HA4 := hid hA4
  have hlt4 := hA4.lt
  have HA34 := hid (HA3.out.below hb4 hlt3)
  have hlt34 : w2.heap.size < w4.heap.size := Nat.lt_of_lt_of_le hlt3 hb4.size
  have HO4 := hid ((HO3.out.below hb4).mono hb4.size)
  have HL5 := hid ((HL4.out.below hb4).mono hb4.size)
  have HB4 : Hid (Below w.heap.size w w4) := HB3.out.trans (hb4.mono HB3.out.size)
  have HI4 := hid (ints_same _ _ xs a2 a1 c2 c1 w4 HO4.out HL5.out (by rw [H8.out]; omega))
  rw [H8.out] at HI4
  clear hA4 hb4 HB3 HO3 HL4 HAT3 HA3 HO4
  go_wp2_with fail
  refine HI4.out.mono ?_
  rintro e w5 ⟨rfl, n5, rfl⟩
  have HA5 : Hid (ArrI (w4.drewN n5) w2.heap.size 80 8 (stir q n (fun j => zat xs j % (q : Int)) 8)) := HA34.out
  have HM5 : Hid (ArrI (w4.drewN n5) w3.heap.size 80 8 (mx q (fun j => zat xs j % (q : Int)))) := HA4.out
  have HL6 : Hid (RowB (w4.drewN n5).heap.size (w4.drewN n5) a1 xs) := HL5.out
  have HB5 : Hid (Below w.heap.size w (w4.drewN n5)) := below_drewN HB4.out n5
  have hl5 : w2.heap.size < (w4.drewN n5).heap.size := hlt34
  have hm5 : w3.heap.size < (w4.drewN n5).heap.size := hlt4
  clear HA34 HA4 HL5 HB4 HI4 hlt34 hlt4
  generalize w4.drewN n5 = w5 at *
  go_wp2_with fail
  refine (rperm_any q n c1 a1 (zat xs) w5 h5 h4 HOK.out.pw (HF1.out.f8 H8.out) (HL6.out.f8 H8.out)).mono ?_
  rintro e w6 ⟨g6, N6, F6, rfl, hg6, hF6, hN6, hj6, hb6⟩
  have HR6 : Hid (RowB w6.heap.size w6 (some ⟨g6, 0, none⟩) (ls (stir q n (zat xs) 8) 8)) := rowB_of_rw hF6 (by rw [ls_len]; exact hN6) (fun j hj => by rw [ls_len] at hj; rw [ls_at _ _ _ hj]; exact hj6 j hj) hF6.lt
  have HA6 := hid (HA5.out.below hb6 hl5)
  have HM6 := hid (HM5.out.below hb6 hm5)
  have HL7 := hid ((HL6.out.below hb6).mono hb6.size)
  have HB6 : Hid (Below w.heap.size w w6) := HB5.out.trans (hb6.mono HB5.out.size)
  have hl6 : w2.heap.size < w6.heap.size := Nat.lt_of_lt_of_le hl5 hb6.size
  have hm6 : w3.heap.size < w6.heap.size := Nat.lt_of_lt_of_le hm5 hb6.size
  clear hF6 hj6 hb6 HA5 HM5 HL6 HB5 hl5 hm5
  go_wp2_with fail
  refine (rmix_own q c1 a1 (zat xs) w6 h3 h4 (HF1.out.f8 H8.out) (HL7.out.f8 H8.out)).mono ?_
  rintro e w7 ⟨g7, N7, F7, rfl, hg7, hF7, hN7, hj7, hb7⟩
  have HR7 : Hid (RowB w7.heap.size w7 (some ⟨g7, 0, none⟩) (ls (mx q (zat xs)) 8)) := rowB_of_rw hF7 (by rw [ls_len]; exact hN7) (fun j hj => by rw [ls_len] at hj; rw [ls_at _ _ _ hj]; exact hj7 j hj) hF7.lt
  have HR67 := hid ((HR6.out.below hb7).mono hb7.size)
  have HA7 : Hid (RowB w7.heap.size w7 (some ⟨w2.heap.size, 0, none⟩) (ls (stir q n (zat xs) 8) 8)) :=
    (HA6.out.below hb7 hl6).rowB (by rw [ls_len]; omega) (fun j hj => by rw [ls_len] at hj; rw [ls_at _ _ _ hj, stir_el (by omega) _ j hj]) (Nat.lt_of_lt_of_le hl6 hb7.size)
  have HM7 : Hid (RowB w7.heap.size w7 (some ⟨w3.heap.size, 0, none⟩) (ls (mx q (zat xs)) 8)) :=
    (HM6.out.below hb7 hm6).rowB (by rw [ls_len]; omega) (fun j hj => by rw [ls_len] at hj; rw [ls_at _ _ _ hj, mx_el (by omega)]) (Nat.lt_of_lt_of_le hm6 hb7.size)
  have HB7 : Hid (Below w.heap.size w w7) := HB6.out.trans (hb7.mono HB6.out.size)
  have HI7 := hid (ints_same _ _ (ls (stir q n (zat xs) 8) 8) _ _ 8 N6 w7 HA7.out HR67.out (by rw [ls_len]; omega))
  rw [ls_len] at HI7
  clear hF7 hj7 hb7 HR6 HA6 HM6 HL7 HB6 HA7 HR67
  go_wp2_with fail
  refine HI7.out.mono ?_
  rintro e w8 ⟨rfl, n8, rfl⟩
  have HI8 := hid (ints_same _ _ (ls (mx q (zat xs)) 8) _ _ 8 N7 (w7.drewN n8) (show RowB w7.heap.size (w7.drewN n8) (some ⟨w3.heap.size, 0, none⟩) (ls (mx q (zat xs)) 8) from HM7.out) (show RowB w7.heap.size (w7.drewN n8) (some ⟨g7, 0, none⟩) (ls (mx q (zat xs)) 8) from HR7.out) (by rw [ls_len]; omega))
  rw [ls_len] at HI8
  clear HI7 HM7 HR7
  go_wp2_with fail
  refine HI8.out.mono ?_
  rintro e w9 ⟨rfl, n9, rfl⟩
  go_wp2_with fail
  go_ret
  exact ⟨rfl, below_drewN HB7.out _⟩

set_option maxRecDepth 100000 in
set_option maxHeartbeats 2000000 in
theorem sstirs_walk (p : Int) (a1 : Option Addr) (c1 : Nat) (xs : List Int) (w : World) (hL : Laid w) (hp1 : -9223372036854775808 ≤ p) (hp2 : p ≤ 9223372036854775807)
    (hlx : xs.length ≤ 17592186043904) (hf1 : Fits xs) (hl1 : Lst w.heap.size w a1 c1 xs) :
    Calls Tryd.prog 7 #[.int .i64 p, .slice a1 xs.length c1] w fun e w' => e = .returned (.bool true) ∧ Below w.heap.size w w' := by
  by_cases hg : GoodS p
  · obtain ⟨⟨hq3, hq4, hqp⟩, h23⟩ := hg
    obtain ⟨q, rfl⟩ := Int.eq_ofNat_of_zero_le (show 0 ≤ p by omega)
    rw [Int.toNat_natCast] at hqp
    have h4 : q ≤ 2147483647 := by omega
    have h23n : 23 ≤ q := by omega
    by_cases h8 : xs.length = 8
    · have h := sstirs_8 q c1 a1 xs w h23n h4 hqp h8 hf1 hl1
      rw [h8]
      exact h
    · have HL1 := hid hl1
      have HP := hid hqp
      have hnb : ((xs.length : Int) != 8) = true := by rw [bne_iff_ne]; omega
      have HN8 := hid h8
      clear hqp hL hq3 hq4 hp1 hp2 h23 hl1 hf1 h8
      go_enter Tryd.func7, Tryd.ntmps7
      go_wp2_with fail
      refine (sponge_yes q w h23n h4 HP.out).mono ?_
      rintro e w1 ⟨s, b, n, d, rfl, hok, hat, hb1⟩
      have HB1 := hid hb1
      have HL2 := hid ((HL1.out.below hb1).mono hb1.size)
      clear hok hat hb1 HL1
      go_wp2_with (at_builtin; refine wpList_copy w1 rfl _ _ rfl rfl a1 c1 xs rfl (by omega) HL2.out ?_)
      intro a2 c2 w2 hl2 hb2 hlt2
      have HO2 := hid hl2.row
      have HL3 := hid ((HL2.out.row.below hb2).mono hb2.size)
      have HB2 : Hid (Below w.heap.size w w2) := HB1.out.trans (hb2.mono HB1.out.size)
      clear hl2 hb2 HB1 HL2
      go_wp2_with fail
      refine (Permute_no xs.length c2 s a2 w2 HN8.out).mono ?_
      rintro e w3 ⟨rfl, rfl⟩
      go_wp2_with fail
      refine (Mix_no xs.length c2 s a2 _ HN8.out).mono ?_
      rintro e w4 ⟨rfl, rfl⟩
      go_wp2_with fail
      refine (ints_same _ _ xs a2 a1 c2 c1 _ HO2.out HL3.out (by omega)).mono ?_
      rintro e w5 ⟨rfl, n5, rfl⟩
      go_wp2_with fail
      refine (Unpermute_no xs.length c2 s a2 _ HN8.out).mono ?_
      rintro e w6 ⟨rfl, rfl⟩
      go_wp2_with fail
      go_ret
      exact ⟨rfl, below_drewN HB2.out n5⟩
  · have HN := hid (sponge_no p w hL hg hp1 hp2)
    clear hg hL hf1 hl1
    go_enter Tryd.func7, Tryd.ntmps7
    go_wp2_with fail
    refine HN.out.mono ?_
    rintro e w1 ⟨rfl, hb1⟩
    have HB1 := hid hb1
    clear hb1
    go_wp2_with fail
    go_ret
    exact ⟨rfl, HB1.out⟩

end Go.Proofs.YtfijhnojflcajadDoor
