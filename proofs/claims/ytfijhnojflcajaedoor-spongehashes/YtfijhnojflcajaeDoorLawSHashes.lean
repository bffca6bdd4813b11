/- attestsame.Spoil on a digest; the law SpongeHashes answers true: the digest of any list. -/
import Derived.Test.YtfijhnojflcajaeDoorSpgH
import Derived.Test.YtfijhnojflcajaeDoorLawSStirs
import Derived.ArgAppend
namespace Go.Proofs.YtfijhnojflcajaeDoor
open Go.RowKit

theorem gb_alloc {g : Nat} {A B : World} (h : A.grownBy B (some g)) (o : Obj) : A.grownBy (B.alloc o) (some g) := gb_trans h (gb_below ((Below.refl _ _).alloc (Nat.le_refl _) _))
theorem gb_none {g : Nat} {A B C : World} (h : A.grownBy B (some g)) (k : B.grownBy C none) : A.grownBy C (some g) := gb_trans h ⟨k.os, k.tape, k.output, k.size, fun i hi _ => k.block i hi (by simp)⟩

set_option maxRecDepth 100000 in
set_option maxHeartbeats 1000000 in
theorem spoil_dig (g : Nat) (t : TypeId) (f : Nat → Int) (w : World) (hA : ArrI w g t 8 f) :
    Calls Tryd.prog 13 #[.slice (some ⟨g, 0, none⟩) 4 4] w fun e w' => e = .returned (.tuple #[]) ∧ w.grownBy w' (some g) := by
  obtain ⟨i0, hi, hz0, hz1, hz2⟩ := info_parts Tryd.infoInt
  have HI := hid hA
  clear hA
  go_enter Tryd.func13, Tryd.ntmps13
  go_wp2_with fail
  go_loopw [2] (fun iv wr => ∃ (k : Nat) (o : Nat → Int), k ≤ 4 ∧ iv = .int .i64 k ∧ Hid (ArrI wr g t 8 o) ∧ Hid (w.grownBy wr (some g))) (fun iv _ => 4 - (intOf iv).toNat)
  case atStart => exact ⟨0, f, by omega, rfl, HI, gb_refl _ _⟩
  case round =>
    obtain ⟨k, o, hk, rfl, hro, hgb⟩ := hrel
    by_cases hlt : k < 4
    · have hlt2 : (k : Int) < 4 := by omega
      have hc := hro.out.cell (i := k) (by omega)
      have hf := hro.out.frozen k
      have HR := hid (hro.out.set k (-77))
      have HB := hid (gb_setCell hgb.out k (.int .i64 (-77)))
      generalize o k = ok at hc
      go_wp2_with fail
      go_roundw
      case rel => exact ⟨k + 1, _, by omega, by go_num, HR, HB⟩
      case measure => simp [intOf]; omega
    · obtain rfl : k = 4 := by omega
      have HG := hid (gb_alloc hgb.out (.cells #[.int .i64 (-78), .int .i64 (-79)] 3))
      have HO : Hid (∀ (j : Nat) u, ((List.range 4).map (fun j => Value.int .i64 (o j)))[j]? = some u → (wr.alloc (.cells #[.int .i64 (-78), .int .i64 (-79)] 3)).cell? ⟨g, 0 + j, none⟩ = some u) := fun j u hu => by
        have hj : j < 4 := by
          rcases Nat.lt_or_ge j 4 with h | h
          · exact h
          · simp [h] at hu
        rw [Nat.zero_add, (hro.out.alloc _).cell (by omega)]
        simp [hj] at hu
        rw [hu]
      clear hro hgb
      go_wp2_with (at_builtin; refine wpList_append_arg _ rfl _ _ 22 rfl 3 i0 (.int .i64 0) 1 8 Tryd.underlying22 hi hz0 hz1 hz2 rfl (by decide) g 0 4 4 ((List.range 4).map (fun j => Value.int .i64 (o j))) rfl (by simp) HO.out ⟨wr.heap.size, 0, none⟩ 2 2 [.int .i64 (-78), .int .i64 (-79)] rfl rfl ?c1 ?c2 (fun h => by omega) (by unfold maxLen; omega) (by omega) (fun h => by omega) ?c5)
      case c1 =>
        intro j u hj
        match j, hj with
        | 0, hj => simp at hj; subst hj; simp [Addr.add]
        | 1, hj => simp at hj; subst hj; simp [Addr.add]
      case c2 => intro u hu; simp at hu; rcases hu with rfl | rfl <;> rfl
      intro v' w2 hown2 hgrow
      have HB : Hid (w.grownBy w2 (some g)) := gb_none HG.out hgrow
      clear hown2 hgrow HG HO
      go_wp2_with fail
      go_end0
      exact ⟨rfl, HB.out⟩

theorem RowB.gb {n0 g : Nat} {A B : World} {a : Option Addr} {zs : List Int} (r : RowB n0 A a zs) (h : A.grownBy B (some g)) (hn : n0 ≤ A.heap.size) (hg : n0 ≤ g) : RowB n0 B a zs := fun k hk => by
  obtain ⟨b, o, h1, h2, h3⟩ := r k hk
  exact ⟨b, o, h1, h2, (gb_cell h (p := ⟨b, o + k, none⟩) (by show b < _; omega) (by show b ≠ _; omega)).trans h3⟩

set_option maxRecDepth 100000 in
set_option maxHeartbeats 2000000 in
theorem shashes_walk (p : Int) (a1 : Option Addr) (c1 : Nat) (xs : List Int) (w : World) (hL : Laid w) (hp1 : -9223372036854775808 ≤ p) (hp2 : p ≤ 9223372036854775807)
    (hlx : xs.length ≤ 17592186043904) (hf1 : Fits xs) (hl1 : Lst w.heap.size w a1 c1 xs) :
    Calls Tryd.prog 4 #[.int .i64 p, .slice a1 xs.length c1] w fun e w' => e = .returned (.bool true) ∧ Below w.heap.size w w' := by
  have HF1 := hid hf1
  have HL1 := hid hl1
  clear hf1 hl1
  by_cases hg : GoodS p
  · obtain ⟨⟨hq3, hq4, hqp⟩, h23⟩ := hg
    obtain ⟨q, rfl⟩ := Int.eq_ofNat_of_zero_le (show 0 ≤ p by omega)
    rw [Int.toNat_natCast] at hqp
    have h4 : q ≤ 2147483647 := by omega
    have h5 : 5 ≤ q := by omega
    have HP := hid hqp
    have h23n : 23 ≤ q := by omega
    clear hqp hL hq3 hq4 hp1 hp2 h23
    go_enter Tryd.func4, Tryd.ntmps4
    go_wp2_with fail
    refine (sponge_yes q w h23n h4 HP.out).mono ?_
    rintro e w1 ⟨s, b, n, d, rfl, hok, hat, hb1⟩
    have HOK := hid hok
    have HAT := hid hat
    have HB1 := hid hb1
    have HL2 := hid ((HL1.out.below hb1).mono hb1.size)
    clear hok hat hb1 HL1
    go_wp2_with (at_builtin; refine wpList_copy w1 rfl _ _ rfl rfl a1 c1 xs rfl (by omega) HL2.out ?_)
    intro a2 c2 w2 hl2 hb2 hlt2
    have HO2 := hid hl2.row
    have HL3 := hid ((HL2.out.row.below hb2).mono hb2.size)
    have HAT2 := hid (HAT.out.keep hb2)
    have HB2 : Hid (Below w.heap.size w w2) := HB1.out.trans (hb2.mono HB1.out.size)
    have hw2 : w.heap.size ≤ w2.heap.size := HB2.out.size
    clear hl2 hb2 HB1 HL2 HAT
    obtain ⟨D, hD⟩ : ∃ D : Nat → Int, hst q n (pdf q (zat xs) xs.length) (xs.length / 4 + 1) = D := ⟨_, rfl⟩
    have HDD := hid hD
    go_wp2_with fail
    refine (shash_any q n d b s xs.length c2 a2 (zat xs) w2 HOK.out HAT2.out (by omega) HF1.out HO2.out.f).mono ?_
    rintro e w3 ⟨rfl, hA3, hb3⟩
    rw [hD] at hA3
    clear hD
    have HA3 := hid hA3
    have hlt3 := hA3.lt
    have HO3 := hid (HO2.out.below hb3)
    have HL4 := hid (HL3.out.below hb3)
    have HAT3 := hid (HAT2.out.keep hb3)
    have hs3 := hb3.size
    have hsl3 := HAT2.out.lt
    have hbl3 := HAT2.out.ltb
    have HB3 : Hid (Below w.heap.size w w3) := HB2.out.trans (hb3.mono HB2.out.size)
    clear hA3 hb3 HB2 HO2 HL3 HAT2
    go_wp2_with fail
    refine (rhash_any q n xs.length c1 a1 (zat xs) w3 h5 h4 HOK.out.pw (by omega) HF1.out (HL4.out.mono hs3).f).mono ?_
    rintro e w4 ⟨g4, N4, F4, rfl, hg4, hF4, hN4, hj4, hb4⟩
    rw [HDD.out] at hj4
    have hlt4 := hF4.lt
    have HA4 := hid (HA3.out.below hb4 hlt3)
    have HR4 : Hid (RowB w4.heap.size w4 (some ⟨g4, 0, none⟩) (ls D 4)) := rowB_of_rw hF4 (by rw [ls_len]; omega) (fun j hj => by rw [ls_len] at hj; rw [ls_at _ _ _ hj]; exact hj4 j hj) hlt4
    have HO4 := hid (HO3.out.below (hb4.mono hs3))
    have HL5 := hid (HL4.out.below (hb4.mono hs3))
    have HAT4 := hid (HAT3.out.keep hb4)
    have hs4 : w3.heap.size ≤ w4.heap.size := hb4.size
    have HB4 : Hid (Below w.heap.size w w4) := HB3.out.trans (hb4.mono HB3.out.size)
    have HX4 : Hid (RowB w4.heap.size w4 (some ⟨w2.heap.size + 1, 0, none⟩) (ls D 4)) := HA4.out.rowB (by rw [ls_len]; omega) (fun j hj => by rw [ls_len] at hj; exact ls_at _ _ _ hj) (by omega)
    have HI4 := hid (ints_same _ _ (ls D 4) _ _ 4 N4 w4 HX4.out HR4.out (by rw [ls_len]; omega))
    rw [ls_len] at HI4
    clear hF4 hj4 hb4 HA3 HO3 HL4 HAT3 HB3 HX4
    go_wp2_with fail
    refine HI4.out.mono ?_
    rintro e w5 ⟨rfl, n5, rfl⟩
    have HA5 : Hid (ArrI (w4.drewN n5) (w2.heap.size + 1) 49 8 D) := HA4.out
    have HR5 : Hid (RowB w4.heap.size (w4.drewN n5) (some ⟨g4, 0, none⟩) (ls D 4)) := HR4.out
    have HO5 : Hid (RowB w2.heap.size (w4.drewN n5) a2 xs) := HO4.out
    have HL6 : Hid (RowB w2.heap.size (w4.drewN n5) a1 xs) := HL5.out
    have HAT5 : Hid (SpgAt (w4.drewN n5) s b q n d) := HAT4.out.blocks rfl rfl
    have HB5 : Hid (Below w.heap.size w (w4.drewN n5)) := below_drewN HB4.out n5
    have hz5 : Hid ((w4.drewN n5).heap.size = w4.heap.size) := rfl
    clear HI4 HA4 HR4 HO4 HL5 HAT4 HB4
    generalize w4.drewN n5 = w5 at *
    go_wp2_with fail
    refine (spoil_dig (w2.heap.size + 1) 49 D w5 HA5.out).mono ?_
    rintro e w6 ⟨rfl, hgb6⟩
    have hz5' := hz5.out
    have hs6 := hgb6.size
    have HO6 := hid (HO5.out.gb hgb6 (by omega) (by omega))
    have HL7 := hid (HL6.out.gb hgb6 (by omega) (by omega))
    have HAT6 : Hid (SpgAt w6 s b q n d) := HAT5.out.blocks (gb_blk hgb6 (by omega) (by omega)) (gb_blk hgb6 (by omega) (by omega))
    have HR6 : Hid (RowB w4.heap.size w6 (some ⟨g4, 0, none⟩) (ls D 4)) := fun k hk => by
      obtain ⟨b', o', e1, e2, e3⟩ := HR5.out k hk
      cases e1
      exact ⟨g4, 0, rfl, e2, (gb_cell hgb6 (p := ⟨g4, 0 + k, none⟩) (by show g4 < _; omega) (by show g4 ≠ _; omega)).trans e3⟩
    have HB6 : Hid (Below w.heap.size w w6) := HB5.out.trans ⟨hgb6.os, hgb6.tape, hgb6.output, hgb6.size, fun k hk => gb_blk hgb6 (Nat.lt_of_lt_of_le hk HB5.out.size) (by omega)⟩
    have hs46 : w4.heap.size ≤ w6.heap.size := by omega
    have hs26 : w2.heap.size ≤ w6.heap.size := by omega
    clear hgb6 HA5 HR5 HO5 HL6 HAT5 HB5 hz5 hz5' hs6
    go_wp2_with fail
    refine (shash_any q n d b s xs.length c2 a2 (zat xs) w6 HOK.out HAT6.out (by omega) HF1.out (HO6.out.mono hs26).f).mono ?_
    rintro e w7 ⟨rfl, hA7, hb7⟩
    rw [HDD.out] at hA7
    have hlt7 := hA7.lt
    have HX7 : Hid (RowB w7.heap.size w7 (some ⟨w6.heap.size + 1, 0, none⟩) (ls D 4)) := hA7.rowB (by rw [ls_len]; omega) (fun j hj => by rw [ls_len] at hj; exact ls_at _ _ _ hj) hlt7
    have HR7 := hid (HR6.out.below (hb7.mono hs46))
    have HO7 := hid (HO6.out.below (hb7.mono hs26))
    have HL8 := hid (HL7.out.below (hb7.mono hs26))
    have HB7 : Hid (Below w.heap.size w w7) := HB6.out.trans (hb7.mono HB6.out.size)
    have HI7 := hid (ints_same _ _ (ls D 4) _ _ 4 N4 w7 HX7.out HR7.out (by rw [ls_len]; omega))
    rw [ls_len] at HI7
    clear hA7 hb7 HR6 HO6 HL7 HAT6 HB6 HX7 HR7
    go_wp2_with fail
    refine HI7.out.mono ?_
    rintro e w8 ⟨rfl, n8, rfl⟩
    have HI8 := hid (ints_same _ _ xs a2 a1 c2 c1 (w7.drewN n8) (show RowB w2.heap.size (w7.drewN n8) a2 xs from HO7.out) (show RowB w2.heap.size (w7.drewN n8) a1 xs from HL8.out) (by omega))
    clear HI7 HO7 HL8
    go_wp2_with fail
    refine HI8.out.mono ?_
    rintro e w9 ⟨rfl, n9, rfl⟩
    go_wp2_with fail
    go_ret
    exact ⟨rfl, below_drewN HB7.out _⟩
  · have HN := hid (sponge_no p w hL hg hp1 hp2)
    clear hg hL HF1 HL1
    go_enter Tryd.func4, Tryd.ntmps4
    go_wp2_with fail
    refine HN.out.mono ?_
    rintro e w1 ⟨rfl, hb1⟩
    have HB1 := hid hb1
    clear hb1
    go_wp2_with fail
    go_ret
    exact ⟨rfl, HB1.out⟩

end Go.Proofs.YtfijhnojflcajaeDoor
