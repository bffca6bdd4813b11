/- ChainForks: the walk. -/
import Derived.Test.YtgjkakfkefpgbafChnF
import Derived.Test.YtgjkakfkefpgbafChnD
import Derived.Test.YtgjkakfkefpgbafSpgT
namespace Go.Proofs.Ytgjkakfkefpgbaf
open Go.RowKit

theorem PCh.oth {N0 q n : Nat} {w w' : World} {c s : Nat} {D : List Int} (h : PCh N0 q n w c D) (e : w.grownBy w' (some s)) (hne : c ≠ s) (hs : N0 ≤ s) : PCh N0 q n w' c D :=
  h.blocks (gb_blk e h.lt hne) (fun _ hb => gb_blk e (by have := h.ge; have := h.lt; omega) (by omega))
theorem PCh.noInt {N0 q n : Nat} {w : World} {c : Nat} {D : List Int} (h : PCh N0 q n w c D) : ∀ (cs : Array Value) (f : Nat × Nat), w.heap[c]? ≠ some (.cells cs 3 f) := fun cs f e => by
  obtain ⟨s, b, d, _, _, _, _, _, h6⟩ := h
  rw [h6] at e
  simp at e
/-- three chains -/
structure F3 (N0 q n c d e : Nat) (D E F : List Int) (w W : World) : Prop where
  pc : PCh N0 q n W c D
  pd : PCh N0 q n W d E
  pe : PCh N0 q n W e F
  ne : c ≠ d ∧ c ≠ e ∧ d ≠ e
  bel : Below w.heap.size w W
  lo : w.heap.size ≤ N0
theorem F3.c {N0 q n c d e : Nat} {D E F D' : List Int} {w W W' : World} (h : F3 N0 q n c d e D E F w W) (hP : PCh N0 q n W' c D') (hg : W.grownBy W' (some c)) : F3 N0 q n c d e D' E F w W' :=
  ⟨hP, h.pd.oth hg (fun x => h.ne.1 x.symm) h.pc.ge, h.pe.oth hg (fun x => h.ne.2.1 x.symm) h.pc.ge, h.ne, h.bel.trans (gb_to hg (by have := h.lo; have := h.pc.ge; omega) h.bel.size), h.lo⟩
theorem F3.d {N0 q n c d e : Nat} {D E F D' : List Int} {w W W' : World} (h : F3 N0 q n c d e D E F w W) (hP : PCh N0 q n W' d D') (hg : W.grownBy W' (some d)) : F3 N0 q n c d e D D' F w W' :=
  ⟨h.pc.oth hg h.ne.1 h.pd.ge, hP, h.pe.oth hg (fun x => h.ne.2.2 x.symm) h.pd.ge, h.ne, h.bel.trans (gb_to hg (by have := h.lo; have := h.pd.ge; omega) h.bel.size), h.lo⟩
theorem F3.e {N0 q n c d e : Nat} {D E F D' : List Int} {w W W' : World} (h : F3 N0 q n c d e D E F w W) (hP : PCh N0 q n W' e D') (hg : W.grownBy W' (some e)) : F3 N0 q n c d e D E D' w W' :=
  ⟨h.pc.oth hg h.ne.2.1 h.pe.ge, h.pd.oth hg h.ne.2.2 h.pe.ge, hP, h.ne, h.bel.trans (gb_to hg (by have := h.lo; have := h.pe.ge; omega) h.bel.size), h.lo⟩

/-- Place, whatever the number -/
theorem place_both (N0 q n : Nat) (h3 : 3 ≤ q) (h4 : q ≤ 2147483647) (D : List Int) (hD : Dig D) (N : Int) : ∃ z D', Dig D' ∧ ∀ (c : Nat) (W : World), PCh N0 q n W c D →
    Calls Try.prog 20 #[.pointer (some ⟨c, 0, none⟩), .int .i64 N] W fun e w' => e = .returned (.int .i64 z) ∧ PCh N0 q n w' c D' ∧ W.grownBy w' (some c) := by
  by_cases h : 1 ≤ N ∧ N ≤ 65536
  · exact ⟨_, _, dig_digl h3 h4 n _, fun c W hP => cplace_any N0 q n c N D W hP hD h.1 h.2⟩
  · refine ⟨0, D, hD, fun c W hP => (cplace_no c N W (by omega)).mono ?_⟩
    rintro e w' ⟨rfl, hb⟩
    exact ⟨rfl, hP.below hb, gb_below hb⟩

set_option maxRecDepth 100000 in
set_option maxHeartbeats 2000000 in
theorem hforks_good (q : Nat) (a1 a2 a3 : Option Addr) (c1 c2 c3 : Nat) (zl za zb : List Int) (N : Int) (w : World) (h23 : 23 ≤ q) (h4 : q ≤ 2147483647) (hpr : Num.Prime q)
    (hr1 : zl.length ≤ 17592186043904) (hf1 : Fits zl) (hl1 : Lst w.heap.size w a1 c1 zl) (hr2 : za.length ≤ 17592186043904) (hf2 : Fits za) (hl2 : Lst w.heap.size w a2 c2 za) (hr3 : zb.length ≤ 17592186043904) (hf3 : Fits zb) (hl3 : Lst w.heap.size w a3 c3 zb) :
    Calls Try.prog 5 #[.int .i64 q, .slice a1 zl.length c1, .slice a2 za.length c2, .slice a3 zb.length c3, .int .i64 N] w fun e w' => e = .returned (.bool true) ∧ Below w.heap.size w w' := by
  have HP := hid hpr
  have HF : Hid (Fits zl ∧ Fits za ∧ Fits zb) := ⟨hf1, hf2, hf3⟩
  have HL : Hid (∀ W, Below w.heap.size w W → Lst W.heap.size W a1 c1 zl ∧ Lst W.heap.size W a2 c2 za ∧ Lst W.heap.size W a3 c3 zb) := fun W h => ⟨(hl1.below h).mono h.size, (hl2.below h).mono h.size, (hl3.below h).mono h.size⟩
  clear hpr hf1 hf2 hf3 hl1 hl2 hl3
  go_enter Try.func5, Try.ntmps5
  go_wp2_with fail
  refine (lives3_any w).mono ?_
  rintro e w0 ⟨rfl, hb0⟩
  have HB0 := hid hb0
  clear hb0
  go_wp2_with fail
  refine (plain3_yes q w0 h23 h4 HP.out).mono ?_
  rintro e w1 ⟨s, b, n, d, rfl, hok, hat, hb1⟩
  have HB1 : Hid (Below w.heap.size w w1) := HB0.out.trans (hb1.mono HB0.out.size)
  have HNW := hid (cnew_any w1.heap.size q n d s b c1 a1 zl w1 hok hat (Nat.le_refl _) hat.lt hat.ltb hr1 HF.out.1 (HL.out w1 HB1.out).1)
  clear hok hat hb1 HB0
  go_wp2_with fail
  refine HNW.out.mono ?_
  rintro e w2 ⟨c, rfl, hc, hPc, hb2⟩
  have HB2 : Hid (Below w.heap.size w w2) := HB1.out.trans (hb2.mono HB1.out.size)
  obtain ⟨D0, hD0⟩ : ∃ D0, D0 = digl q n (2 :: zl) := ⟨_, rfl⟩
  have HD0 : Hid (Dig D0) := by rw [hD0]; exact dig_digl (by omega) h4 n _
  rw [← hD0] at hPc
  have hlo : w.heap.size ≤ w1.heap.size := HB1.out.size
  have HTK := hid (ctake_any w1.heap.size q n c c2 a2 za D0 w2 hPc HD0.out hr2 HF.out.2.1 (HL.out w2 HB2.out).2.1)
  clear hD0 hPc hb2 HNW
  go_wp2_with fail
  refine HTK.out.mono ?_
  rintro e w3 ⟨rfl, hP3, hg3⟩
  obtain ⟨D1, hD1⟩ : ∃ D1, D1 = digl q n (3 :: (D0 ++ za)) := ⟨_, rfl⟩
  have HD1 : Hid (Dig D1) := by rw [hD1]; exact dig_digl (by omega) h4 n _
  rw [← hD1] at hP3
  have HB3 : Hid (Below w.heap.size w w3) := HB2.out.trans (gb_to hg3 (by omega) HB2.out.size)
  have HP3 := hid hP3
  have HFK := hid (cfork_any w1.heap.size q n c D1 w3 hP3)
  clear hD1 hP3 hg3 HTK
  go_wp2_with fail
  refine HFK.out.mono ?_
  rintro e w4 ⟨d', rfl, hd, hP4, hb4⟩
  have HP4 := hid hP4
  have HC4 := hid (HP3.out.below hb4)
  have HB4 : Hid (Below w.heap.size w w4) := HB3.out.trans (hb4.mono HB3.out.size)
  have hcd : c ≠ d' := by have := HP3.out.lt; omega
  have HFK2 := hid (cfork_any w1.heap.size q n c D1 w4 HC4.out)
  clear hP4 hb4 HFK HP3
  go_wp2_with fail
  refine HFK2.out.mono ?_
  rintro e w5 ⟨e', rfl, he, hP5, hb5⟩
  have H5 : Hid (F3 w1.heap.size q n c d' e' D1 D1 D1 w w5) := ⟨HC4.out.below hb5, HP4.out.below hb5, hP5, ⟨hcd, by have := HC4.out.lt; omega, by have := HP4.out.lt; omega⟩, HB4.out.trans (hb5.mono HB4.out.size), hlo⟩
  have HTK := hid (ctake_any w1.heap.size q n d' c3 a3 zb D1 w5 H5.out.pd HD1.out hr3 HF.out.2.2 (HL.out w5 H5.out.bel).2.2)
  clear hP5 hb5 HFK2 HC4 HP4 HB4 hcd hd he
  go_wp2_with fail
  refine HTK.out.mono ?_
  rintro e w6 ⟨rfl, hP6, hg6⟩
  have H6 := hid (H5.out.d hP6 hg6)
  have HDR := hid (cdraw_any w1.heap.size q n d' _ w6 H6.out.pd (dig_digl (by omega) h4 n _))
  clear hP6 hg6 HTK H5
  go_wp2_with fail
  refine HDR.out.mono ?_
  rintro e w7 ⟨rfl, hP7, hg7⟩
  have H7 := hid (H6.out.d hP7 hg7)
  clear hP7 hg7 HDR H6
  obtain ⟨z, D2, hD2, hpl⟩ := place_both w1.heap.size q n (by omega) h4 D1 HD1.out N
  have HPL := hid hpl
  have HD2 := hid hD2
  have hzz : (z == z) = true := by simp
  clear hpl hD2
  go_wp2_with fail
  refine (HPL.out c w7 H7.out.pc).mono ?_
  rintro e w8 ⟨rfl, hP8, hg8⟩
  have H8 := hid (H7.out.c hP8 hg8)
  clear hP8 hg8 H7
  go_wp2_with fail
  refine (HPL.out e' w8 H8.out.pe).mono ?_
  rintro e w9 ⟨rfl, hP9, hg9⟩
  have H9 := hid (H8.out.e hP9 hg9)
  clear hP9 hg9 H8
  obtain ⟨X, hX⟩ : ∃ X, X = drs q n 3 D2 := ⟨_, rfl⟩
  have HXL : Hid (X.length = 3) := by unfold Hid; rw [hX]; exact drs_len _ _ _ _
  have HDS : Hid (∀ (c : Nat) (W : World), PCh w1.heap.size q n W c D2 → Calls Try.prog 21 #[.pointer (some ⟨c, 0, none⟩), .int .i64 3] W fun e w' => ∃ a cp, e = .returned (.slice a 3 cp) ∧ NumL w' a cp X ∧ PCh w1.heap.size q n w' c (drw q n 3 D2) ∧ W.grownBy w' (some c)) := fun c W h => by
    rw [hX]
    exact cdraws_any w1.heap.size q n c 3 D2 W h HD2.out (by omega) (by omega)
  clear hX
  go_wp2_with fail
  refine (HDS.out c w9 H9.out.pc).mono ?_
  rintro e w10 ⟨au, cu, rfl, hnu, hP10, hg10⟩
  have H10 := hid (H9.out.c hP10 hg10)
  have HNU := hid hnu
  clear hP10 hg10 H9 hnu
  go_wp2_with fail
  refine (HDS.out e' w10 H10.out.pe).mono ?_
  rintro e w11 ⟨av, cv, rfl, hnv, hP11, hg11⟩
  have HNU2 := hid (HNU.out.other hg11 H10.out.pe.noInt)
  have H11 := hid (H10.out.e hP11 hg11)
  have HIN := hid (ints_same _ _ X au av cu cv w11 HNU2.out.1.row hnv.1.row (by rw [HXL.out]; omega))
  rw [HXL.out] at HIN
  clear hP11 hg11 H10 hnv HNU
  go_wp2_with fail
  refine HIN.out.mono ?_
  rintro e w12 ⟨rfl, nd, rfl⟩
  clear HIN
  go_wp2_with fail
  go_ret
  exact ⟨rfl, below_drewN H11.out.bel nd⟩

set_option maxRecDepth 100000 in
theorem hforks_walk (p : Int) (a1 a2 a3 : Option Addr) (c1 c2 c3 : Nat) (zl za zb : List Int) (N : Int) (w : World) (hp1 : -9223372036854775808 ≤ p) (hp2 : p ≤ 9223372036854775807)
    (hr1 : zl.length ≤ 17592186043904) (hf1 : Fits zl) (hl1 : Lst w.heap.size w a1 c1 zl) (hr2 : za.length ≤ 17592186043904) (hf2 : Fits za) (hl2 : Lst w.heap.size w a2 c2 za) (hr3 : zb.length ≤ 17592186043904) (hf3 : Fits zb) (hl3 : Lst w.heap.size w a3 c3 zb) :
    Calls Try.prog 5 #[.int .i64 p, .slice a1 zl.length c1, .slice a2 za.length c2, .slice a3 zb.length c3, .int .i64 N] w fun e w' => e = .returned (.bool true) ∧ Below w.heap.size w w' := by
  by_cases hg : GoodS p
  · obtain ⟨⟨hq3, hq4, hqp⟩, h23⟩ := hg
    obtain ⟨q, rfl⟩ := Int.eq_ofNat_of_zero_le (show 0 ≤ p by omega)
    exact hforks_good q a1 a2 a3 c1 c2 c3 zl za zb N w (by omega) (by omega) (by simpa using hqp) hr1 hf1 hl1 hr2 hf2 hl2 hr3 hf3 hl3
  · clear hr1 hf1 hl1 hr2 hf2 hl2 hr3 hf3 hl3
    go_enter Try.func5, Try.ntmps5
    go_wp2_with fail
    refine (lives3_any w).mono ?_
    rintro e w0 ⟨rfl, hb0⟩
    go_wp2_with fail
    refine (plain3_no p w0 hg hp1 hp2).mono ?_
    rintro e w1 ⟨rfl, hb1⟩
    go_wp2_with fail
    go_ret
    exact ⟨rfl, hb0.trans (hb1.mono hb0.size)⟩

end Go.Proofs.Ytgjkakfkefpgbaf
