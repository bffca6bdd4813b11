/- FoldNear: the walk. -/
import Derived.Test.YtbbjbhiihfnkmahFolN
namespace Go.Proofs.Ytbbjbhiihfnkmah
open Go.RowKit

theorem single_row (w : World) (v : Int) : RowB (w.alloc (.cells #[.int .i64 v] 3)).heap.size (w.alloc (.cells #[.int .i64 v] 3)) (some ⟨w.heap.size, 0, none⟩) [v] := fun k hk => by
  obtain rfl : k = 0 := by simpa using hk
  exact ⟨w.heap.size, 0, rfl, by simp, by unfold World.cell?; simp only [heap_alloc_new]; rfl⟩
theorem single_fits {v : Int} (h1 : -9223372036854775808 ≤ v) (h2 : v ≤ 9223372036854775807) : Fits [v] := fun k hk => by
  obtain rfl : k = 0 := by simpa using hk
  exact ⟨h1, h2⟩

set_option maxRecDepth 100000 in
set_option maxHeartbeats 4000000 in
theorem onear_good (FD : FldAs) (q k : Nat) (s kk : Int) (a3 : Option Addr) (c3 : Nat) (zs : List Int) (x y : Int) (a4 a5 : Option Addr) (c4 c5 : Nat) (us vs : List Int) (w : World) (hg : GoodAt q (k + 1) s) (hs1 : -9223372036854775808 ≤ s) (hs2 : s ≤ 9223372036854775807) (hk1 : -9223372036854775808 ≤ kk) (hk2 : kk ≤ 9223372036854775807) (hlen : zs.length ≤ 17592186043904) (hfit : Fits zs) (hl : Lst w.heap.size w a3 c3 zs) (hx1 : -9223372036854775808 ≤ x) (hx2 : x ≤ 9223372036854775807) (hy1 : -9223372036854775808 ≤ y) (hy2 : y ≤ 9223372036854775807) (hla : us.length ≤ 17592186043904) (hlb : vs.length ≤ 17592186043904) (hfa : Fits us) (hfb : Fits vs) (hl4 : Lst w.heap.size w a4 c4 us) (hl5 : Lst w.heap.size w a5 c5 vs) :
    Calls Try.prog 5 #[.int .i64 q, .int .i64 ((2 ^ (k + 1) : Nat) : Int), .int .i64 s, .int .i64 kk, .slice a3 zs.length c3, .int .i64 x, .int .i64 y, .slice a4 us.length c4, .slice a5 vs.length c5] w fun e w' => e = .returned (.bool true) ∧ Below w.heap.size w w' := by
  obtain ⟨i0, hii, hz0', hz1, hz2⟩ := info_parts Try.infoInt
  have HFD := hid FD
  have HL := hid hl
  have HLA := hid hl4
  have HLB := hid hl5
  have HFA := hid hfa
  have HFB := hid hfb
  have HPR := hid hg.pr
  obtain ⟨ta, hta⟩ : ∃ ta, ta = tpn q (zat us) us.length := ⟨_, rfl⟩
  obtain ⟨tb, htb⟩ : ∃ tb, tb = tpn q (zat vs) vs.length := ⟨_, rfl⟩
  have hta1 : ta ≤ us.length := by rw [hta]; exact tpn_le q (zat us) us.length
  have htb1 : tb ≤ vs.length := by rw [htb]; exact tpn_le q (zat vs) vs.length
  have HTA := hid hta
  have HTB := hid htb
  clear hl4 hl5 hfa hfb hta htb
  have HFT := hid hfit
  have h3 := hg.h3
  have h4 := hg.h4
  have hk := two_pow_le hg.hk
  have h2k : 2 ^ (k + 1) = 2 * 2 ^ k := by rw [Nat.pow_succ]; omega
  have hpos : 0 < 2 ^ k := Nat.two_pow_pos k
  have HPL := hid (fun W => plain5_yes q k s W hg hs1 hs2)
  obtain ⟨m, hm⟩ : ∃ m, m = 2 ^ k := ⟨_, rfl⟩
  rw [h2k, ← hm] at hk
  rw [← hm] at hpos
  simp only [← hm] at HPL
  obtain ⟨N, hN⟩ : ∃ N, N = zs.length := ⟨_, rfl⟩
  have HNN := hid hN
  rw [← hN] at hlen ⊢
  obtain ⟨t, ht⟩ : ∃ t, t = s % (q : Int) := ⟨_, rfl⟩
  simp only [← ht] at HPL
  obtain ⟨n, hn⟩ : ∃ n, n = 2 * m := ⟨_, rfl⟩
  rw [show ((2 ^ (k + 1) : Nat) : Int) = (n : Int) from by rw [h2k, hn, hm]] at HPL ⊢
  have HN2 := hid hn
  have HM := hid hm
  have hnl : n ≤ 65536 := by omega
  obtain ⟨z, hz⟩ : ∃ z, z = (y - x) % (q : Int) := ⟨_, rfl⟩
  have HZ := hid hz
  clear FD hl hfit hg h2k hm hN ht hn hz
  go_enter Try.func5, Try.ntmps5
  go_wp2_with fail
  refine (lives5_any HFD.out w).mono ?_
  rintro e w0 ⟨rfl, hb0⟩
  have HB0 := hid hb0
  clear hb0
  go_wp2_with fail
  refine (HPL.out w0).mono ?_
  rintro e w1 ⟨b, d, h, r, rfl, _, hD, hb1⟩
  have HD1 := hid hD
  have HB1 : Hid (Below w.heap.size w w1) := HB0.out.trans (hb1.mono HB0.out.size)
  have HSU := hid (sub_any q b y x w1 h3 h4 hD.dom.hp hy1 hy2 hx1 hx2)
  rw [← HZ.out] at HSU
  have HFO : Hid (∀ (c : Int) (W : World), -9223372036854775808 ≤ c → c ≤ 9223372036854775807 → Below w1.heap.size w1 W → Calls Try.prog 9 #[.pointer (some ⟨d, 0, none⟩), .slice a3 N c3, .int .i64 c] W fun e w' => Below W.heap.size W w' ∧
    ((N = n) → ∃ a' c', e = .returned (.tuple #[.slice a' m c', .nilIface]) ∧ Lst w'.heap.size w' a' c' (Fol.foldz q m r t zs c)) ∧
    (¬ (N = n) → ∃ a' c', e = .returned (.tuple #[.slice a' 0 c', .iface 55 (.int .i64 2)]))) := fun c W hc1 hc2 hbw => by
    have hbW := HB1.out.trans (hbw.mono HB1.out.size)
    have h := HFD.out q b d (2 * m) c3 a3 r t c zs W (HD1.out.step hbw).dom (by rw [← HNN.out]; exact hlen) HFT.out ((HL.out.below hbW).mono hbW.size) hc1 hc2
    rw [← HNN.out] at h
    refine h.mono fun e w' ⟨g1, g2, g3⟩ => ⟨g1, fun hn => ?_, fun hn => g3 fun hh => hn (by rw [HN2.out]; exact hh.1)⟩
    have := g2 ⟨by rw [hn, HN2.out], by omega⟩
    rwa [show 2 * m / 2 = m from by omega] at this
  clear hD hb1 HB0 HPL
  go_wp2_with fail
  refine HSU.out.mono ?_
  rintro e w1b ⟨rfl, rfl⟩
  have HFX := hid (HFO.out x w1b hx1 hx2 (Below.refl _ _))
  by_cases hNn : N = n
  · subst hNn
    clear HSU
    go_wp2_with fail
    refine HFX.out.mono ?_
    rintro e w2 ⟨hb2, hA, _⟩
    obtain ⟨a1, c1, rfl, hl1⟩ := hA trivial
    have HB2 := hid hb2
    have HL1 := hid hl1
    have HFY := hid (HFO.out y w2 hy1 hy2 hb2)
    clear hb2 hl1 hA HFX HFO
    go_wp2_with fail
    refine HFY.out.mono ?_
    rintro e w3 ⟨hb3, hA, _⟩
    obtain ⟨a2, c2, rfl, hl2⟩ := hA trivial
    have HL2 := hid hl2
    have HB3 : Hid (Below w.heap.size w w3) := HB1.out.trans ((HB2.out.trans (hb3.mono HB2.out.size)).mono HB1.out.size)
    have HL1b := hid ((HL1.out.below hb3).mono hb3.size)
    have HD3 := hid (HD1.out.step (HB2.out.trans (hb3.mono HB2.out.size)))
    clear hb3 hl2 hA HFY HB2 HL1
    have HDA : Hid (Calls Try.prog 16 #[.pointer (some ⟨b, 0, none⟩), .slice a4 us.length c4] w3 fun e w' => e = .returned (.int .i64 ((ta : Int) - 1)) ∧ w' = w3) := by
      rw [HTA.out]
      exact deg_any q b us.length c4 (· < w3.heap.size) a4 (zat us) w3 h3 h4 HD3.out.dom.hp (by omega) HFA.out ((HLA.out.below HB3.out).mono HB3.out.size).row.f
    have HDB : Hid (Calls Try.prog 16 #[.pointer (some ⟨b, 0, none⟩), .slice a5 vs.length c5] w3 fun e w' => e = .returned (.int .i64 ((tb : Int) - 1)) ∧ w' = w3) := by
      rw [HTB.out]
      exact deg_any q b vs.length c5 (· < w3.heap.size) a5 (zat vs) w3 h3 h4 HD3.out.dom.hp (by omega) HFB.out ((HLB.out.below HB3.out).mono HB3.out.size).row.f
    go_wp2_with fail
    refine HDA.out.mono ?_
    rintro e w3b ⟨rfl, rfl⟩
    go_wp2_with fail
    refine HDB.out.mono ?_
    rintro e w3c ⟨rfl, rfl⟩
    clear HDA HDB
    by_cases hz0 : z = 0
    · go_wp2_with fail
      go_ret
      exact ⟨rfl, HB3.out⟩
    by_cases hk3 : kk < 2
    · go_wp2_with fail
      go_ret
      exact ⟨rfl, HB3.out⟩
    by_cases hk4 : (N : Int) < kk
    · go_wp2_with fail
      go_ret
      exact ⟨rfl, HB3.out⟩
    obtain ⟨K, rfl⟩ := Int.eq_ofNat_of_zero_le (show 0 ≤ kk by omega)
    rcases Nat.mod_two_eq_zero_or_one K with hK | hK
    · obtain ⟨J, hJ⟩ : ∃ J, J = K / 2 := ⟨_, rfl⟩
      have q1 : (K : Int).tdiv 2 = (J : Int) := by rw [hJ]; rfl
      have q3 : (K : Int).tmod 2 = 0 := by rw [Int.tmod_eq_emod_of_nonneg (by omega)]; omega
      have hJ2 : J ≤ 65536 := by omega
      clear hJ hK
      by_cases hA1 : (J : Int) ≤ (ta : Int) - 1
      · go_wp2_with fail
        all_goals
          go_ret
          exact ⟨rfl, HB3.out⟩
      by_cases hA2 : (J : Int) ≤ (tb : Int) - 1
      · go_wp2_with fail
        all_goals
          go_ret
          exact ⟨rfl, HB3.out⟩
      have hA3 : ta ≤ J := by omega
      have hA4 : tb ≤ J := by omega
      obtain ⟨F1, hF1⟩ : ∃ F, F = Fol.foldz q m r t zs x := ⟨_, rfl⟩
      obtain ⟨F2, hF2⟩ : ∃ F, F = Fol.foldz q m r t zs y := ⟨_, rfl⟩
      obtain ⟨Y, hY⟩ : ∃ F, F = vlz q m ((r : Int) * (r : Int) % (q : Int)) (t * t % (q : Int)) us := ⟨_, rfl⟩
      obtain ⟨Z, hZ⟩ : ∃ F, F = vlz q m ((r : Int) * (r : Int) % (q : Int)) (t * t % (q : Int)) vs := ⟨_, rfl⟩
      have HF1E := hid hF1
      have HF2E := hid hF2
      have HYE := hid hY
      have HZE := hid hZ
      have HA3 : Hid (Alive w3c [(a1, F1), (a2, F2)]) := by
        unfold Hid
        rw [hF1, hF2]
        exact ((Alive.nil w3c).cons HL2.out.row).cons HL1b.out.row
      have HVA : Hid (∀ W : World, Below w.heap.size w W → Dh W q b d h m r t → Calls Try.prog 8 #[.pointer (some ⟨h, 0, none⟩), .slice a4 us.length c4] W fun e w' => ∃ g, e = .returned (.slice (some ⟨g, 0, none⟩) m m) ∧ Lst w'.heap.size w' (some ⟨g, 0, none⟩) m Y ∧ Below W.heap.size W w') := fun W hb hd => by
        rw [hY]; exact values_lst hd.half a4 c4 us (by omega) HFA.out ((HLA.out.below hb).mono hb.size).row
      have HVB : Hid (∀ W : World, Below w.heap.size w W → Dh W q b d h m r t → Calls Try.prog 8 #[.pointer (some ⟨h, 0, none⟩), .slice a5 vs.length c5] W fun e w' => ∃ g, e = .returned (.slice (some ⟨g, 0, none⟩) m m) ∧ Lst w'.heap.size w' (some ⟨g, 0, none⟩) m Z ∧ Below W.heap.size W w') := fun W hb hd => by
        rw [hZ]; exact values_lst hd.half a5 c5 vs (by omega) HFB.out ((HLB.out.below hb).mono hb.size).row
      clear hF1 hF2 hY hZ HL1b HL2
      go_wp2_with fail
      · go_ret
        exact ⟨rfl, HB3.out⟩
      refine (HVA.out w3c HB3.out HD3.out).mono ?_
      rintro e w4 ⟨g4, rfl, hl4, hb4⟩
      have HD4 := hid (HD3.out.step hb4)
      have HB4 : Hid (Below w.heap.size w w4) := HB3.out.trans (hb4.mono HB3.out.size)
      have HA4 : Hid (Alive w4 [(some ⟨g4, 0, none⟩, Y), (a1, F1), (a2, F2)]) := (HA3.out.step hb4).cons hl4.row
      clear hl4 hb4 HA3 HVA HD3 HB3
      go_wp2_with fail
      refine (HVB.out w4 HB4.out HD4.out).mono ?_
      rintro e w5 ⟨g5, rfl, hl5, hb5⟩
      have HD5 := hid (HD4.out.step hb5)
      have HB5 : Hid (Below w.heap.size w w5) := HB4.out.trans (hb5.mono HB4.out.size)
      have HA5 : Hid (Alive w5 [(some ⟨g5, 0, none⟩, Z), (some ⟨g4, 0, none⟩, Y), (a1, F1), (a2, F2)]) := (HA4.out.step hb5).cons hl5.row
      clear hl5 hb5 HA4 HVB HD4 HB4
      have HLEN : Hid (F1.length = m ∧ F2.length = m ∧ Y.length = m ∧ Z.length = m) := by
        unfold Hid
        rw [HF1E.out, HF2E.out, HYE.out, HZE.out, Fol.foldz_len, Fol.foldz_len, vlz_len, vlz_len]
        exact ⟨rfl, rfl, rfl, rfl⟩
      have HC1 : Hid (Calls Try.prog 17 #[.pointer (some ⟨b, 0, none⟩), .slice a1 m c1, .slice (some ⟨g4, 0, none⟩) m m] w5 fun e w' => e = .returned (.int .i64 (dist q F1 Y)) ∧ ∃ n, w' = w5.drewN n) := by
        have hh := cdist_any q b c1 m a1 (some ⟨g4, 0, none⟩) F1 Y w5 h3 h4 HD5.out.dom.hp (by rw [HLEN.out.1]; omega) (by rw [HLEN.out.2.2.1]; omega) (by rw [HF1E.out]; exact foldz_fits h3 h4 _ _ _ _ _) (by rw [HYE.out]; exact vlz_fits h3 h4 _ _ _ _) (HA5.out.at 2 rfl) (HA5.out.at 1 rfl)
        rw [HLEN.out.1, HLEN.out.2.2.1] at hh
        exact hh
      have HC2 : Hid (∀ n6 : Nat, Calls Try.prog 17 #[.pointer (some ⟨b, 0, none⟩), .slice a2 m c2, .slice (some ⟨g5, 0, none⟩) m m] (w5.drewN n6) fun e w' => e = .returned (.int .i64 (dist q F2 Z)) ∧ ∃ n, w' = (w5.drewN n6).drewN n) := fun n6 => by
        have hh := cdist_any q b c2 m a2 (some ⟨g5, 0, none⟩) F2 Z (w5.drewN n6) h3 h4 HD5.out.dom.hp (by rw [HLEN.out.2.1]; omega) (by rw [HLEN.out.2.2.2]; omega) (by rw [HF2E.out]; exact foldz_fits h3 h4 _ _ _ _ _) (by rw [HZE.out]; exact vlz_fits h3 h4 _ _ _ _) ((HA5.out.drewN n6).at 3 rfl) ((HA5.out.drewN n6).at 0 rfl)
        rw [HLEN.out.2.1, HLEN.out.2.2.2] at hh
        exact hh
      have hC : dist q F1 Y ≤ 65536 := by have := dist_le q F1 Y; rw [HLEN.out.1, HLEN.out.2.2.1] at this; omega
      have hE : dist q F2 Z ≤ 65536 := by have := dist_le q F2 Z; rw [HLEN.out.2.1, HLEN.out.2.2.2] at this; omega
      obtain ⟨C, hCe⟩ : ∃ C, C = dist q F1 Y := ⟨_, rfl⟩
      obtain ⟨E, hEe⟩ : ∃ E, E = dist q F2 Z := ⟨_, rfl⟩
      rw [← hCe] at HC1 hC
      rw [← hEe] at HC2 hE
      have HCE := hid hCe
      have HEE := hid hEe
      clear hCe hEe
      go_wp2_with fail
      refine HC1.out.mono ?_
      rintro e w6 ⟨rfl, n6, rfl⟩
      go_wp2_with fail
      refine (HC2.out n6).mono ?_
      rintro e w7 ⟨rfl, n7, rfl⟩
      have HD7 : Hid (Dh ((w5.drewN n6).drewN n7) q b d h m r t) := HD5.out.step (below_drewN (below_drewN (Below.refl _ _) _) _)
      have HB7 : Hid (Below w.heap.size w ((w5.drewN n6).drewN n7)) := below_drewN (below_drewN HB5.out _) _
      clear HA5 HC1 HC2 HD5 HB5
      generalize (w5.drewN n6).drewN n7 = w7 at *
      have HUS : Hid (∀ W : World, Below w.heap.size w W → RowB W.heap.size W a4 us) := fun W hb => ((HLA.out.below hb).mono hb.size).row
      have HVS : Hid (∀ W : World, Below w.heap.size w W → RowB W.heap.size W a5 vs) := fun W hb => ((HLB.out.below hb).mono hb.size).row
      have HS8 := hid (psub_lst (c1 := c5) (c2 := c4) h3 h4 HD7.out.dom.hp (by omega) (by omega) HFB.out HFA.out (HVS.out w7 HB7.out) (HUS.out w7 HB7.out))
      have hO0l : (Pol.psub q vs us).length ≤ 17592186043904 := by have := Pol.psub_le q vs us; omega
      have HO0F : Hid (Fits (Pol.psub q vs us)) := psub_fits h3 h4 _ _
      obtain ⟨O0, hO0⟩ : ∃ O, O = Pol.psub q vs us := ⟨_, rfl⟩
      rw [← hO0] at HS8 hO0l HO0F
      have HO0 := hid hO0
      obtain ⟨zb1, zb2⟩ : 0 ≤ z ∧ z < q := by rw [HZ.out]; exact emod_bounds _ q h3
      clear hO0
      go_wp2_with fail
      refine HS8.out.mono ?_
      rintro e w8 ⟨ao, co, rfl, hl8, hb8⟩
      have HD8 := hid (HD7.out.step hb8)
      have HB8 : Hid (Below w.heap.size w w8) := HB7.out.trans (hb8.mono HB7.out.size)
      have HO8 := hid hl8
      have HIN : Hid (Calls Try.prog 19 #[.pointer (some ⟨b, 0, none⟩), .int .i64 z] w8 fun e w' => e = .returned (.int .i64 (invn q z)) ∧ w' = w8) := by
        have hh := inv_any q b z w8 h3 h4 HD8.out.dom.hp (by omega) (by omega)
        rwa [inv_ref q z HPR.out h3] at hh
      have hxi := invn_lt q z h3
      have HXI : Hid ((q : Int) ∣ (invn q z : Int) * (y - x) - 1) := by
        have e1 := invn_dvd HPR.out h3 (z := z) (fun hh => hz0 (by have h0 := Int.emod_eq_zero_of_dvd hh; rwa [Int.emod_eq_of_lt zb1 zb2] at h0))
        have e2 := Int.dvd_mul_of_dvd_right (b := (invn q z : Int)) (Pol.emod_dvd q (y - x))
        rw [← HZ.out] at e2
        have e3 := Int.dvd_sub e1 e2
        rwa [show (invn q z : Int) * z - 1 - (invn q z : Int) * (z - (y - x)) = (invn q z : Int) * (y - x) - 1 from by grind] at e3
      generalize invn q z = xi at *
      clear hl8 hb8 HS8 HD7 HB7
      go_wp2_with fail
      refine HIN.out.mono ?_
      rintro e w9 ⟨rfl, rfl⟩
      clear HIN
      have HBA := hid ((Below.refl w9.heap.size w9).alloc (Nat.le_refl _) (.cells #[.int .i64 (xi : Int)] 3))
      have HDA := hid (HD8.out.step HBA.out)
      have HM9 := hid (pmul_lst (c1 := co) (c2 := 1) (ys := [(xi : Int)]) HPR.out h3 h4 HDA.out.dom.hp (by simp; omega) HO0F.out (single_fits (by omega) (by omega)) ((HO8.out.below HBA.out).mono HBA.out.size).row (single_row _ _))
      have HBB : Hid (Below w.heap.size w (w9.alloc (.cells #[.int .i64 (xi : Int)] 3))) := HB8.out.trans (HBA.out.mono HB8.out.size)
      have hO1l : (Pol.pmul q O0 [(xi : Int)]).length ≤ 17592186043905 := by have := Pol.pmul_le q O0 [(xi : Int)]; simp at this; omega
      have HO1F : Hid (Fits (Pol.pmul q O0 [(xi : Int)])) := pmul_fits h3 h4 _ _
      obtain ⟨O1, hO1⟩ : ∃ O, O = Pol.pmul q O0 [(xi : Int)] := ⟨_, rfl⟩
      rw [← hO1] at HM9 hO1l HO1F
      have HO1 := hid hO1
      clear hO1 HD8 HB8 HO8 HBA
      go_wp2_with fail
      generalize w9.alloc (.cells #[.int .i64 (xi : Int)] 3) = w10 at *
      refine HM9.out.mono ?_
      rintro e w11 ⟨a11, c11, rfl, hl11, hb11⟩
      have HD11 := hid (HDA.out.step hb11)
      have HB11 : Hid (Below w.heap.size w w11) := HBB.out.trans (hb11.mono HBB.out.size)
      have HO11 := hid hl11
      clear hl11 hb11 HM9 HDA HBB
      have HBA := hid ((Below.refl w11.heap.size w11).alloc (Nat.le_refl _) (.cells #[.int .i64 x] 3))
      have HDA := hid (HD11.out.step HBA.out)
      have HM11 := hid (pmul_lst (c1 := c11) (c2 := 1) (ys := [x]) HPR.out h3 h4 HDA.out.dom.hp (by simp; omega) HO1F.out (single_fits hx1 hx2) ((HO11.out.below HBA.out).mono HBA.out.size).row (single_row _ _))
      have HBB : Hid (Below w.heap.size w (w11.alloc (.cells #[.int .i64 x] 3))) := HB11.out.trans (HBA.out.mono HB11.out.size)
      have HO12 := hid ((HO11.out.below HBA.out).mono HBA.out.size)
      have hM1l : (Pol.pmul q O1 [x]).length ≤ 17592186043906 := by have := Pol.pmul_le q O1 [x]; simp at this; omega
      have HM1F : Hid (Fits (Pol.pmul q O1 [x])) := pmul_fits h3 h4 _ _
      obtain ⟨M1, hM1⟩ : ∃ O, O = Pol.pmul q O1 [x] := ⟨_, rfl⟩
      rw [← hM1] at HM11 hM1l HM1F
      have HM1 := hid hM1
      clear hM1 HD11 HB11 HO11 HBA
      go_wp2_with fail
      generalize w11.alloc (.cells #[.int .i64 x] 3) = w12 at *
      refine HM11.out.mono ?_
      rintro e w13 ⟨a13, c13, rfl, hl13, hb13⟩
      have HD13 := hid (HDA.out.step hb13)
      have HB13 : Hid (Below w.heap.size w w13) := HBB.out.trans (hb13.mono HBB.out.size)
      have HO13 := hid ((HO12.out.below hb13).mono hb13.size)
      have HS13 := hid (psub_lst (c1 := c4) (c2 := c13) h3 h4 HD13.out.dom.hp (by omega) (by omega) HFA.out HM1F.out (HUS.out w13 HB13.out) hl13.row)
      have HEVF : Hid (Fits (Pol.psub q us M1)) := psub_fits h3 h4 _ _
      obtain ⟨EV, hEV⟩ : ∃ O, O = Pol.psub q us M1 := ⟨_, rfl⟩
      rw [← hEV] at HS13 HEVF
      have HEV := hid hEV
      clear hEV hl13 hb13 HM11 HDA HBB HO12
      go_wp2_with fail
      refine HS13.out.mono ?_
      rintro e w14 ⟨a14, c14, rfl, hl14, hb14⟩
      have HD14 := hid (HD13.out.step hb14)
      have HB14 : Hid (Below w.heap.size w w14) := HB13.out.trans (hb14.mono HB13.out.size)
      have HO14 := hid ((HO13.out.below hb14).mono hb14.size)
      have HE14 := hid hl14
      clear hl14 hb14 HS13 HD13 HB13 HO13
      obtain ⟨G, hG⟩ : ∃ G, G = mixf EV O1 := ⟨_, rfl⟩
      have HG0 : Hid (∀ i, G (2 * i) = zat EV i) := fun i => by rw [hG]; unfold mixf; rw [if_pos (by omega), show 2 * i / 2 = i from by omega]
      have HG1 : Hid (∀ i, G (2 * i + 1) = zat O1 i) := fun i => by rw [hG]; unfold mixf; rw [if_neg (by omega), show (2 * i + 1) / 2 = i from by omega]
      have HGG := hid hG
      clear hG
      go_wp2_with fail
      go_loopw [36, 37] (fun v iv wr => ∃ i : Nat, i ≤ J ∧ iv = .int .i64 i ∧ Hid (wr.ownsRow w14.heap.size 3 1 v (ls G (2 * i)).length ((ls G (2 * i)).map (Value.int .i64)) ∧ Below w14.heap.size w14 wr)) (fun _ iv _ => J - (intOf iv).toNat)
      case atStart => exact ⟨0, by omega, rfl, World.ownsRow_nil _ _ _ _, Below.refl _ _⟩
      case round =>
        obtain ⟨i, hi, rfl, hI⟩ := hrel
        by_cases hlt : i < J
        · have hlt2 : (i : Int) < (J : Int) := by omega
          have hks : IntKind.i64.wrap ((i : Int) + 1) = (i : Int) + 1 := by rw [IntKind.wrap_i64]; omega
          have HAE := hid (rat_any c14 i (· < wr.heap.size) a14 EV wr ((HE14.out.below hI.out.2).mono hI.out.2.size).row)
          have HAO := hid (rat_any c11 i (· < wr.heap.size) a11 O1 wr ((HO14.out.below hI.out.2).mono hI.out.2.size).row)
          have HSC : Hid (ls G (2 * (i + 1)) = ls G (2 * i) ++ [zat EV i, zat O1 i]) := by
            unfold Hid
            rw [show 2 * (i + 1) = 2 * i + 1 + 1 from by omega, ls_succ, ls_succ, HG0.out, HG1.out]
            simp
          have hown := hI.out.1
          have hbel := hI.out.2
          have HLS := hid (ls_len G (2 * i))
          generalize ls G (2 * i) = ZL at *
          have hZ : ZL.length ≤ 17592186043904 := by rw [HLS.out]; omega
          have hsz : w14.heap.size ≤ wr.heap.size := hbel.size
          generalize zat EV i = p0 at *
          generalize zat O1 i = p1 at *
          clear hI
          go_wp2_with fail
          refine HAE.out.mono ?_
          rintro e w15 ⟨rfl, rfl⟩
          go_wp2_with fail
          refine HAO.out.mono ?_
          rintro e w16 ⟨rfl, rfl⟩
          go_wp2_with (at_builtin; refine wpList_append_own _ rfl _ _ 22 rfl w14.heap.size 3 i0 (.int .i64 0) 1 8 Try.underlying22 hii hz0' hz1 hz2 rfl (by decide) _ _ _ rfl (hown.alloc _) ⟨w16.heap.size, 0, none⟩ 2 2 [.int .i64 p0, .int .i64 p1] rfl rfl ?c1 ?c2 ?c3 ?c4 ?c5 ?_)
          case c1 =>
            intro j u hj
            match j, hj with
            | 0, hj => simp at hj; subst hj; simp [Addr.add]
            | 1, hj => simp at hj; subst hj; simp [Addr.add]
          case c2 =>
            intro u hu
            simp at hu
            rcases hu with rfl | rfl <;> rfl
          case c3 => unfold maxLen; omega
          case c4 => omega
          case c5 => simp; omega
          intro v' w17 hown2 hgrow _
          have HE : Hid (w17.ownsRow w14.heap.size 3 1 v' (ls G (2 * (i + 1))).length ((ls G (2 * (i + 1))).map (Value.int .i64)) ∧ Below w14.heap.size w14 w17) := by
            unfold Hid
            rw [HSC.out, List.length_append, List.map_append]
            exact ⟨hown2, (hbel.alloc hsz _).grown hgrow (by simp; omega) (fun j hj => (hown.lt j hj).1)⟩
          clear hown2 hgrow hown hbel
          go_wp2_with fail
          go_roundw
          case rel => exact ⟨i + 1, by omega, by go_num, HE⟩
          case measure => simp [intOf]; omega
        · obtain rfl : i = J := by omega
          have hlt2 : ¬ (i : Int) < (i : Int) := by omega
          have hLB : Fits (ls G (2 * i)) := fun j hj => by
            rw [ls_len] at hj
            rw [ls_at _ _ _ hj]
            rcases Nat.mod_two_eq_zero_or_one j with e | e
            · rw [show j = 2 * (j / 2) from by omega, HG0.out]
              exact HEVF.out.all _
            · rw [show j = 2 * (j / 2) + 1 from by omega, HG1.out]
              exact HO1F.out.all _
          obtain ⟨aL, cL, hvL, hlL⟩ := lst_of_owns hI.out.1
          subst hvL
          have HBR : Hid (Below w.heap.size w wr) := HB14.out.trans (hI.out.2.mono HB14.out.size)
          have HDR := hid (HD14.out.step hI.out.2)
          have HVV := hid (values_lst HDR.out.dom aL cL (ls G (2 * i)) (by rw [ls_len]; omega) hLB hlL.row)
          obtain ⟨V, hV⟩ : ∃ V, V = vlz q (2 * m) r t (ls G (2 * i)) := ⟨_, rfl⟩
          rw [← hV, ← HN2.out] at HVV
          have HVE := hid hV
          generalize (ls G (2 * i)).length = Ll at *
          clear hI hlL hV hLB HD14 HB14 HO14 HE14
          go_wp2_with fail
          refine HVV.out.mono ?_
          rintro e w18 ⟨g18, rfl, hl18, hb18⟩
          have HB18 : Hid (Below w.heap.size w w18) := HBR.out.trans (hb18.mono HBR.out.size)
          have HVL : Hid (V.length = N) := by unfold Hid; rw [HVE.out, vlz_len, HN2.out]
          have HC18 : Hid (Calls Try.prog 17 #[.pointer (some ⟨b, 0, none⟩), .slice a3 N c3, .slice (some ⟨g18, 0, none⟩) N N] w18 fun e w' => e = .returned (.int .i64 (dist q zs V)) ∧ ∃ n, w' = w18.drewN n) := by
            have hh := cdist_any q b c3 N a3 (some ⟨g18, 0, none⟩) zs V w18 h3 h4 (HDR.out.step hb18).dom.hp (by rw [← HNN.out]; omega) (by rw [HVL.out]; omega) HFT.out (by rw [HVE.out]; exact vlz_fits h3 h4 _ _ _ _) ((HL.out.below HB18.out).mono HB18.out.size).row hl18.row
            rw [← HNN.out, HVL.out] at hh
            exact hh
          have hfin : dist q zs V ≤ 2 * (C + E) := by
            have hnl2 := near_lists HDR.out.dom zs us vs O1 EV x y (xi : Int) i (by rw [← HTA.out]; exact hA3) (by rw [← HTB.out]; exact hA4) HXI.out (by rw [← HNN.out]; exact HN2.out) (by rw [HO1.out, HO0.out]) (by rw [HEV.out, HM1.out])
            rw [← HGG.out, ← HVE.out, ← HF1E.out, ← HYE.out, ← HF2E.out, ← HZE.out, ← HCE.out, ← HEE.out] at hnl2
            exact hnl2
          obtain ⟨gg, hgg⟩ : ∃ gg, gg = dist q zs V := ⟨_, rfl⟩
          rw [← hgg] at HC18 hfin
          have hw1 : IntKind.i64.wrap ((C : Int) + (E : Int)) = (C : Int) + (E : Int) := by rw [IntKind.wrap_i64]; omega
          have hw2 : IntKind.i64.wrap (2 * ((C : Int) + (E : Int))) = 2 * ((C : Int) + (E : Int)) := by rw [IntKind.wrap_i64]; omega
          have hfin2 : (gg : Int) ≤ 2 * ((C : Int) + (E : Int)) := by omega
          clear hgg hl18 hb18 HVV hfin
          go_wp2_with fail
          refine HC18.out.mono ?_
          rintro e w19 ⟨rfl, n19, rfl⟩
          go_wp2_with fail
          go_ret
          exact ⟨by first | rfl | simp [hfin2], below_drewN HB18.out n19⟩
    · have q3 : (K : Int).tmod 2 = 1 := by rw [Int.tmod_eq_emod_of_nonneg (by omega)]; omega
      clear hK
      go_wp2_with fail
      go_ret
      exact ⟨rfl, HB3.out⟩
  · have hNn2 : ¬ (N : Int) = (n : Int) := by omega
    clear HSU
    go_wp2_with fail
    refine HFX.out.mono ?_
    rintro e w2 ⟨hb2, _, hA⟩
    obtain ⟨a1, c1, rfl⟩ := hA hNn
    have HB2 := hid hb2
    have HFY := hid (HFO.out y w2 hy1 hy2 hb2)
    have HNN := hid hNn
    clear hb2 hA HFX HFO hNn
    go_wp2_with fail
    refine HFY.out.mono ?_
    rintro e w3 ⟨hb3, _, hA⟩
    obtain ⟨a2, c2, rfl⟩ := hA HNN.out
    have HB3 : Hid (Below w.heap.size w w3) := HB1.out.trans ((HB2.out.trans (hb3.mono HB2.out.size)).mono HB1.out.size)
    have HD3 := hid (HD1.out.step (HB2.out.trans (hb3.mono HB2.out.size)))
    clear hb3 hA HFY HB2
    have HDA : Hid (Calls Try.prog 16 #[.pointer (some ⟨b, 0, none⟩), .slice a4 us.length c4] w3 fun e w' => e = .returned (.int .i64 ((ta : Int) - 1)) ∧ w' = w3) := by
      rw [HTA.out]
      exact deg_any q b us.length c4 (· < w3.heap.size) a4 (zat us) w3 h3 h4 HD3.out.dom.hp (by omega) HFA.out ((HLA.out.below HB3.out).mono HB3.out.size).row.f
    have HDB : Hid (Calls Try.prog 16 #[.pointer (some ⟨b, 0, none⟩), .slice a5 vs.length c5] w3 fun e w' => e = .returned (.int .i64 ((tb : Int) - 1)) ∧ w' = w3) := by
      rw [HTB.out]
      exact deg_any q b vs.length c5 (· < w3.heap.size) a5 (zat vs) w3 h3 h4 HD3.out.dom.hp (by omega) HFB.out ((HLB.out.below HB3.out).mono HB3.out.size).row.f
    go_wp2_with fail
    refine HDA.out.mono ?_
    rintro e w3b ⟨rfl, rfl⟩
    go_wp2_with fail
    refine HDB.out.mono ?_
    rintro e w3c ⟨rfl, rfl⟩
    clear HDA HDB
    by_cases hz0 : z = 0
    · go_wp2_with fail
      go_ret
      exact ⟨rfl, HB3.out⟩
    · go_wp2_with fail
      go_ret
      exact ⟨rfl, HB3.out⟩

set_option maxRecDepth 100000 in
theorem onear_walk (FD : FldAs) (p n s kk : Int) (a3 : Option Addr) (c3 : Nat) (zs : List Int) (x y : Int) (a4 a5 : Option Addr) (c4 c5 : Nat) (us vs : List Int) (w : World) (hp1 : -9223372036854775808 ≤ p) (hp2 : p ≤ 9223372036854775807) (hn1 : -9223372036854775808 ≤ n) (hn2 : n ≤ 9223372036854775807) (hs1 : -9223372036854775808 ≤ s) (hs2 : s ≤ 9223372036854775807) (hk1 : -9223372036854775808 ≤ kk) (hk2 : kk ≤ 9223372036854775807) (hlen : zs.length ≤ 17592186043904) (hfit : Fits zs) (hl : Lst w.heap.size w a3 c3 zs) (hx1 : -9223372036854775808 ≤ x) (hx2 : x ≤ 9223372036854775807) (hy1 : -9223372036854775808 ≤ y) (hy2 : y ≤ 9223372036854775807) (hla : us.length ≤ 17592186043904) (hlb : vs.length ≤ 17592186043904) (hfa : Fits us) (hfb : Fits vs) (hl4 : Lst w.heap.size w a4 c4 us) (hl5 : Lst w.heap.size w a5 c5 vs) :
    Calls Try.prog 5 #[.int .i64 p, .int .i64 n, .int .i64 s, .int .i64 kk, .slice a3 zs.length c3, .int .i64 x, .int .i64 y, .slice a4 us.length c4, .slice a5 vs.length c5] w fun e w' => e = .returned (.bool true) ∧ Below w.heap.size w w' := by
  by_cases hg : Good5 p n s
  · obtain ⟨q, k, rfl, rfl, hg⟩ := hg
    exact onear_good FD q k s kk a3 c3 zs x y a4 a5 c4 c5 us vs w hg hs1 hs2 hk1 hk2 hlen hfit hl hx1 hx2 hy1 hy2 hla hlb hfa hfb hl4 hl5
  · have HFD := hid FD
    clear FD hlen hfit hl hla hlb hfa hfb hl4 hl5
    go_enter Try.func5, Try.ntmps5
    go_wp2_with fail
    refine (lives5_any HFD.out w).mono ?_
    rintro e w0 ⟨rfl, hb0⟩
    have HB0 := hid hb0
    clear hb0
    go_wp2_with fail
    refine (plain5_no p n s w0 hg hp1 hp2 hn1 hn2 hs1 hs2).mono ?_
    rintro e w1 ⟨rfl, hb1⟩
    have HB1 : Hid (Below w.heap.size w w1) := HB0.out.trans (hb1.mono HB0.out.size)
    clear hb1
    go_wp2_with fail
    go_ret
    exact ⟨rfl, HB1.out⟩

end Go.Proofs.Ytbbjbhiihfnkmah
