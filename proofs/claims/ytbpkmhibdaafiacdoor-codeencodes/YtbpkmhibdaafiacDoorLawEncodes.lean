/- The law CodeEncodes answers true: codewords of any polynomial; which words are some. -/
import Derived.Test.YtbpkmhibdaafiacDoorSitC
import Derived.Test.YtbpkmhibdaafiacDoorRefF
namespace Go.Proofs.YtbpkmhibdaafiacDoor
open Go.RowKit

set_option maxRecDepth 1000000 in
set_option maxHeartbeats 4000000 in
theorem encodes_walk (p n s k : Int) (a1 a2 : Option Addr) (c1 c2 : Nat) (xs ys : List Int) (w : World) (hL : Laid w) (hp1 : -9223372036854775808 ≤ p) (hp2 : p ≤ 9223372036854775807) (hn1 : -9223372036854775808 ≤ n) (hn2 : n ≤ 9223372036854775807) (hs1 : -9223372036854775808 ≤ s) (hs2 : s ≤ 9223372036854775807) (hk1 : -9223372036854775808 ≤ k) (hk2 : k ≤ 9223372036854775807)
    (hlx : xs.length ≤ 17592186043904) (hly : ys.length ≤ 17592186043904) (hf1 : Fits xs) (hf2 : Fits ys) (hl1 : Lst w.heap.size w a1 c1 xs) (hl2 : Lst w.heap.size w a2 c2 ys) :
    Calls Tryd.prog 6 #[.int .i64 p, .int .i64 n, .int .i64 s, .int .i64 k, .slice a1 xs.length c1, .slice a2 ys.length c2] w fun e w' => e = .returned (.bool true) ∧ Below w.heap.size w w' := by
  have HF1 := hid hf1
  have HF2 := hid hf2
  have HL1 := hid hl1
  have HL2 := hid hl2
  clear hf1 hf2 hl1 hl2
  by_cases hgood : Good p n s
  · obtain ⟨q, kk, rfl, rfl, hg⟩ := hgood
    have HG := hid hg
    obtain ⟨hpr, h3, h4, hk, hd, hs⟩ := hg
    have HPR := hid hpr
    have hnp : 0 < 2 ^ kk := Nat.pow_pos (by decide)
    have hnl := two_pow_le hk
    have HM := hid (fun w1 => made_yes q kk s w1 HG.out hs1 hs2)
    have HSI : Hid (∀ (w1 : World) (b d r : Nat), RootIs q ((2 ^ kk : Nat) : Int) r → w1.cell? ⟨b, 0, none⟩ = some (.int .i64 q) → DomAt w1 d b ((2 ^ kk : Nat) : Int) r (s % (q : Int)) → Below w.heap.size w w1 →
        Sit w (w1.alloc (.cells #[.int .i64 q, .int .i64 ((2 ^ kk : Nat) : Int), .int .i64 (s % (q : Int)), .int .i64 r] 24)) q b d (2 ^ kk) w1.heap.size r (s % (q : Int))) := fun w1 b d r z1 z2 z3 z4 => sit_of HG.out hL z1 z2 z3 z4
    clear hpr hd hs hk hp1 hp2 hn1 hn2 hL
    generalize 2 ^ kk = N at *
    obtain ⟨tp, htp⟩ : ∃ tp, tp = tpn q (zat xs) xs.length := ⟨_, rfl⟩
    have HTP := hid htp
    have htl : tp ≤ xs.length := by rw [htp]; exact tpn_le q (zat xs) xs.length
    have HDG : Hid (∀ W : World, Lst W.heap.size W a1 c1 xs → Calls Tryd.prog 25 #[.int .i64 q, .slice a1 xs.length c1] W fun e w' => e = .returned (.int .i64 ((tp : Int) - 1)) ∧ w' = W) := fun W h => by
      rw [HTP.out]; exact rdeg_any q xs.length c1 (· < W.heap.size) a1 (zat xs) W h3 h4 (by omega) HF1.out h.row.f
    clear htp
    go_enter Tryd.func6, Tryd.ntmps6
    go_wp2_with fail
    refine (HM.out _).mono ?_
    rintro e w1 ⟨b, d, r, rfl, hr, hc1, hda, hb1⟩
    have HS2 := hid (HSI.out w1 b d r hr hc1 hda hb1)
    have hba : Below w1.heap.size w1 (w1.alloc (.cells #[.int .i64 q, .int .i64 N, .int .i64 (s % (q : Int)), .int .i64 r] 24)) := (Below.refl _ _).alloc (Nat.le_refl _) _
    have HX2 := hid ((((HL1.out.below hb1).mono hb1.size).below hba).mono hba.size)
    have HY2 := hid ((((HL2.out.below hb1).mono hb1.size).below hba).mono hba.size)
    obtain ⟨t0, t1⟩ := emod_bounds s q h3
    generalize s % (q : Int) = t at *
    clear hr hc1 hda hb1 HM HSI HL1 HL2 hba
    have hr0 := HS2.out.dom.hr0
    have hr1 := HS2.out.dom.hr1
    have HIS : Hid (∀ W : World, Sit w W q b d N w1.heap.size r t → Lst W.heap.size W a2 c2 ys → Calls Tryd.prog 26 #[.pointer (some ⟨d, 0, none⟩), .int .i64 k, .slice a2 ys.length c2] W fun e w' => e = .returned (.bool (decide (1 ≤ k ∧ k ≤ N ∧ ys.length = N ∧ ((bk q N r t ys).length : Int) ≤ k))) ∧ Below W.heap.size W w') := fun W z1 z2 => is_all z1.dom k a2 c2 ys hk1 hk2 HF2.out z2
    have HRS : Hid (∀ W : World, Lst W.heap.size W a2 c2 ys → Calls Tryd.prog 27 #[.agg #[.int .i64 q, .int .i64 N, .int .i64 t, .int .i64 r], .int .i64 k, .slice a2 ys.length c2] W fun e w' => e = .returned (.bool (decide (1 ≤ k ∧ k ≤ N ∧ ys.length = N ∧ ((bk q N r t ys).length : Int) ≤ k))) ∧ Below W.heap.size W w') := fun W z => ris_any q N c2 k r t a2 ys W HPR.out h3 h4 hnp hnl hr0 hr1 t0 t1 hk1 hk2 (by omega) HF2.out z.row
    generalize decide (1 ≤ k ∧ k ≤ (N : Int) ∧ ys.length = N ∧ ((bk q N r t ys).length : Int) ≤ k) = bb at *
    have hbb : (bb == bb) = true := by simp
    go_wp2_with fail
    generalize (w1.alloc (.cells #[.int .i64 q, .int .i64 N, .int .i64 t, .int .i64 r] 24)) = w2 at *
    by_cases hin : 1 ≤ k ∧ k ≤ N
    · obtain ⟨i1, i2⟩ := hin
      obtain ⟨m, rfl⟩ := Int.eq_ofNat_of_zero_le (show 0 ≤ k by omega)
      have g1 : ¬ (m : Int) < 1 := by omega
      have g2 : ¬ (N : Int) < (m : Int) := by omega
      by_cases hdeg : tp ≤ m
      · have g3 : ¬ (m : Int) ≤ (tp : Int) - 1 := by omega
        refine (enc_any HS2.out.dom m a1 c1 xs (by omega) (by omega) (by omega) HF1.out HX2.out.row (by rw [← HTP.out]; exact hdeg)).mono ?_
        rintro e w3 ⟨rfl, hri3, hb3, hlt3⟩
        have HS3 := hid (HS2.out.step hb3)
        have HX3 := hid ((HX2.out.below hb3).mono hb3.size)
        have HY3 := hid ((HY2.out.below hb3).mono hb3.size)
        have HV3 : Hid (RowB w3.heap.size w3 (some ⟨w2.heap.size, 0, none⟩) (ls (fun j => evz q xs (Dom.pt q t r j)) N)) := rowB_of_F hri3 (Nat.le_refl _) (fun _ _ => rfl) hlt3
        clear hri3 hb3 hlt3 HS2 HX2 HY2
        go_wp2_with fail
        refine (HDG.out w3 HX3.out).mono ?_
        rintro e w4 ⟨rfl, rfl⟩
        go_wp2_with fail
        refine (error_nil 0 _).mono ?_
        rintro e w5 ⟨rfl, rfl⟩
        obtain ⟨z0, z1, z2, z3⟩ := HS3.out.cells
        go_wp2_with fail
        refine (rvalues_any q N c1 r t a1 xs _ h3 h4 hnp hnl hr0 hr1 t0 t1 (by omega) HF1.out HX3.out.row).mono ?_
        rintro e w6 ⟨g, M, F, rfl, hg, hri, hM, hF, hb6⟩
        have HS6 := hid (HS3.out.step hb6)
        have HY6 := hid ((HY3.out.below hb6).mono hb6.size)
        have HV6 := hid ((HV3.out.below hb6).mono hb6.size)
        have HW6 : Hid (RowB w6.heap.size w6 (some ⟨g, 0, none⟩) (ls (fun j => evz q xs (Dom.pt q t r j)) N)) := rowB_of_F hri hM hF hri.lt
        have HI := hid (ints_same _ _ (ls (fun j => evz q xs (Dom.pt q t r j)) N) _ _ N M w6 HV6.out HW6.out (by rw [ls_len]; omega))
        rw [ls_len] at HI
        clear hri hF hb6 z0 z1 z2 z3 HS3 HX3 HY3 HV3
        go_wp2_with fail
        refine HI.out.mono ?_
        rintro e w7 ⟨rfl, n7, rfl⟩
        have hb7 : Below w6.heap.size w6 (w6.drewN n7) := below_drewN (Below.refl w6.heap.size w6) n7
        have HS7 := hid (HS6.out.step hb7)
        have HY7 := hid ((HY6.out.below hb7).mono hb7.size)
        clear hb7 HS6 HY6
        generalize w6.drewN n7 = w7 at *
        go_wp2_with fail
        refine (HIS.out w7 HS7.out HY7.out).mono ?_
        rintro e w8 ⟨rfl, hb8⟩
        have HS8 := hid (HS7.out.step hb8)
        have HY8 := hid ((HY7.out.below hb8).mono hb8.size)
        obtain ⟨z0, z1, z2, z3⟩ := HS8.out.cells
        clear hb8 HS7 HY7
        go_wp2_with fail
        refine (HRS.out w8 HY8.out).mono ?_
        rintro e w9 ⟨rfl, hb9⟩
        have HB9 : Hid (Below w.heap.size w w9) := HS8.out.below.trans (hb9.mono HS8.out.below.size)
        clear hb9
        go_wp2_with fail
        go_ret
        exact ⟨by first | rfl | simp, HB9.out⟩
      · have g3 : (m : Int) ≤ (tp : Int) - 1 := by omega
        refine (enc_size HS2.out.dom m a1 c1 xs (by omega) (by omega) (by omega) HF1.out HX2.out.row (by rw [← HTP.out]; omega)).mono ?_
        rintro e w3 ⟨rfl, rfl⟩
        go_wp2_with fail
        refine (HDG.out _ HX2.out).mono ?_
        rintro e w4 ⟨rfl, rfl⟩
        go_wp2_with fail
        refine (error_hit 2 2 _ HS2.out.laid).mono ?_
        rintro e w6 ⟨rfl, hb6⟩
        have HS6 := hid (HS2.out.step hb6)
        have HY6 := hid ((HY2.out.below hb6).mono hb6.size)
        clear hb6 HS2 HX2 HY2
        go_wp2_with fail
        refine (ints_same 0 0 [] none none 0 0 w6 (fun j hj => by simp at hj) (fun j hj => by simp at hj) (by simp)).mono ?_
        rintro e w7 ⟨rfl, n7, rfl⟩
        have hb7 : Below w6.heap.size w6 (w6.drewN n7) := below_drewN (Below.refl w6.heap.size w6) n7
        have HS7 := hid (HS6.out.step hb7)
        have HY7 := hid ((HY6.out.below hb7).mono hb7.size)
        clear hb7 HS6 HY6
        generalize w6.drewN n7 = w7 at *
        go_wp2_with fail
        refine (HIS.out w7 HS7.out HY7.out).mono ?_
        rintro e w8 ⟨rfl, hb8⟩
        have HS8 := hid (HS7.out.step hb8)
        have HY8 := hid ((HY7.out.below hb8).mono hb8.size)
        obtain ⟨z0, z1, z2, z3⟩ := HS8.out.cells
        clear hb8 HS7 HY7
        go_wp2_with fail
        refine (HRS.out w8 HY8.out).mono ?_
        rintro e w9 ⟨rfl, hb9⟩
        have HB9 : Hid (Below w.heap.size w w9) := HS8.out.below.trans (hb9.mono HS8.out.below.size)
        clear hb9
        go_wp2_with fail
        go_ret
        exact ⟨by first | rfl | simp, HB9.out⟩
    · have hk2' : k < 1 ∨ (¬ k < 1 ∧ (N : Int) < k) := by omega
      refine (enc_range k a1 xs.length c1 HS2.out.dom.da hin hk1 hk2 hnl).mono ?_
      rintro e w3 ⟨rfl, rfl⟩
      clear hin
      go_wp2_with fail
      refine (HDG.out _ HX2.out).mono ?_
      rintro e w4 ⟨rfl, rfl⟩
      rcases hk2' with g1 | ⟨g1, g2⟩
      · go_wp2_with fail
        refine (error_hit 3 3 _ HS2.out.laid).mono ?_
        rintro e w6 ⟨rfl, hb6⟩
        have HS6 := hid (HS2.out.step hb6)
        have HY6 := hid ((HY2.out.below hb6).mono hb6.size)
        clear hb6 HS2 HX2 HY2
        go_wp2_with fail
        refine (ints_same 0 0 [] none none 0 0 w6 (fun j hj => by simp at hj) (fun j hj => by simp at hj) (by simp)).mono ?_
        rintro e w7 ⟨rfl, n7, rfl⟩
        have hb7 : Below w6.heap.size w6 (w6.drewN n7) := below_drewN (Below.refl w6.heap.size w6) n7
        have HS7 := hid (HS6.out.step hb7)
        have HY7 := hid ((HY6.out.below hb7).mono hb7.size)
        clear hb7 HS6 HY6
        generalize w6.drewN n7 = w7 at *
        go_wp2_with fail
        refine (HIS.out w7 HS7.out HY7.out).mono ?_
        rintro e w8 ⟨rfl, hb8⟩
        have HS8 := hid (HS7.out.step hb8)
        have HY8 := hid ((HY7.out.below hb8).mono hb8.size)
        obtain ⟨z0, z1, z2, z3⟩ := HS8.out.cells
        clear hb8 HS7 HY7
        go_wp2_with fail
        refine (HRS.out w8 HY8.out).mono ?_
        rintro e w9 ⟨rfl, hb9⟩
        have HB9 : Hid (Below w.heap.size w w9) := HS8.out.below.trans (hb9.mono HS8.out.below.size)
        clear hb9
        go_wp2_with fail
        go_ret
        exact ⟨by first | rfl | simp, HB9.out⟩
      · go_wp2_with fail
        refine (error_hit 3 3 _ HS2.out.laid).mono ?_
        rintro e w6 ⟨rfl, hb6⟩
        have HS6 := hid (HS2.out.step hb6)
        have HY6 := hid ((HY2.out.below hb6).mono hb6.size)
        clear hb6 HS2 HX2 HY2
        go_wp2_with fail
        refine (ints_same 0 0 [] none none 0 0 w6 (fun j hj => by simp at hj) (fun j hj => by simp at hj) (by simp)).mono ?_
        rintro e w7 ⟨rfl, n7, rfl⟩
        have hb7 : Below w6.heap.size w6 (w6.drewN n7) := below_drewN (Below.refl w6.heap.size w6) n7
        have HS7 := hid (HS6.out.step hb7)
        have HY7 := hid ((HY6.out.below hb7).mono hb7.size)
        clear hb7 HS6 HY6
        generalize w6.drewN n7 = w7 at *
        go_wp2_with fail
        refine (HIS.out w7 HS7.out HY7.out).mono ?_
        rintro e w8 ⟨rfl, hb8⟩
        have HS8 := hid (HS7.out.step hb8)
        have HY8 := hid ((HY7.out.below hb8).mono hb8.size)
        obtain ⟨z0, z1, z2, z3⟩ := HS8.out.cells
        clear hb8 HS7 HY7
        go_wp2_with fail
        refine (HRS.out w8 HY8.out).mono ?_
        rintro e w9 ⟨rfl, hb9⟩
        have HB9 : Hid (Below w.heap.size w w9) := HS8.out.below.trans (hb9.mono HS8.out.below.size)
        clear hb9
        go_wp2_with fail
        go_ret
        exact ⟨by first | rfl | simp, HB9.out⟩
  · have HM := hid (made_no p n s w hL hgood hp1 hp2 hn1 hn2 hs1 hs2)
    clear hgood
    go_enter Tryd.func6, Tryd.ntmps6
    go_wp2_with fail
    refine HM.out.mono ?_
    rintro e w1 ⟨rfl, hb1⟩
    have HB1 := hid hb1
    clear hb1
    go_wp2_with fail
    go_ret
    exact ⟨rfl, HB1.out.alloc HB1.out.size _⟩

end Go.Proofs.YtbpkmhibdaafiacDoor
