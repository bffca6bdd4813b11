/- SumsExtends: the walk. -/
import Derived.Test.YtecaifjbmfianafDoorSumW
namespace Go.Proofs.YtecaifjbmfianafDoor
open Go.RowKit

theorem ints_two (n0 n1 : Nat) (xs ys : List Int) (a b : Option Addr) (ca cb : Nat) (w : World) (ha : RowB n0 w a xs) (hb : RowB n1 w b ys) (hx : xs.length ≤ 9223372036854775807) (hy : ys.length ≤ 9223372036854775807) :
    Calls Tryd.prog 12 #[.slice a xs.length ca, .slice b ys.length cb] w fun e w' => e = .returned (.bool (decide (xs = ys))) ∧ ∃ n, w' = w.drewN n := ints_any xs ys _ _ w (rowZ_of_B ca ha) (rowZ_of_B cb hb) hx hy

set_option maxRecDepth 100000 in
set_option maxHeartbeats 4000000 in
theorem uextends_good (EX : ExtAs) (FX : FixAs) (q : Nat) (a1 a2 : Option Addr) (c1 c2 : Nat) (t at' : List Int) (r : Int) (w : World) (hL : Laid w) (hT : TabAt 2 Lib.deBruijn64tab w) (h3 : 3 ≤ q) (h4 : q ≤ 2147483647) (hpr : Num.Prime q)
    (h1 : InL w a1 c1 t) (h2 : InL w a2 c2 at') (hr1 : -9223372036854775808 ≤ r) (hr2 : r ≤ 9223372036854775807) :
    Calls Tryd.prog 4 #[.int .i64 q, .slice a1 t.length c1, .slice a2 at'.length c2, .int .i64 r] w fun e w' => e = .returned (.bool true) ∧ Below w.heap.size w w' := by
  have HP := hid hpr
  have H1 := hid h1
  have H2 := hid h2
  have HL := hid hL
  have HTB := hid hT
  have HEX := hid EX
  have HFX := hid FX
  have hlt := h1.len
  have hla := h2.len
  clear hpr h1 h2 hL hT EX FX
  go_enter Tryd.func4, Tryd.ntmps4
  go_wp2_with fail
  refine (field_yes q w h3 h4 HP.out).mono ?_
  rintro e w1 ⟨rfl, hc, hb1, hs1⟩
  have HB1 := hid hb1
  have HI1 : Hid (InT q w.heap.size w1) := ⟨⟨HP.out, h3, h4, hc⟩, tabu_below HTB.out hb1⟩
  have HA1 := hid (H1.out.below hb1)
  clear hc hb1
  go_wp2_with (at_builtin; refine wpList_copy w1 rfl _ _ rfl rfl a1 c1 t rfl (by omega) HA1.out.lst ?_)
  intro ao co w2 ho2 hb2 hs2
  have HB2 : Hid (Below w.heap.size w w2) := HB1.out.trans (hb2.mono HB1.out.size)
  have HO2 : Hid (InL w2 ao co t) := ⟨hlt, HA1.out.fit, ho2⟩
  have HI2 := hid (HI1.out.below hb2)
  have HX2 := hid (HEX.out q w.heap.size co c2 ao a2 t at' w2 HI2.out HO2.out (H2.out.below HB2.out))
  clear ho2 hb2 HI1 HA1 HB1
  go_wp2_with fail
  refine HX2.out.mono ?_
  rintro e w3 ⟨rfl, hb3⟩
  have HB3 : Hid (Below w.heap.size w w3) := HB2.out.trans (hb3.mono HB2.out.size)
  have HO3 := hid (HO2.out.below hb3)
  have HI3 := hid (HI2.out.below hb3)
  clear hb3 HX2 HO2 HI2 HB2
  obtain ⟨n, hn⟩ : ∃ n, n = t.length := ⟨_, rfl⟩
  obtain ⟨m, hm⟩ : ∃ m, m = at'.length := ⟨_, rfl⟩
  obtain ⟨V, hV⟩ : ∃ V, V = vrs n := ⟨_, rfl⟩
  have HN := hid hn
  have HMM := hid hm
  have HVV := hid hV
  obtain ⟨X, hX⟩ : ∃ X, X = exz q t at' := ⟨_, rfl⟩
  obtain ⟨E, hE⟩ : ∃ E, E = exe t at' := ⟨_, rfl⟩
  have HXX := hid hX
  have HEE := hid hE
  have HRV := hid (rvars_any n c1 a1 w3)
  rw [← hX, ← hE]
  rw [← hn] at hlt ⊢
  rw [← hm] at hla ⊢
  rw [← hV] at HRV
  clear hX hE hn hm hV
  go_wp2_with fail
  refine HRV.out.mono ?_
  rintro e w4 ⟨rfl, rfl⟩
  clear HRV
  by_cases hok : V = (m : Int)
  · have HV1 : Hid (∃ v : Nat, v ≤ 12 ∧ n = 2 ^ v ∧ V = v) := by
      have := vrs_of (n := n) (by rw [← HVV.out]; omega)
      obtain ⟨v, e1, e2, e3⟩ := this
      exact ⟨v, e1, e2, by rw [HVV.out]; exact e3⟩
    have HE0 : Hid (E = 0) := by unfold Hid; rw [HEE.out]; unfold exe; rw [if_pos (by rw [← HN.out, ← HMM.out, ← HVV.out]; exact hok)]
    have HX0 : Hid (X = Sum.ext (zat t) (zat at') m % (q : Int)) := by unfold Hid; rw [HXX.out]; unfold exz; rw [if_pos (by rw [← HN.out, ← HMM.out, ← HVV.out]; exact hok), ← HMM.out]
    have t1 : ¬ V < 0 := by omega
    have t2 : (V != (m : Int)) = false := by simp [hok]
    have HRE : Hid (Calls Tryd.prog 17 #[.int .i64 q, .slice a1 n c1, .slice a2 m c2] w4 fun e w' => e = .returned (.int .i64 X) ∧ w' = w4) := by
      obtain ⟨v, e1, e2, e3⟩ := HV1.out
      have hvm : at'.length = v := by rw [← HMM.out]; omega
      have h := rextend_any q v c1 c2 a1 a2 t at' w4 w4.heap.size w4.heap.size h3 h4 hvm e1 (by rw [← HN.out]; exact e2) H1.out.fit H2.out.fit (H1.out.below HB3.out).lst.row (H2.out.below HB3.out).lst.row
      rw [← HN.out, ← hvm, ← HMM.out] at h
      rw [HX0.out]
      exact h
    have HTO := hid (told_any E 0 w4 (HL.out.below HB3.out))
    rw [HE0.out] at HTO ⊢
    have hzz : (X == X) = true := by simp
    clear hok
    go_wp2_with fail
    refine HRE.out.mono ?_
    rintro e w5 ⟨rfl, rfl⟩
    go_wp2_with fail
    refine HTO.out.mono ?_
    rintro e w6 ⟨rfl, hb6⟩
    clear HRE HTO
    have HB6 : Hid (Below w.heap.size w w6) := HB3.out.trans (hb6.mono HB3.out.size)
    have HO6 := hid (HO3.out.below hb6)
    have HI6 := hid (HI3.out.below hb6)
    have HF6 : Hid (Calls Tryd.prog 19 #[.pointer (some ⟨w.heap.size, 0, none⟩), .slice ao n co, .int .i64 r] w6 fun e w' => ∃ a' c', e = .returned (.tuple #[.slice a' (fxl q t r).length c', errz (fxe t)]) ∧ Lst w'.heap.size w' a' c' (fxl q t r) ∧ SlR w' (fxl q t r) (.slice a' (fxl q t r).length c') ∧ Below w6.heap.size w6 w') := by
      have h := HFX.out q w.heap.size co ao t r w6 HI6.out HO6.out hr1 hr2
      rw [← HN.out] at h
      exact h
    clear hb6
    go_wp2_with fail
    refine HF6.out.mono ?_
    rintro e w7 ⟨al, cl, rfl, hl7, _, hb7⟩
    have HB7 : Hid (Below w.heap.size w w7) := HB6.out.trans (hb7.mono HB6.out.size)
    have HO7 := hid (HO6.out.below hb7)
    have HL7 := hid hl7
    clear hl7 hb7 HF6 HO6 HI6 HB6
    by_cases hv1 : 1 ≤ V
    · have HFE : Hid (fxe t = 0) := by unfold Hid fxe; rw [if_pos (by rw [← HN.out, ← HVV.out]; exact hv1)]
      have HFL : Hid (fxl q t r = fixl q t r) := by unfold Hid fxl; rw [if_pos (by rw [← HN.out, ← HVV.out]; exact hv1)]
      have t3 : ¬ V < 1 := by omega
      have HRF : Hid (Calls Tryd.prog 20 #[.int .i64 q, .slice a1 n c1, .int .i64 r] w7 fun e w' => ∃ v, e = .returned v ∧ w'.ownsRow w7.heap.size 3 1 v (fixl q t r).length ((fixl q t r).map (Value.int .i64)) ∧ Below w7.heap.size w7 w') := by
        have h := rfix_any q c1 a1 t r w7 w7.heap.size h3 h4 H1.out.len H1.out.fit hr1 hr2 (H1.out.below HB7.out).lst.row (Nat.le_refl _)
        rw [← HN.out] at h
        exact h
      rw [HFE.out, HFL.out]
      rw [HFL.out] at HL7
      have HFN : Hid ((fixl q t r).length ≤ 17592186043904) := by unfold Hid; rw [fixl_len]; have := H1.out.len; omega
      generalize fixl q t r = F at *
      clear hv1 HFE HFL
      try clear t1
      go_wp2_with fail
      refine HRF.out.mono ?_
      rintro e w8 ⟨v8, rfl, ho8, hb8⟩
      obtain ⟨a8, c8, hv8, hl8⟩ := lst_of_owns ho8
      subst hv8
      have HB8 : Hid (Below w.heap.size w w8) := HB7.out.trans (hb8.mono HB7.out.size)
      have HO8 := hid (HO7.out.below hb8)
      have HL8 := hid ((HL7.out.below hb8).mono hb8.size)
      have HM8 := hid hl8
      have HT8 := hid (told_any 0 0 w8 (HL.out.below HB8.out))
      clear ho8 hb8 hl8 HRF
      go_wp2_with fail
      refine HT8.out.mono ?_
      rintro e w9 ⟨rfl, hb9⟩
      have HB9 : Hid (Below w.heap.size w w9) := HB8.out.trans (hb9.mono HB8.out.size)
      have HI9 := hid (ints_same w9.heap.size w9.heap.size F al a8 cl c8 w9 ((HL8.out.below hb9).mono hb9.size).row ((HM8.out.below hb9).mono hb9.size).row (by have := HFN.out; omega))
      have HO9 := hid (HO8.out.below hb9)
      clear hb9 HT8
      go_wp2_with fail
      refine HI9.out.mono ?_
      rintro e w10 ⟨rfl, n10, rfl⟩
      have HB10 : Hid (Below w.heap.size w (w9.drewN n10)) := below_drewN HB9.out n10
      have HI10 : Hid (Calls Tryd.prog 12 #[.slice ao n co, .slice a1 n c1] (w9.drewN n10) fun e w' => e = .returned (.bool true) ∧ ∃ k, w' = (w9.drewN n10).drewN k) := by
        have h := ints_same _ _ t ao a1 co c1 (w9.drewN n10) (HO9.out.below (below_drewN (Below.refl _ _) n10)).lst.row (H1.out.below HB10.out).lst.row (by have := H1.out.len; omega)
        rw [← HN.out] at h
        exact h
      clear HI9
      go_wp2_with fail
      refine HI10.out.mono ?_
      rintro e w11 ⟨rfl, n11, rfl⟩
      clear HI10
      go_wp2_with fail
      go_ret
      exact ⟨rfl, below_drewN HB9.out (n10 + n11)⟩
    · have HFE : Hid (fxe t = 2) := by unfold Hid fxe; rw [if_neg (by rw [← HN.out, ← HVV.out]; exact hv1)]
      have HFL : Hid (fxl q t r = []) := by unfold Hid fxl; rw [if_neg (by rw [← HN.out, ← HVV.out]; exact hv1)]
      have t3 : V < 1 := by omega
      rw [HFE.out, HFL.out]
      have HT8 := hid (told_any 2 2 w7 (HL.out.below HB7.out))
      clear hv1 HFE HFL HL7
      go_wp2_with fail
      refine HT8.out.mono ?_
      rintro e w9 ⟨rfl, hb9⟩
      have HB9 : Hid (Below w.heap.size w w9) := HB7.out.trans (hb9.mono HB7.out.size)
      have HI9 := hid (ints_same w9.heap.size w9.heap.size [] al none cl 0 w9 (fun k hk => by simp at hk) (fun k hk => by simp at hk) (by simp))
      have HO9 := hid (HO7.out.below hb9)
      clear hb9 HT8
      go_wp2_with fail
      refine HI9.out.mono ?_
      rintro e w10 ⟨rfl, n10, rfl⟩
      have HB10 : Hid (Below w.heap.size w (w9.drewN n10)) := below_drewN HB9.out n10
      have HI10 : Hid (Calls Tryd.prog 12 #[.slice ao n co, .slice a1 n c1] (w9.drewN n10) fun e w' => e = .returned (.bool true) ∧ ∃ k, w' = (w9.drewN n10).drewN k) := by
        have h := ints_same _ _ t ao a1 co c1 (w9.drewN n10) (HO9.out.below (below_drewN (Below.refl _ _) n10)).lst.row (H1.out.below HB10.out).lst.row (by have := H1.out.len; omega)
        rw [← HN.out] at h
        exact h
      clear HI9
      go_wp2_with fail
      refine HI10.out.mono ?_
      rintro e w11 ⟨rfl, n11, rfl⟩
      clear HI10
      go_wp2_with fail
      go_ret
      exact ⟨rfl, below_drewN HB9.out (n10 + n11)⟩
  · have HE0 : Hid (E = 2) := by unfold Hid; rw [HEE.out]; unfold exe; rw [if_neg (by rw [← HN.out, ← HMM.out, ← HVV.out]; exact hok)]
    have HX0 : Hid (X = 0) := by unfold Hid; rw [HXX.out]; unfold exz; rw [if_neg (by rw [← HN.out, ← HMM.out, ← HVV.out]; exact hok)]
    have t2 : (V != (m : Int)) = true := by simp [hok]
    have HTO := hid (told_any E 2 w4 (HL.out.below HB3.out))
    rw [HE0.out] at HTO ⊢
    rw [HX0.out]
    clear hok
    by_cases t1 : V < 0
    all_goals
      go_wp2_with fail
      refine HTO.out.mono ?_
      rintro e w6 ⟨rfl, hb6⟩
      clear HTO
      have HB6 : Hid (Below w.heap.size w w6) := HB3.out.trans (hb6.mono HB3.out.size)
      have HO6 := hid (HO3.out.below hb6)
      have HI6 := hid (HI3.out.below hb6)
      have HF6 : Hid (Calls Tryd.prog 19 #[.pointer (some ⟨w.heap.size, 0, none⟩), .slice ao n co, .int .i64 r] w6 fun e w' => ∃ a' c', e = .returned (.tuple #[.slice a' (fxl q t r).length c', errz (fxe t)]) ∧ Lst w'.heap.size w' a' c' (fxl q t r) ∧ SlR w' (fxl q t r) (.slice a' (fxl q t r).length c') ∧ Below w6.heap.size w6 w') := by
        have h := HFX.out q w.heap.size co ao t r w6 HI6.out HO6.out hr1 hr2
        rw [← HN.out] at h
        exact h
      clear hb6
      go_wp2_with fail
      refine HF6.out.mono ?_
      rintro e w7 ⟨al, cl, rfl, hl7, _, hb7⟩
      have HB7 : Hid (Below w.heap.size w w7) := HB6.out.trans (hb7.mono HB6.out.size)
      have HO7 := hid (HO6.out.below hb7)
      have HL7 := hid hl7
      clear hl7 hb7 HF6 HO6 HI6 HB6
      by_cases hv1 : 1 ≤ V
      · have HFE : Hid (fxe t = 0) := by unfold Hid fxe; rw [if_pos (by rw [← HN.out, ← HVV.out]; exact hv1)]
        have HFL : Hid (fxl q t r = fixl q t r) := by unfold Hid fxl; rw [if_pos (by rw [← HN.out, ← HVV.out]; exact hv1)]
        have t3 : ¬ V < 1 := by omega
        have HRF : Hid (Calls Tryd.prog 20 #[.int .i64 q, .slice a1 n c1, .int .i64 r] w7 fun e w' => ∃ v, e = .returned v ∧ w'.ownsRow w7.heap.size 3 1 v (fixl q t r).length ((fixl q t r).map (Value.int .i64)) ∧ Below w7.heap.size w7 w') := by
          have h := rfix_any q c1 a1 t r w7 w7.heap.size h3 h4 H1.out.len H1.out.fit hr1 hr2 (H1.out.below HB7.out).lst.row (Nat.le_refl _)
          rw [← HN.out] at h
          exact h
        rw [HFE.out, HFL.out]
        rw [HFL.out] at HL7
        have HFN : Hid ((fixl q t r).length ≤ 17592186043904) := by unfold Hid; rw [fixl_len]; have := H1.out.len; omega
        generalize fixl q t r = F at *
        clear hv1 HFE HFL
        try clear t1
        go_wp2_with fail
        refine HRF.out.mono ?_
        rintro e w8 ⟨v8, rfl, ho8, hb8⟩
        obtain ⟨a8, c8, hv8, hl8⟩ := lst_of_owns ho8
        subst hv8
        have HB8 : Hid (Below w.heap.size w w8) := HB7.out.trans (hb8.mono HB7.out.size)
        have HO8 := hid (HO7.out.below hb8)
        have HL8 := hid ((HL7.out.below hb8).mono hb8.size)
        have HM8 := hid hl8
        have HT8 := hid (told_any 0 0 w8 (HL.out.below HB8.out))
        clear ho8 hb8 hl8 HRF
        go_wp2_with fail
        refine HT8.out.mono ?_
        rintro e w9 ⟨rfl, hb9⟩
        have HB9 : Hid (Below w.heap.size w w9) := HB8.out.trans (hb9.mono HB8.out.size)
        have HI9 := hid (ints_same w9.heap.size w9.heap.size F al a8 cl c8 w9 ((HL8.out.below hb9).mono hb9.size).row ((HM8.out.below hb9).mono hb9.size).row (by have := HFN.out; omega))
        have HO9 := hid (HO8.out.below hb9)
        clear hb9 HT8
        go_wp2_with fail
        refine HI9.out.mono ?_
        rintro e w10 ⟨rfl, n10, rfl⟩
        have HB10 : Hid (Below w.heap.size w (w9.drewN n10)) := below_drewN HB9.out n10
        have HI10 : Hid (Calls Tryd.prog 12 #[.slice ao n co, .slice a1 n c1] (w9.drewN n10) fun e w' => e = .returned (.bool true) ∧ ∃ k, w' = (w9.drewN n10).drewN k) := by
          have h := ints_same _ _ t ao a1 co c1 (w9.drewN n10) (HO9.out.below (below_drewN (Below.refl _ _) n10)).lst.row (H1.out.below HB10.out).lst.row (by have := H1.out.len; omega)
          rw [← HN.out] at h
          exact h
        clear HI9
        go_wp2_with fail
        refine HI10.out.mono ?_
        rintro e w11 ⟨rfl, n11, rfl⟩
        clear HI10
        go_wp2_with fail
        go_ret
        exact ⟨rfl, below_drewN HB9.out (n10 + n11)⟩
      · have HFE : Hid (fxe t = 2) := by unfold Hid fxe; rw [if_neg (by rw [← HN.out, ← HVV.out]; exact hv1)]
        have HFL : Hid (fxl q t r = []) := by unfold Hid fxl; rw [if_neg (by rw [← HN.out, ← HVV.out]; exact hv1)]
        have t3 : V < 1 := by omega
        rw [HFE.out, HFL.out]
        have HT8 := hid (told_any 2 2 w7 (HL.out.below HB7.out))
        clear hv1 HFE HFL HL7
        go_wp2_with fail
        refine HT8.out.mono ?_
        rintro e w9 ⟨rfl, hb9⟩
        have HB9 : Hid (Below w.heap.size w w9) := HB7.out.trans (hb9.mono HB7.out.size)
        have HI9 := hid (ints_same w9.heap.size w9.heap.size [] al none cl 0 w9 (fun k hk => by simp at hk) (fun k hk => by simp at hk) (by simp))
        have HO9 := hid (HO7.out.below hb9)
        clear hb9 HT8
        go_wp2_with fail
        refine HI9.out.mono ?_
        rintro e w10 ⟨rfl, n10, rfl⟩
        have HB10 : Hid (Below w.heap.size w (w9.drewN n10)) := below_drewN HB9.out n10
        have HI10 : Hid (Calls Tryd.prog 12 #[.slice ao n co, .slice a1 n c1] (w9.drewN n10) fun e w' => e = .returned (.bool true) ∧ ∃ k, w' = (w9.drewN n10).drewN k) := by
          have h := ints_same _ _ t ao a1 co c1 (w9.drewN n10) (HO9.out.below (below_drewN (Below.refl _ _) n10)).lst.row (H1.out.below HB10.out).lst.row (by have := H1.out.len; omega)
          rw [← HN.out] at h
          exact h
        clear HI9
        go_wp2_with fail
        refine HI10.out.mono ?_
        rintro e w11 ⟨rfl, n11, rfl⟩
        clear HI10
        go_wp2_with fail
        go_ret
        exact ⟨rfl, below_drewN HB9.out (n10 + n11)⟩

set_option maxRecDepth 100000 in
theorem uextends_walk (EX : ExtAs) (FX : FixAs) (p : Int) (a1 a2 : Option Addr) (c1 c2 : Nat) (t at' : List Int) (r : Int) (w : World) (hL : Laid w) (hT : TabAt 2 Lib.deBruijn64tab w) (hp1 : -9223372036854775808 ≤ p) (hp2 : p ≤ 9223372036854775807)
    (hr1 : t.length ≤ 17592186043904) (hf1 : Fits t) (hl1 : Lst w.heap.size w a1 c1 t) (hr2 : at'.length ≤ 17592186043904) (hf2 : Fits at') (hl2 : Lst w.heap.size w a2 c2 at') (hx1 : -9223372036854775808 ≤ r) (hx2 : r ≤ 9223372036854775807) :
    Calls Tryd.prog 4 #[.int .i64 p, .slice a1 t.length c1, .slice a2 at'.length c2, .int .i64 r] w fun e w' => e = .returned (.bool true) ∧ Below w.heap.size w w' := by
  by_cases hg : okPrime p
  · obtain ⟨hq3, hq4, hqp⟩ := hg
    obtain ⟨q, rfl⟩ := Int.eq_ofNat_of_zero_le (show 0 ≤ p by omega)
    exact uextends_good EX FX q a1 a2 c1 c2 t at' r w hL hT (by omega) (by omega) (by simpa using hqp) ⟨hr1, hf1, hl1⟩ ⟨hr2, hf2, hl2⟩ hx1 hx2
  · clear hr1 hf1 hl1 hr2 hf2 hl2 EX FX
    go_enter Tryd.func4, Tryd.ntmps4
    go_wp2_with fail
    refine (field_no p w hL hg hp1 hp2).mono ?_
    rintro e w1 ⟨rfl, hb1⟩
    go_wp2_with fail
    go_ret
    exact ⟨rfl, hb1⟩

end Go.Proofs.YtecaifjbmfianafDoor
