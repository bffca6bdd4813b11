/- SumsTotals: the walk. -/
import Derived.Test.YtecaifjbmfianafDoorLawUExtends
namespace Go.Proofs.YtecaifjbmfianafDoor
open Go.RowKit

theorem ovr_of {rows : List (List Int)} (h : 0 ≤ ovr rows) : ∃ v : Nat, v ≤ 12 ∧ ovr rows = v ∧ 1 ≤ rows.length ∧ rows.length ≤ 4 ∧ ∀ k, k < rows.length → (rat rows k).length = 2 ^ v := by
  unfold ovr at h ⊢
  split at h
  · rename_i hc
    rw [if_pos hc]
    obtain ⟨v, e1, e2, e3⟩ := vrs_of h
    exact ⟨v, e1, e3, hc.1, hc.2.1, fun k hk => by rw [hc.2.2 k hk, e2]⟩
  · omega
theorem InR.own {W w' : World} {a : Option Addr} {c bs : Nat} {rows : List (List Int)} {v : Value} (h : InR W a c rows) (ho : OwnR bs w' v rows) : ∃ ao co, v = .slice ao rows.length co ∧ InR w' ao co rows := by
  obtain ⟨ao, co, e, hl⟩ := ho.lst
  exact ⟨ao, co, e, h.len, h.lens, h.fit, hl⟩
theorem rows_same {w : World} {a1 a2 : Option Addr} {c1 c2 : Nat} {rows : List (List Int)} (h1 : InR w a1 c1 rows) (h2 : InR w a2 c2 rows) : Calls Tryd.prog 27 #[.slice a1 rows.length c1, .slice a2 rows.length c2] w fun e w' => e = .returned (.bool true) ∧ ∃ n, w' = w.drewN n := by
  have h := srows_any c1 c2 a1 a2 rows rows w.heap.size w.heap.size w (by have := h1.len; omega) (by have := h1.len; omega) (fun k hk => by have := h1.lens k hk; omega) (fun k hk => by have := h1.lens k hk; omega) h1.lst h2.lst
  rw [decide_eq_true rfl] at h
  exact h
theorem two12 {v : Nat} (h : v ≤ 12) : 2 ^ v ≤ 4096 := by
  have : 2 ^ v ≤ 2 ^ 12 := Nat.pow_le_pow_right (by omega) h
  omega

set_option maxRecDepth 100000 in
set_option maxHeartbeats 4000000 in
theorem utotals_good (TO : TotAs) (RO : RndAs) (q : Nat) (a1 : Option Addr) (c1 : Nat) (rows : List (List Int)) (w : World) (hL : Laid w) (hT : TabAt 2 Lib.deBruijn64tab w) (h3 : 3 ≤ q) (h4 : q ≤ 2147483647) (hpr : Num.Prime q) (h1 : InR w a1 c1 rows) :
    Calls Tryd.prog 5 #[.int .i64 q, .slice a1 rows.length c1] w fun e w' => e = .returned (.bool true) ∧ Below w.heap.size w w' := by
  have HP := hid hpr
  have H1 := hid h1
  have HL := hid hL
  have HTB := hid hT
  have HTO := hid TO
  have HRO := hid RO
  have hln := h1.len
  clear hpr h1 hL hT TO RO
  obtain ⟨d, hd⟩ : ∃ d, d = rows.length := ⟨_, rfl⟩
  have HD := hid hd
  rw [← hd] at hln ⊢
  have HCP : Hid (∀ W, Below w.heap.size w W → Calls Tryd.prog 21 #[.slice a1 d c1] W fun e w' => ∃ v, e = .returned v ∧ OwnR W.heap.size w' v rows ∧ Below W.heap.size W w') := fun W h => by
    have := copied_any c1 a1 rows W (by have := H1.out.len; omega) (fun k hk => by have := H1.out.lens k hk; omega) (H1.out.below h).lst
    rw [← hd] at this
    exact this
  clear hd
  go_enter Tryd.func5, Tryd.ntmps5
  go_wp2_with fail
  refine (field_yes q w h3 h4 HP.out).mono ?_
  rintro e w1 ⟨rfl, hc, hb1, hs1⟩
  have HB1 := hid hb1
  have HI1 : Hid (InT q w.heap.size w1) := ⟨⟨HP.out, h3, h4, hc⟩, tabu_below HTB.out hb1⟩
  clear hc hb1
  go_wp2_with fail
  refine (HCP.out w1 HB1.out).mono ?_
  rintro e w2 ⟨v2, rfl, ho2, hb2⟩
  obtain ⟨ao, co, hv2, hr2⟩ := H1.out.own ho2
  rw [← HD.out] at hv2
  subst hv2
  have HB2 : Hid (Below w.heap.size w w2) := HB1.out.trans (hb2.mono HB1.out.size)
  have HO2 := hid hr2
  have HI2 := hid (HI1.out.below hb2)
  have HT2 : Hid (Calls Tryd.prog 22 #[.pointer (some ⟨w.heap.size, 0, none⟩), .slice ao d co] w2 fun e w' => e = .returned (.tuple #[.int .i64 (toz q rows), errz (toe rows)]) ∧ Below w2.heap.size w2 w') := by
    have h := HTO.out q w.heap.size co ao rows w2 HI2.out.toInF HO2.out
    rw [← HD.out] at h
    exact h
  clear ho2 hr2 hb2 HCP HI1 HB1
  go_wp2_with fail
  refine HT2.out.mono ?_
  rintro e w3 ⟨rfl, hb3⟩
  have HB3 : Hid (Below w.heap.size w w3) := HB2.out.trans (hb3.mono HB2.out.size)
  have HO3 := hid (HO2.out.below hb3)
  have HI3 := hid (HI2.out.below hb3)
  obtain ⟨X, hX⟩ : ∃ X, X = toz q rows := ⟨_, rfl⟩
  obtain ⟨E, hE⟩ : ∃ E, E = toe rows := ⟨_, rfl⟩
  have HXX := hid hX
  have HEE := hid hE
  rw [← hX, ← hE]
  obtain ⟨V, hV⟩ : ∃ V, V = ovr rows := ⟨_, rfl⟩
  have HVV := hid hV
  have HOV : Hid (Calls Tryd.prog 23 #[.slice a1 d c1] w3 fun e w' => e = .returned (.int .i64 V) ∧ ∃ n, w' = w3.drewN n) := by
    have h := rover_any c1 w3.heap.size a1 rows w3 (H1.out.below HB3.out).lst (by have := H1.out.len; omega)
    rw [← HD.out, ← hV] at h
    exact h
  clear hX hE hV hb3 HT2 HO2 HI2 HB2
  go_wp2_with fail
  refine HOV.out.mono ?_
  rintro e w4 ⟨rfl, n4, rfl⟩
  have HB4 : Hid (Below w.heap.size w (w3.drewN n4)) := below_drewN HB3.out n4
  have HO4 := hid (HO3.out.below (below_drewN (Below.refl _ _) n4))
  have HI4 := hid (HI3.out.below (below_drewN (Below.refl _ _) n4))
  clear HOV HO3 HI3 HB3
  generalize w3.drewN n4 = w5 at *
  have hXX : (X == X) = true := by simp
  by_cases hcs : V < 0
  · have t1 := hcs
    have HE0 : Hid (E = 2) := by unfold Hid; rw [HEE.out]; unfold toe; rw [if_neg (by rw [← HVV.out]; omega)]
    have HX0 : Hid (X = 0) := by unfold Hid; rw [HXX.out]; unfold toz; rw [if_neg (by rw [← HVV.out]; omega)]
    have HROE : Hid (roe q rows = 2) := by unfold Hid roe; rw [if_neg (by rw [← HVV.out]; omega)]
    have HROL : Hid (rol q rows = []) := by unfold Hid rol; rw [HROE.out]; rfl
    have t2 : (V == 0) = false := by simp; omega
    have HT5 := hid (told_any E 2 w5 (HL.out.below HB4.out))
    rw [HE0.out] at HT5 ⊢
    rw [HX0.out]
    clear hcs
    go_wp2_with fail
    refine HT5.out.mono ?_
    rintro e w6 ⟨rfl, hb6⟩
    have HB6 : Hid (Below w.heap.size w w6) := HB4.out.trans (hb6.mono HB4.out.size)
    have HO6 := hid (HO4.out.below hb6)
    have HI6 := hid (HI4.out.below hb6)
    have HR6 : Hid (Calls Tryd.prog 25 #[.pointer (some ⟨w.heap.size, 0, none⟩), .slice ao d co] w6 fun e w' => ∃ a' c', e = .returned (.tuple #[.slice a' (rol q rows).length c', errz (roe q rows)]) ∧ Lst w'.heap.size w' a' c' (rol q rows) ∧ Below w6.heap.size w6 w') := by
      have h := HRO.out q w.heap.size co ao rows w6 HI6.out HO6.out
      rw [← HD.out] at h
      exact h
    rw [HROE.out, HROL.out] at HR6
    clear hb6 HT5 HO4 HI4 HB4
    go_wp2_with fail
    refine HR6.out.mono ?_
    rintro e w7 ⟨al, cl, rfl, hl7, hb7⟩
    have HB7 : Hid (Below w.heap.size w w7) := HB6.out.trans (hb7.mono HB6.out.size)
    have HO7 := hid (HO6.out.below hb7)
    have HL7 := hid hl7
    clear hl7 hb7 HR6 HO6 HI6 HB6
    have HT8 := hid (told_any 2 2 w7 (HL.out.below HB7.out))
    go_wp2_with fail
    refine HT8.out.mono ?_
    rintro e w9 ⟨rfl, hb9⟩
    have HB9 : Hid (Below w.heap.size w w9) := HB7.out.trans (hb9.mono HB7.out.size)
    have HI9 := hid (ints_same w9.heap.size w9.heap.size [] al none cl 0 w9 (fun k hk => by simp at hk) (fun k hk => by simp at hk) (by simp))
    have HO9 := hid (HO7.out.below hb9)
    clear hb9 HT8
    go_wp2_with fail
    refine HI9.out.mono ?_
    rintro e w10 ⟨rfl, n10, rfl⟩
    have HB10 : Hid (Below w.heap.size w (w9.drewN n10)) := below_drewN HB9.out n10
    have HI10 : Hid (Calls Tryd.prog 27 #[.slice ao d co, .slice a1 d c1] (w9.drewN n10) fun e w' => e = .returned (.bool true) ∧ ∃ k, w' = (w9.drewN n10).drewN k) := by
      have h := rows_same (HO9.out.below (below_drewN (Below.refl _ _) n10)) (H1.out.below HB10.out)
      rw [← HD.out] at h
      exact h
    clear HI9
    go_wp2_with fail
    refine HI10.out.mono ?_
    rintro e w11 ⟨rfl, n11, rfl⟩
    clear HI10
    go_wp2_with fail
    go_ret
    exact ⟨rfl, below_drewN HB9.out (n10 + n11)⟩
  by_cases hcs2 : V = 0
  · have hcs := hcs2
    have HOK : Hid (∃ v : Nat, v ≤ 12 ∧ ovr rows = v ∧ 1 ≤ rows.length ∧ rows.length ≤ 4 ∧ ∀ k, k < rows.length → (rat rows k).length = 2 ^ v) := ovr_of (by rw [← HVV.out]; omega)
    have HE0 : Hid (E = 0) := by unfold Hid; rw [HEE.out]; unfold toe; rw [if_pos (by rw [← HVV.out]; omega)]
    have HX0 : Hid (X = totz q rows) := by unfold Hid; rw [HXX.out]; unfold toz; rw [if_pos (by rw [← HVV.out]; omega)]
    have t1 : ¬ V < 0 := by omega
    have HROE : Hid (roe q rows = 2) := by unfold Hid roe; rw [if_neg (by rw [← HVV.out]; omega)]
    have HROL : Hid (rol q rows = []) := by unfold Hid rol; rw [HROE.out]; rfl
    have t2 : (V == 0) = true := by simp [hcs2]
    clear hcs2
    have HT5 := hid (told_any E 0 w5 (HL.out.below HB4.out))
    rw [HE0.out] at HT5 ⊢
    have HRT : Hid (Calls Tryd.prog 24 #[.int .i64 q, .slice a1 d c1] w5 fun e w' => e = .returned (.int .i64 X) ∧ w' = w5) := by
      obtain ⟨v, e1, e2, e3, e4, e5⟩ := HOK.out
      have h := rtotal_any q c1 w5.heap.size (2 ^ v) a1 rows w5 h3 h4 e3 (by omega) e5 (by have := two12 e1; omega) H1.out.fit (H1.out.below HB4.out).lst
      rw [← HD.out] at h
      rw [HX0.out]
      exact h
    clear hcs
    go_wp2_with fail
    refine HRT.out.mono ?_
    rintro e w5' ⟨rfl, rfl⟩
    clear HRT
    go_wp2_with fail
    refine HT5.out.mono ?_
    rintro e w6 ⟨rfl, hb6⟩
    have HB6 : Hid (Below w.heap.size w w6) := HB4.out.trans (hb6.mono HB4.out.size)
    have HO6 := hid (HO4.out.below hb6)
    have HI6 := hid (HI4.out.below hb6)
    have HR6 : Hid (Calls Tryd.prog 25 #[.pointer (some ⟨w.heap.size, 0, none⟩), .slice ao d co] w6 fun e w' => ∃ a' c', e = .returned (.tuple #[.slice a' (rol q rows).length c', errz (roe q rows)]) ∧ Lst w'.heap.size w' a' c' (rol q rows) ∧ Below w6.heap.size w6 w') := by
      have h := HRO.out q w.heap.size co ao rows w6 HI6.out HO6.out
      rw [← HD.out] at h
      exact h
    rw [HROE.out, HROL.out] at HR6
    clear hb6 HT5 HO4 HI4 HB4
    go_wp2_with fail
    refine HR6.out.mono ?_
    rintro e w7 ⟨al, cl, rfl, hl7, hb7⟩
    have HB7 : Hid (Below w.heap.size w w7) := HB6.out.trans (hb7.mono HB6.out.size)
    have HO7 := hid (HO6.out.below hb7)
    have HL7 := hid hl7
    clear hl7 hb7 HR6 HO6 HI6 HB6
    have HT8 := hid (told_any 2 2 w7 (HL.out.below HB7.out))
    go_wp2_with fail
    refine HT8.out.mono ?_
    rintro e w9 ⟨rfl, hb9⟩
    have HB9 : Hid (Below w.heap.size w w9) := HB7.out.trans (hb9.mono HB7.out.size)
    have HI9 := hid (ints_same w9.heap.size w9.heap.size [] al none cl 0 w9 (fun k hk => by simp at hk) (fun k hk => by simp at hk) (by simp))
    have HO9 := hid (HO7.out.below hb9)
    clear hb9 HT8
    go_wp2_with fail
    refine HI9.out.mono ?_
    rintro e w10 ⟨rfl, n10, rfl⟩
    have HB10 : Hid (Below w.heap.size w (w9.drewN n10)) := below_drewN HB9.out n10
    have HI10 : Hid (Calls Tryd.prog 27 #[.slice ao d co, .slice a1 d c1] (w9.drewN n10) fun e w' => e = .returned (.bool true) ∧ ∃ k, w' = (w9.drewN n10).drewN k) := by
      have h := rows_same (HO9.out.below (below_drewN (Below.refl _ _) n10)) (H1.out.below HB10.out)
      rw [← HD.out] at h
      exact h
    clear HI9
    go_wp2_with fail
    refine HI10.out.mono ?_
    rintro e w11 ⟨rfl, n11, rfl⟩
    clear HI10
    go_wp2_with fail
    go_ret
    exact ⟨rfl, below_drewN HB9.out (n10 + n11)⟩
  have t2 : (V == 0) = false := by simp [hcs2]
  by_cases hcs3 : d < q
  · have HOK : Hid (∃ v : Nat, v ≤ 12 ∧ ovr rows = v ∧ 1 ≤ rows.length ∧ rows.length ≤ 4 ∧ ∀ k, k < rows.length → (rat rows k).length = 2 ^ v) := ovr_of (by rw [← HVV.out]; omega)
    have HE0 : Hid (E = 0) := by unfold Hid; rw [HEE.out]; unfold toe; rw [if_pos (by rw [← HVV.out]; omega)]
    have HX0 : Hid (X = totz q rows) := by unfold Hid; rw [HXX.out]; unfold toz; rw [if_pos (by rw [← HVV.out]; omega)]
    have t1 : ¬ V < 0 := by omega
    have HROE : Hid (roe q rows = 0) := by unfold Hid roe; rw [if_pos (by rw [← HVV.out]; omega), if_pos (by rw [← HD.out]; exact hcs3)]
    have HROL : Hid (rol q rows = rndl q rows) := by unfold Hid rol; rw [HROE.out]; rfl
    have t3 : ¬ (d : Int) ≥ (q : Int) := by omega
    have HRLN : Hid ((rndl q rows).length ≤ 5) := by unfold Hid; rw [rndl_len]; obtain ⟨_, _, _, _, e4, _⟩ := HOK.out; omega
    have HRND : Hid (∀ W, Below w.heap.size w W → Calls Tryd.prog 26 #[.int .i64 q, .slice a1 d c1] W fun e w' => ∃ v, e = .returned v ∧ w'.ownsRow W.heap.size 3 1 v (rndl q rows).length ((rndl q rows).map (Value.int .i64)) ∧ Below W.heap.size W w') := fun W h => by
      obtain ⟨v, e1, e2, e3, e4, e5⟩ := HOK.out
      have h := rround_any q c1 (2 ^ v) a1 rows W h3 h4 e3 (by omega) e5 (by have := two12 e1; omega) H1.out.fit (H1.out.below h).lst
      rw [← HD.out] at h
      exact h
    clear hcs2 hcs3
    have HT5 := hid (told_any E 0 w5 (HL.out.below HB4.out))
    rw [HE0.out] at HT5 ⊢
    have HRT : Hid (Calls Tryd.prog 24 #[.int .i64 q, .slice a1 d c1] w5 fun e w' => e = .returned (.int .i64 X) ∧ w' = w5) := by
      obtain ⟨v, e1, e2, e3, e4, e5⟩ := HOK.out
      have h := rtotal_any q c1 w5.heap.size (2 ^ v) a1 rows w5 h3 h4 e3 (by omega) e5 (by have := two12 e1; omega) H1.out.fit (H1.out.below HB4.out).lst
      rw [← HD.out] at h
      rw [HX0.out]
      exact h
    clear hcs
    go_wp2_with fail
    refine HRT.out.mono ?_
    rintro e w5' ⟨rfl, rfl⟩
    clear HRT
    go_wp2_with fail
    refine HT5.out.mono ?_
    rintro e w6 ⟨rfl, hb6⟩
    have HB6 : Hid (Below w.heap.size w w6) := HB4.out.trans (hb6.mono HB4.out.size)
    have HO6 := hid (HO4.out.below hb6)
    have HI6 := hid (HI4.out.below hb6)
    have HR6 : Hid (Calls Tryd.prog 25 #[.pointer (some ⟨w.heap.size, 0, none⟩), .slice ao d co] w6 fun e w' => ∃ a' c', e = .returned (.tuple #[.slice a' (rol q rows).length c', errz (roe q rows)]) ∧ Lst w'.heap.size w' a' c' (rol q rows) ∧ Below w6.heap.size w6 w') := by
      have h := HRO.out q w.heap.size co ao rows w6 HI6.out HO6.out
      rw [← HD.out] at h
      exact h
    rw [HROE.out, HROL.out] at HR6
    clear hb6 HT5 HO4 HI4 HB4
    generalize rndl q rows = R at *
    go_wp2_with fail
    refine HR6.out.mono ?_
    rintro e w7 ⟨al, cl, rfl, hl7, hb7⟩
    have HB7 : Hid (Below w.heap.size w w7) := HB6.out.trans (hb7.mono HB6.out.size)
    have HO7 := hid (HO6.out.below hb7)
    have HL7 := hid hl7
    clear hl7 hb7 HR6 HO6 HI6 HB6
    have HRR := hid (HRND.out w7 HB7.out)
    go_wp2_with fail
    refine HRR.out.mono ?_
    rintro e w8 ⟨v8, rfl, ho8, hb8⟩
    obtain ⟨a8, c8, hv8, hl8⟩ := lst_of_owns ho8
    subst hv8
    have HB8 : Hid (Below w.heap.size w w8) := HB7.out.trans (hb8.mono HB7.out.size)
    have HO8 := hid (HO7.out.below hb8)
    have HL8 := hid ((HL7.out.below hb8).mono hb8.size)
    have HM8 := hid hl8
    clear ho8 hb8 hl8 HRR
    have HT8 := hid (told_any 0 0 w8 (HL.out.below HB8.out))
    go_wp2_with fail
    refine HT8.out.mono ?_
    rintro e w9 ⟨rfl, hb9⟩
    have HB9 : Hid (Below w.heap.size w w9) := HB8.out.trans (hb9.mono HB8.out.size)
    have HI9 := hid (ints_same w9.heap.size w9.heap.size R al a8 cl c8 w9 ((HL8.out.below hb9).mono hb9.size).row ((HM8.out.below hb9).mono hb9.size).row (by have := HRLN.out; omega))
    have HO9 := hid (HO8.out.below hb9)
    clear hb9 HT8
    go_wp2_with fail
    refine HI9.out.mono ?_
    rintro e w10 ⟨rfl, n10, rfl⟩
    have HB10 : Hid (Below w.heap.size w (w9.drewN n10)) := below_drewN HB9.out n10
    have HI10 : Hid (Calls Tryd.prog 27 #[.slice ao d co, .slice a1 d c1] (w9.drewN n10) fun e w' => e = .returned (.bool true) ∧ ∃ k, w' = (w9.drewN n10).drewN k) := by
      have h := rows_same (HO9.out.below (below_drewN (Below.refl _ _) n10)) (H1.out.below HB10.out)
      rw [← HD.out] at h
      exact h
    clear HI9
    go_wp2_with fail
    refine HI10.out.mono ?_
    rintro e w11 ⟨rfl, n11, rfl⟩
    clear HI10
    go_wp2_with fail
    go_ret
    exact ⟨rfl, below_drewN HB9.out (n10 + n11)⟩
  · have HOK : Hid (∃ v : Nat, v ≤ 12 ∧ ovr rows = v ∧ 1 ≤ rows.length ∧ rows.length ≤ 4 ∧ ∀ k, k < rows.length → (rat rows k).length = 2 ^ v) := ovr_of (by rw [← HVV.out]; omega)
    have HE0 : Hid (E = 0) := by unfold Hid; rw [HEE.out]; unfold toe; rw [if_pos (by rw [← HVV.out]; omega)]
    have HX0 : Hid (X = totz q rows) := by unfold Hid; rw [HXX.out]; unfold toz; rw [if_pos (by rw [← HVV.out]; omega)]
    have t1 : ¬ V < 0 := by omega
    have HROE : Hid (roe q rows = 3) := by unfold Hid roe; rw [if_pos (by rw [← HVV.out]; omega), if_neg (by rw [← HD.out]; exact hcs3)]
    have HROL : Hid (rol q rows = []) := by unfold Hid rol; rw [HROE.out]; rfl
    have t3 : (d : Int) ≥ (q : Int) := by omega
    clear hcs2 hcs3
    have HT5 := hid (told_any E 0 w5 (HL.out.below HB4.out))
    rw [HE0.out] at HT5 ⊢
    have HRT : Hid (Calls Tryd.prog 24 #[.int .i64 q, .slice a1 d c1] w5 fun e w' => e = .returned (.int .i64 X) ∧ w' = w5) := by
      obtain ⟨v, e1, e2, e3, e4, e5⟩ := HOK.out
      have h := rtotal_any q c1 w5.heap.size (2 ^ v) a1 rows w5 h3 h4 e3 (by omega) e5 (by have := two12 e1; omega) H1.out.fit (H1.out.below HB4.out).lst
      rw [← HD.out] at h
      rw [HX0.out]
      exact h
    clear hcs
    go_wp2_with fail
    refine HRT.out.mono ?_
    rintro e w5' ⟨rfl, rfl⟩
    clear HRT
    go_wp2_with fail
    refine HT5.out.mono ?_
    rintro e w6 ⟨rfl, hb6⟩
    have HB6 : Hid (Below w.heap.size w w6) := HB4.out.trans (hb6.mono HB4.out.size)
    have HO6 := hid (HO4.out.below hb6)
    have HI6 := hid (HI4.out.below hb6)
    have HR6 : Hid (Calls Tryd.prog 25 #[.pointer (some ⟨w.heap.size, 0, none⟩), .slice ao d co] w6 fun e w' => ∃ a' c', e = .returned (.tuple #[.slice a' (rol q rows).length c', errz (roe q rows)]) ∧ Lst w'.heap.size w' a' c' (rol q rows) ∧ Below w6.heap.size w6 w') := by
      have h := HRO.out q w.heap.size co ao rows w6 HI6.out HO6.out
      rw [← HD.out] at h
      exact h
    rw [HROE.out, HROL.out] at HR6
    clear hb6 HT5 HO4 HI4 HB4
    go_wp2_with fail
    refine HR6.out.mono ?_
    rintro e w7 ⟨al, cl, rfl, hl7, hb7⟩
    have HB7 : Hid (Below w.heap.size w w7) := HB6.out.trans (hb7.mono HB6.out.size)
    have HO7 := hid (HO6.out.below hb7)
    have HL7 := hid hl7
    clear hl7 hb7 HR6 HO6 HI6 HB6
    have HT8 := hid (told_any 3 3 w7 (HL.out.below HB7.out))
    go_wp2_with fail
    refine HT8.out.mono ?_
    rintro e w9 ⟨rfl, hb9⟩
    have HB9 : Hid (Below w.heap.size w w9) := HB7.out.trans (hb9.mono HB7.out.size)
    have HI9 := hid (ints_same w9.heap.size w9.heap.size [] al none cl 0 w9 (fun k hk => by simp at hk) (fun k hk => by simp at hk) (by simp))
    have HO9 := hid (HO7.out.below hb9)
    clear hb9 HT8
    go_wp2_with fail
    refine HI9.out.mono ?_
    rintro e w10 ⟨rfl, n10, rfl⟩
    have HB10 : Hid (Below w.heap.size w (w9.drewN n10)) := below_drewN HB9.out n10
    have HI10 : Hid (Calls Tryd.prog 27 #[.slice ao d co, .slice a1 d c1] (w9.drewN n10) fun e w' => e = .returned (.bool true) ∧ ∃ k, w' = (w9.drewN n10).drewN k) := by
      have h := rows_same (HO9.out.below (below_drewN (Below.refl _ _) n10)) (H1.out.below HB10.out)
      rw [← HD.out] at h
      exact h
    clear HI9
    go_wp2_with fail
    refine HI10.out.mono ?_
    rintro e w11 ⟨rfl, n11, rfl⟩
    clear HI10
    go_wp2_with fail
    go_ret
    exact ⟨rfl, below_drewN HB9.out (n10 + n11)⟩

set_option maxRecDepth 100000 in
theorem utotals_walk (TO : TotAs) (RO : RndAs) (p : Int) (a1 : Option Addr) (c1 : Nat) (rows : List (List Int)) (w : World) (hL : Laid w) (hT : TabAt 2 Lib.deBruijn64tab w) (hp1 : -9223372036854775808 ≤ p) (hp2 : p ≤ 9223372036854775807)
    (hr1 : rows.length ≤ 5864062014634 ∧ ∀ k, k < rows.length → (rat rows k).length ≤ 17592186043904) (hf1 : ∀ k, k < rows.length → Fits (rat rows k)) (hl1 : LstR w.heap.size w a1 c1 rows) :
    Calls Tryd.prog 5 #[.int .i64 p, .slice a1 rows.length c1] w fun e w' => e = .returned (.bool true) ∧ Below w.heap.size w w' := by
  by_cases hg : okPrime p
  · obtain ⟨hq3, hq4, hqp⟩ := hg
    obtain ⟨q, rfl⟩ := Int.eq_ofNat_of_zero_le (show 0 ≤ p by omega)
    exact utotals_good TO RO q a1 c1 rows w hL hT (by omega) (by omega) (by simpa using hqp) ⟨hr1.1, hr1.2, hf1, hl1⟩
  · clear hr1 hf1 hl1 TO RO
    go_enter Tryd.func5, Tryd.ntmps5
    go_wp2_with fail
    refine (field_no p w hL hg hp1 hp2).mono ?_
    rintro e w1 ⟨rfl, hb1⟩
    go_wp2_with fail
    go_ret
    exact ⟨rfl, hb1⟩

end Go.Proofs.YtecaifjbmfianafDoor
