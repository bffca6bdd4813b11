/- The law RulesSame answers true: products tell pairs apart. -/
import Derived.Test.YthemehdcakimgakDoorRuB
import Derived.Test.YthemehdcakimgakDoorRuF
namespace Go.Proofs.YthemehdcakimgakDoor
open Go.RowKit

theorem nbc_take {q : Nat} {y : Int} {L : List (Int × Int)} {k : Nat} (h : k < L.length) : nbc q y (L.take (k + 1)) = nbc q y (L.take k) ++ [(nb q y (cat L k), 0)] := by
  rw [take_cat h]; simp [nbc]

set_option maxRecDepth 100000 in
set_option maxHeartbeats 4000000 in
theorem rsame_walk (p y : Int) (a1 a2 a3 : Option Addr) (c1 c2 c3 : Nat) (L M : List (Int × Int)) (xs : List Int) (w : World) (hLd : Laid w) (hp1 : -9223372036854775808 ≤ p) (hp2 : p ≤ 9223372036854775807)
    (hl1 : L.length ≤ 8796093021952) (hl2 : M.length ≤ 8796093021952) (hl3 : xs.length ≤ 17592186043904) (hy1 : -9223372036854775808 ≤ y) (hy2 : y ≤ 9223372036854775807)
    (hL : LstC w.heap.size w a1 c1 L) (hM : LstC w.heap.size w a2 c2 M) (hX : RowB w.heap.size w a3 xs) (hB : CelB L) (hC : CelB M) (hF : Fits xs) :
    Calls Tryd.prog 4 #[.int .i64 p, .slice a1 L.length c1, .slice a2 M.length c2, .slice a3 xs.length c3, .int .i64 y] w fun e w' => e = .returned (.bool true) ∧ Below w.heap.size w w' := by
  by_cases hok : okPrime p
  · obtain ⟨q, rfl⟩ := Int.eq_ofNat_of_zero_le (show 0 ≤ p by have := hok.1; omega)
    obtain ⟨hq3, hq4, hqp⟩ := hok
    rw [Int.toNat_natCast] at hqp
    have h3 : 3 ≤ q := by omega
    have h4 : q ≤ 2147483647 := by omega
    have HP := hid hqp
    have HL0 := hid hL
    have HM0 := hid hM
    have HX0 := hid hX
    have HB := hid hB
    have HC := hid hC
    have HF := hid hF
    obtain ⟨n, hn⟩ : ∃ n, n = L.length := ⟨_, rfl⟩
    obtain ⟨m, hm⟩ : ∃ m, m = M.length := ⟨_, rfl⟩
    obtain ⟨k, hk⟩ : ∃ k, k = xs.length := ⟨_, rfl⟩
    have HN := hid hn
    have HM' := hid hm
    have HK := hid hk
    rw [← hn] at hl1 ⊢
    rw [← hm] at hl2 ⊢
    rw [← hk] at hl3 ⊢
    clear hqp hLd hL hM hX hB hC hF hq3 hq4 hp1 hp2 hn hm hk
    go_enter Tryd.func4, Tryd.ntmps4
    go_wp2_with fail
    refine (field_yes q w h3 h4 HP.out).mono ?_
    rintro e w1 ⟨rfl, hc1, hb1, hlt1⟩
    obtain ⟨fb, hfb⟩ : ∃ fb, fb = w.heap.size := ⟨_, rfl⟩
    have HB1 := hid hb1
    have HFB := hid hfb
    rw [← hfb] at hc1 hlt1 ⊢
    have HC1 := hid hc1
    have HL := hid ((HL0.out.below hb1).mono hb1.size)
    have HM := hid ((HM0.out.below hb1).mono hb1.size)
    have HX := hid ((HX0.out.below hb1).mono hb1.size)
    clear hc1 hb1 HL0 HM0 HX0 hfb
    go_wp2_with fail
    go_loopw [13, 15, 16] (fun uv iv _ wr => ∃ i : Nat, i ≤ n ∧ iv = .int .i64 i ∧ Hid (CelR w1.heap.size wr uv (nbc q y (L.take i))) ∧ Hid (Below w1.heap.size w1 wr)) (fun _ iv _ _ => n - (intOf iv).toNat)
    case atStart => exact ⟨0, Nat.zero_le _, rfl, World.ownsRow_nil _ _ _ _, Below.refl _ _⟩
    case round =>
      obtain ⟨i, hi, rfl, HU, HBr⟩ := hrel
      by_cases hlt : i < n
      · have hlt2 : (i : Int) < (n : Int) := by omega
        have his : IntKind.i64.wrap ((i : Int) + 1) = (i : Int) + 1 := by rw [IntKind.wrap_i64]; omega
        obtain ⟨g, o, rfl, hg, k0, k1⟩ := HL.out.row i (by have := HN.out; omega)
        replace k0 := (HBr.out.cell (p := ⟨g, o + i * 2, none⟩) hg).trans k0
        replace k1 := (HBr.out.cell (p := ⟨g, o + i * 2 + 1, none⟩) hg).trans k1
        have HNu := hid (rnumber_any q (cat L i) y wr h3 h4 (HB.out i (by have := HN.out; omega)) hy1 hy2)
        have HT : Hid (nbc q y (L.take (i + 1)) = nbc q y (L.take i) ++ [(nb q y (cat L i), 0)]) := nbc_take (by have := HN.out; omega)
        have HLN : Hid ((nbc q y (L.take i)).length ≤ 8796093021951) := by
          unfold Hid
          rw [nbc_len, List.length_take]
          omega
        generalize nb q y (cat L i) = nn at *
        generalize (cat L i).1 = z0 at *
        generalize (cat L i).2 = z1 at *
        go_wp2_with fail
        refine HNu.out.mono ?_
        rintro e w2 ⟨rfl, hb2⟩
        have HU2 := hid (CelR.belowB HU.out hb2 (Nat.le_refl _))
        have HB2 := hid (HBr.out.trans (hb2.mono HBr.out.size))
        clear hb2 HNu k0 k1 HU HBr
        go_wp2_with (at_builtin; refine wpList_celB w2 rfl _ _ rfl _ w1.heap.size _ nn 0 HU2.out rfl rfl (by have := HLN.out; omega) HB2.out.size ?_)
        intro v' w3 hc3 hb3 _
        have HU3 := hid hc3
        have HB3 := hid (HB2.out.trans hb3)
        clear hc3 hb3 HU2 HB2
        go_wp2_with fail
        go_roundw
        case rel => exact ⟨i + 1, by omega, by go_num, by unfold Hid; rw [HT.out]; exact HU3.out, HB3⟩
        case measure => simp [intOf]; omega
      · obtain rfl : i = n := by omega
        have hlt2 : ¬ (i : Int) < (i : Int) := by omega
        rw [HN.out, List.take_length] at HU
        have HUL : Hid ((nbc q y L).length ≤ 8796093021952) := by unfold Hid; rw [nbc_len, ← HN.out]; exact hl1
        obtain ⟨wo, rfl⟩ : ∃ wo, wo = wr := ⟨_, rfl⟩
        go_wp2_with fail
        go_loopw [14, 17, 18] (fun uv iv _ wr' => ∃ j : Nat, j ≤ m ∧ iv = .int .i64 j ∧ Hid (CelR wo.heap.size wr' uv (nbc q y (M.take j))) ∧ Hid (Below wo.heap.size wo wr')) (fun _ iv _ _ => m - (intOf iv).toNat)
        case atStart => exact ⟨0, Nat.zero_le _, rfl, World.ownsRow_nil _ _ _ _, Below.refl _ _⟩
        case round =>
          obtain ⟨j, hj, rfl, HV, HBs⟩ := hrel
          have HBt := hid (HBr.out.trans (HBs.out.mono HBr.out.size))
          by_cases hlt : j < m
          · have hlt2 : (j : Int) < (m : Int) := by omega
            have his : IntKind.i64.wrap ((j : Int) + 1) = (j : Int) + 1 := by rw [IntKind.wrap_i64]; omega
            obtain ⟨g, o, rfl, hg, k0, k1⟩ := HM.out.row j (by have := HM'.out; omega)
            replace k0 := (HBt.out.cell (p := ⟨g, o + j * 2, none⟩) hg).trans k0
            replace k1 := (HBt.out.cell (p := ⟨g, o + j * 2 + 1, none⟩) hg).trans k1
            have HNu := hid (rnumber_any q (cat M j) y wr h3 h4 (HC.out j (by have := HM'.out; omega)) hy1 hy2)
            have HT : Hid (nbc q y (M.take (j + 1)) = nbc q y (M.take j) ++ [(nb q y (cat M j), 0)]) := nbc_take (by have := HM'.out; omega)
            have HLN : Hid ((nbc q y (M.take j)).length ≤ 8796093021951) := by
              unfold Hid
              rw [nbc_len, List.length_take]
              omega
            generalize nb q y (cat M j) = nn at *
            generalize (cat M j).1 = z0 at *
            generalize (cat M j).2 = z1 at *
            go_wp2_with fail
            refine HNu.out.mono ?_
            rintro e w2 ⟨rfl, hb2⟩
            have HU2 := hid (CelR.belowB HV.out hb2 (Nat.le_refl _))
            have HB2 := hid (HBs.out.trans (hb2.mono HBs.out.size))
            clear hb2 HNu k0 k1 HV HBs HBt
            go_wp2_with (at_builtin; refine wpList_celB w2 rfl _ _ rfl _ wo.heap.size _ nn 0 HU2.out rfl rfl (by have := HLN.out; omega) HB2.out.size ?_)
            intro v' w3 hc3 hb3 _
            have HU3 := hid hc3
            have HB3 := hid (HB2.out.trans hb3)
            clear hc3 hb3 HU2 HB2
            go_wp2_with fail
            go_roundw
            case rel => exact ⟨j + 1, by omega, by go_num, by unfold Hid; rw [HT.out]; exact HU3.out, HB3⟩
            case measure => simp [intOf]; omega
          · obtain rfl : j = m := by omega
            have hlt2 : ¬ (j : Int) < (j : Int) := by omega
            rw [HM'.out, List.take_length] at HV
            have HVL : Hid ((nbc q y M).length ≤ 8796093021952) := by unfold Hid; rw [nbc_len, ← HM'.out]; exact hl2
            have HU' := hid (CelR.belowB HU.out HBs.out (Nat.le_refl _))
            obtain ⟨au, cu, rfl, hlu⟩ := lstC_of_owns HU'.out
            obtain ⟨av, cv, rfl, hlv⟩ := lstC_of_owns HV.out
            have HEA := hid (reach8_any cu cv au av (nbc q y L) (nbc q y M) wr (by have := HUL.out; omega) hlu (by have := HVL.out; omega) hlv)
            obtain ⟨ea, hea⟩ : ∃ ea, ea = decide ((nbc q y L).Perm (nbc q y M)) := ⟨_, rfl⟩
            have HEQ := hid hea
            rw [← hea] at HEA
            clear hlu hlv hea HU' HU HV HUL HVL HBs hlt hj
            generalize (nbc q y L).length = nu at *
            generalize (nbc q y M).length = nv at *
            go_wp2_with fail
            refine HEA.out.mono ?_
            rintro e w2 ⟨rfl, hb2⟩
            have HB2 := hid (HBt.out.trans (hb2.mono HBt.out.size))
            clear HEA HBt hb2 HBr
            go_wp2_with fail
            go_loopw [20, 21, 22, 23, 24] (fun ev iv _ _ _ wr' => ∃ (t : Nat) (ok : Bool), t ≤ k ∧ iv = .int .i64 t ∧ ev = .bool ok ∧ Hid (ok = true → ∀ u, u < t → prd q (zat xs u) y L L.length = prd q (zat xs u) y M M.length) ∧ Hid (Below w1.heap.size w1 wr')) (fun _ iv _ _ _ _ => k - (intOf iv).toNat)
            case atStart => exact ⟨0, true, Nat.zero_le _, rfl, rfl, fun _ u hu => by omega, HB2⟩
            case round =>
              obtain ⟨t, ok, ht, rfl, rfl, HS, HBr⟩ := hrel
              by_cases hlt : t < k
              · have hlt2 : (t : Int) < (k : Int) := by omega
                have his : IntKind.i64.wrap ((t : Int) + 1) = (t : Int) + 1 := by rw [IntKind.wrap_i64]; omega
                obtain ⟨g, o, rfl, hg, k0⟩ := HX.out t (by have := HK.out; omega)
                have hfx := HF.out t (by have := HK.out; omega)
                have HXC : Hid (∀ W, Below w1.heap.size w1 W → W.cell? ⟨g, o + t, none⟩ = some (.int .i64 (zat xs t))) := fun W h => (h.cell (p := ⟨g, o + t, none⟩) hg).trans k0
                have x0 := HXC.out wr HBr.out
                have HSA : Hid (Calls Tryd.prog 15 #[.pointer (some ⟨fb, 0, none⟩), .slice a1 i c1, .slice a2 j c2, .int .i64 (zat xs t), .int .i64 y] wr fun e w' => e = .returned (.bool (prd q (zat xs t) y L L.length == prd q (zat xs t) y M M.length)) ∧ Below w1.heap.size w1 w') := by
                  unfold Hid
                  have h := psame_any q fb c1 c2 a1 a2 L M (zat xs t) y wr h3 h4 ((HBr.out.cell (p := ⟨fb, 0, none⟩) hlt1).trans HC1.out) hfx.1 hfx.2 hy1 hy2 (by rw [← HN.out]; omega) ((HL.out.below HBr.out).mono HBr.out.size) HB.out (by rw [← HM'.out]; omega) ((HM.out.below HBr.out).mono HBr.out.size) HC.out
                  rw [← HN.out, ← HM'.out] at h ⊢
                  exact h.mono fun e w' ⟨h1, h2⟩ => ⟨h1, HBr.out.trans (h2.mono HBr.out.size)⟩
                have HMA : Hid (∀ W, Below w1.heap.size w1 W → Calls Tryd.prog 16 #[.int .i64 q, .slice a1 i c1, .int .i64 (zat xs t), .int .i64 y] W fun e w' => e = .returned (.int .i64 (prd q (zat xs t) y L L.length)) ∧ Below w1.heap.size w1 w') := fun W hW => by
                  have h := rmake_any q c1 a1 L (zat xs t) y W h3 h4 hfx.1 hfx.2 hy1 hy2 (by rw [← HN.out]; omega) ((HL.out.below hW).mono hW.size) HB.out
                  rw [← HN.out] at h ⊢
                  exact h.mono fun e w' ⟨h1, h2⟩ => ⟨h1, hW.trans (h2.mono hW.size)⟩
                have HMB : Hid (∀ W, Below w1.heap.size w1 W → Calls Tryd.prog 16 #[.int .i64 q, .slice a2 j c2, .int .i64 (zat xs t), .int .i64 y] W fun e w' => e = .returned (.int .i64 (prd q (zat xs t) y M M.length)) ∧ Below w1.heap.size w1 w') := fun W hW => by
                  have h := rmake_any q c2 a2 M (zat xs t) y W h3 h4 hfx.1 hfx.2 hy1 hy2 (by rw [← HM'.out]; omega) ((HM.out.below hW).mono hW.size) HC.out
                  rw [← HM'.out] at h ⊢
                  exact h.mono fun e w' ⟨h1, h2⟩ => ⟨h1, hW.trans (h2.mono hW.size)⟩
                have HSE : Hid (ea = true → prd q (zat xs t) y L L.length = prd q (zat xs t) y M M.length) := fun h => by
                  rw [HEQ.out] at h
                  exact prd_same h3 (of_decide_eq_true h)
                have HNX : Hid (∀ b : Bool, (b = true → prd q (zat xs t) y L L.length = prd q (zat xs t) y M M.length) → ((ok && b) = true → ∀ u, u < t + 1 → prd q (zat xs u) y L L.length = prd q (zat xs u) y M M.length)) := fun b hb h u hu => by
                  rw [Bool.and_eq_true] at h
                  by_cases e : u = t
                  · subst e; exact hb h.2
                  · exact HS.out h.1 u (by omega)
                generalize prd q (zat xs t) y L L.length = r0 at *
                generalize prd q (zat xs t) y M M.length = r1 at *
                generalize zat xs t = x at *
                clear k0 HS hfx
                by_cases hr : r0 = r1
                · subst hr
                  have hbq : (r0 == r0) = true := by simp
                  have HN1 := hid (HNX.out true (fun _ => rfl))
                  clear HNX HSE
                  rw [hbq] at HSA
                  go_wp2_with fail
                  refine HSA.out.mono ?_
                  rintro e w3 ⟨rfl, hb3⟩
                  have x1 := HXC.out w3 hb3
                  have HMA3 := hid (HMA.out w3 hb3)
                  clear hb3 HSA x0
                  go_wp2_with fail
                  refine HMA3.out.mono ?_
                  rintro e w4 ⟨rfl, hb4⟩
                  have x2 := HXC.out w4 hb4
                  have HMB3 := hid (HMB.out w4 hb4)
                  clear hb4 HMA3 x1
                  go_wp2_with fail
                  refine HMB3.out.mono ?_
                  rintro e w5 ⟨rfl, hb5⟩
                  have HB5 := hid hb5
                  clear hb5 HMB3 x2
                  cases ea <;> cases ok
                  all_goals
                    go_wp2_with fail
                    go_roundw
                    case rel => exact ⟨t + 1, _, by omega, by go_num, rfl, HN1, HB5⟩
                    case measure => simp [intOf]; omega
                · have hbq : (r0 == r1) = false := by simp [hr]
                  have HN1 := hid (HNX.out false (fun h => by cases h))
                  obtain rfl : ea = false := by
                    cases ea with
                    | false => rfl
                    | true => exact absurd (HSE.out rfl) hr
                  clear HNX HSE
                  rw [hbq] at HSA
                  go_wp2_with fail
                  refine HSA.out.mono ?_
                  rintro e w3 ⟨rfl, hb3⟩
                  have x1 := HXC.out w3 hb3
                  have HMA3 := hid (HMA.out w3 hb3)
                  clear hb3 HSA x0
                  go_wp2_with fail
                  refine HMA3.out.mono ?_
                  rintro e w4 ⟨rfl, hb4⟩
                  have x2 := HXC.out w4 hb4
                  have HMB3 := hid (HMB.out w4 hb4)
                  clear hb4 HMA3 x1
                  go_wp2_with fail
                  refine HMB3.out.mono ?_
                  rintro e w5 ⟨rfl, hb5⟩
                  have HB5 := hid hb5
                  clear hb5 HMB3 x2 hr
                  cases ok
                  all_goals
                    go_wp2_with fail
                    go_roundw
                    case rel => exact ⟨t + 1, _, by omega, by go_num, rfl, HN1, HB5⟩
                    case measure => simp [intOf]; omega
              · obtain rfl : t = k := by omega
                have hlt2 : ¬ (t : Int) < (t : Int) := by omega
                have HUN : Hid (Calls Tryd.prog 17 #[.int .i64 q, .slice a3 t c3] wr fun e w' => e = .returned (.bool (unlB q xs)) ∧ Below w.heap.size w w') := by
                  unfold Hid
                  have h := runlike_any q c3 a3 xs wr h3 h4 (by rw [← HK.out]; omega) HF.out ((HX.out.below HBr.out).mono HBr.out.size)
                  rw [← HK.out] at h
                  have hbb := HB1.out.trans (HBr.out.mono HB1.out.size)
                  exact h.mono fun e w' ⟨h1, h2⟩ => ⟨h1, hbb.trans (h2.mono hbb.size)⟩
                have HTL : Hid (ea = false → i = j → i ≤ t → unlB q xs = true → ok = false) := fun h1 h2 h3' h4' => by
                  cases ok with
                  | false => rfl
                  | true =>
                    exfalso
                    rw [HEQ.out] at h1
                    refine of_decide_eq_false h1 (prd_tell (xs := xs) HP.out h3 (by rw [← HN.out, ← HM'.out]; exact h2) (by rw [← HN.out, ← HK.out]; exact h3') ?_ (fun u hu => HS.out rfl u (by rw [HK.out]; exact hu)))
                    by_cases hU : Unl q (zat xs) xs.length
                    · exact hU
                    · rw [unlB_no hU] at h4'; cases h4'
                generalize unlB q xs = un at *
                clear HS
                go_wp2_with fail
                refine HUN.out.mono ?_
                rintro e w3 ⟨rfl, hb3⟩
                have HB3 := hid hb3
                clear hb3 HUN
                cases ea with
                | true =>
                  clear HTL
                  go_wp2_with fail
                  go_ret
                  exact ⟨rfl, HB3.out⟩
                | false =>
                  by_cases hij : i = j
                  · have hne : ((i : Int) != (j : Int)) = false := by rw [hij]; simp
                    by_cases hit : i ≤ t
                    · have hti : ¬ (t : Int) < (i : Int) := by omega
                      cases un with
                      | false =>
                        clear HTL hij
                        go_wp2_with fail
                        go_ret
                        exact ⟨rfl, HB3.out⟩
                      | true =>
                        obtain rfl := HTL.out rfl hij hit rfl
                        clear HTL hij
                        go_wp2_with fail
                        go_ret
                        exact ⟨rfl, HB3.out⟩
                    · have hti : (t : Int) < (i : Int) := by omega
                      clear HTL hij
                      go_wp2_with fail
                      go_ret
                      exact ⟨rfl, HB3.out⟩
                  · have hne : ((i : Int) != (j : Int)) = true := by rw [bne_iff_ne]; omega
                    clear HTL hij
                    go_wp2_with fail
                    go_ret
                    exact ⟨rfl, HB3.out⟩
  · have HN := hid hok
    clear hok hL hM hX hB hC hF
    go_enter Tryd.func4, Tryd.ntmps4
    go_wp2_with fail
    refine (field_no p w hLd HN.out hp1 hp2).mono ?_
    rintro e w1 ⟨rfl, hb1⟩
    have HB1 := hid hb1
    clear hb1
    go_wp2_with fail
    go_ret
    exact ⟨rfl, HB1.out⟩

end Go.Proofs.YthemehdcakimgakDoor
