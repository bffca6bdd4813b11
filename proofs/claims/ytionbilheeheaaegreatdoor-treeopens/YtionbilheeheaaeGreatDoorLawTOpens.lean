/- TreeOpens: the walk. -/
import Derived.Test.YtionbilheeheaaeGreatDoorTrhJ
import Derived.Test.YtionbilheeheaaeGreatDoorTreI
import Derived.Test.YtionbilheeheaaeGreatDoorTreJ
import Derived.Test.YtionbilheeheaaeGreatDoorSpgT
namespace Go.Proofs.YtionbilheeheaaeGreatDoor
open Go.RowKit

/-- what Open answers, taken or not -/
def OpnU (q n : Nat) (rows : List (List Int)) (ps : List Int) (w : World) (e : Ending) (w' : World) : Prop :=
  ∃ p1 r1 n1 a1 a2 a3 c1 c2 c3 vb, e = .returned (.tuple #[.agg #[.slice a1 p1.length c1, .slice a2 r1.length c2, .slice a3 n1.length c3], vb]) ∧ Hid (SlR w' p1 (.slice a1 p1.length c1) ∧ OwnR w.heap.size w' (.slice a2 r1.length c2) r1 ∧ OwnR w.heap.size w' (.slice a3 n1.length c3) n1) ∧ Below w.heap.size w w'
    ∧ Hid (ps.any (lackb 0 rows.length) = false → OnceIs ps p1 ∧ r1 = shw q rows p1 ∧ n1 = ndf q n rows.length rows p1 0) ∧ Hid (ps.any (lackb 0 rows.length) = true → p1 = [] ∧ r1 = [] ∧ n1 = []) ∧ Hid (vb = if ps.any (lackb 0 rows.length) = true then .iface 53 (.int .i64 3) else .nilIface)
theorem open_u (q n d b s cap cp : Nat) (a ap : Option Addr) (rows : List (List Int)) (ps : List Int) (w : World) (ok : SpgOk q n d) (hs : SpgAt w s b q n d) (h1 : 1 ≤ rows.length) (h2 : rows.length ≤ 65536) (hpl : ps.length ≤ 17592186044400) (hfr : FitsR rows) (hl : LstR w.heap.size w a cap rows) (hrow : RowB w.heap.size w ap ps) :
    Calls Tryz.prog 8 #[.pointer (some ⟨s, 0, none⟩), .slice a rows.length cap, .slice ap ps.length cp] w (OpnU q n rows ps w) := by
  cases hin : ps.any (lackb 0 rows.length) with
  | false =>
    refine (open_any q n d b s cap cp a ap rows ps w ok hs h1 h2 hpl hfr hl hrow hin).mono ?_
    rintro e w' ⟨os, ap, ar, an', cp, cr, cn, rfl, hos, hp, hr, hn, hb⟩
    refine ⟨os, _, _, ap, ar, an', cp, cr, cn, .nilIface, rfl, ⟨hp, hr, hn⟩, hb, fun _ => ⟨hos, rfl, rfl⟩, fun h => ?_, ?_⟩
    · rw [hin] at h
      cases h
    · rw [hin]
      rfl
  | true =>
    refine (open_range s cap cp rows.length a ap ps w h1 h2 (by omega) hrow hin).mono ?_
    rintro e w' ⟨rfl, hb⟩
    refine ⟨[], [], [], none, none, none, 0, 0, 0, .iface 53 (.int .i64 3), rfl, ⟨slr_nil _, OwnR.nil _ _, OwnR.nil _ _⟩, hb, fun h => ?_, fun _ => ⟨rfl, rfl, rfl⟩, ?_⟩
    · rw [hin] at h
      cases h
    · rw [hin]
      rfl

theorem lstR_nil {n0 : Nat} {w : World} : LstR n0 w none 0 [] := ⟨fun _ hk => absurd hk (Nat.not_lt_zero _), Nat.zero_le _, fun _ => rfl⟩

set_option maxRecDepth 100000 in
set_option maxHeartbeats 2000000 in
theorem topens_size (q : Nat) (a1 : Option Addr) (c1 : Nat) (rows : List (List Int)) (a2 : Option Addr) (c2 : Nat) (ps : List Int) (w : World) (hL : Laid w) (h23 : 23 ≤ q) (h4 : q ≤ 2147483647) (hqp : Num.Prime q)
    (hr : rows.length ≤ 5864062014634 ∧ ∀ k, k < rows.length → (rat rows k).length ≤ 17592186043904) (hl1 : LstR w.heap.size w a1 c1 rows) (hbad : ¬ (1 ≤ rows.length ∧ rows.length ≤ 65536)) :
    Calls Tryz.prog 3 #[.int .i64 q, .slice a1 rows.length c1, .slice a2 ps.length c2] w fun e w' => e = .returned (.bool true) ∧ Below w.heap.size w w' := by
  have HP := hid hqp
  have HR := hid hr
  have HL1 := hid hl1
  have HLL := hid hL
  have hbd : rows.length ≤ 281474976710656 := by omega
  have HBD := hid hbad
  have HT : Hid ((((rows.length : Int) == 0) = true ∧ ¬ (0 : Int) < (rows.length : Int)) ∨ (((rows.length : Int) == 0) = false ∧ (65536 : Int) < (rows.length : Int) ∧ (0 : Int) < (rows.length : Int) ∧ ¬ (rows.length : Int) ≤ 65536)) := by
    unfold Hid
    rcases Nat.eq_zero_or_pos rows.length with h | h
    · exact .inl ⟨by rw [h]; rfl, by omega⟩
    · exact .inr ⟨by rw [beq_eq_false_iff_ne]; omega, by omega, by omega, by omega⟩
  clear hqp hr hl1 hL hbad
  go_enter Tryz.func3, Tryz.ntmps3
  go_wp2_with fail
  refine (sponge_yes q w h23 h4 HP.out).mono ?_
  rintro e w1 ⟨s, b, n, d, rfl, _, _, hb1⟩
  have HB1 := hid hb1
  clear hb1
  have HC := hid (copied_any c1 a1 rows w1 (by have := HR.out.1; omega) (fun k hk => by have := HR.out.2 k hk; omega) ((HL1.out.below HB1.out).mono HB1.out.size))
  go_wp2_with fail
  refine HC.out.mono ?_
  rintro e w2 ⟨v, rfl, ho2, hb2⟩
  obtain ⟨ao, co, hv, hlo⟩ := ho2.lst
  subst hv
  have HLO := hid hlo
  have HB2 := hid (HB1.out.trans (hb2.mono HB1.out.size))
  clear ho2 hb2 hlo HC HB1
  have HT1 := hid (troot_size s co rows.length ao w2 HBD.out hbd)
  go_wp2_with fail
  refine HT1.out.mono ?_
  rintro e w3 ⟨rfl, hb3⟩
  have HLO3 := hid ((HLO.out.below hb3).mono hb3.size)
  have HB3 := hid (HB2.out.trans (hb3.mono HB2.out.size))
  clear hb3 HLO HB2 HT1
  have HT2 := hid (open_size s co c2 rows.length ps.length ao a2 w3 HBD.out hbd)
  go_wp2_with fail
  refine HT2.out.mono ?_
  rintro e w4 ⟨rfl, hb4⟩
  have HBO : Hid (Below w4.heap.size w4 (w4.alloc (.cells #[.slice none 0 0, .slice none 0 0, .slice none 0 0] 33))) := (Below.refl _ _).alloc (Nat.le_refl _) _
  have HQ := hid (tri_arr (tri_new w4 33 (.slice none 0 0) (.slice none 0 0) (.slice none 0 0)))
  have hb4' := hb4.trans (HBO.out.mono hb4.size)
  have HB4 := hid (HB3.out.trans (hb4'.mono HB3.out.size))
  have HLO4 := hid ((HLO3.out.below hb4').mono hb4'.size)
  have HLA : Hid (∀ W, Below w.heap.size w W → Laid W) := fun W h => HLL.out.below h
  obtain ⟨O, hO⟩ : ∃ O, O = w4.heap.size := ⟨_, rfl⟩
  clear hb4 hb4' HBO HLO3 HB3 HT2 HLL
  rcases HT.out with ⟨t1, t2⟩ | ⟨t1, t2, t3, t4⟩
  all_goals
    clear HT
    go_wp2_with fail
    rw [← hO] at HQ ⊢
    clear hO
    generalize w4.alloc (.cells #[.slice none 0 0, .slice none 0 0, .slice none 0 0] 33) = W4 at *
    refine (error_hit 2 2 W4 (HLA.out _ HB4.out)).mono ?_
    rintro e w5 ⟨rfl, hb5⟩
    have HQ5 := hid ((hb5.block _ (Array.getElem?_eq_some_iff.1 HQ.out).1).trans HQ.out)
    have HB5 := hid (HB4.out.trans (hb5.mono HB4.out.size))
    have HLO5 := hid ((HLO4.out.below hb5).mono hb5.size)
    clear hb5 HQ HB4 HLO4
    by_cases hp0 : (0 : Int) < (ps.length : Int)
    all_goals
      go_wp2_with fail
      refine wp_loop_rounds 1 ?_
      rw [rounds_succ]
      go_wp2_with fail
      refine (error_hit 2 2 w5 (HLA.out _ HB5.out)).mono ?_
      rintro e w6 ⟨rfl, hb6⟩
      have HQ6 := hid ((hb6.block _ (Array.getElem?_eq_some_iff.1 HQ5.out).1).trans HQ5.out)
      have HB6 := hid (HB5.out.trans (hb6.mono HB5.out.size))
      have HLO6 := hid ((HLO5.out.below hb6).mono hb6.size)
      clear hb6 HQ5 HB5 HLO5
      have HRS := hid (srows_any co c1 ao a1 rows rows _ _ w6 (by omega) (by omega) (fun k hk => by have := HR.out.2 k hk; omega) (fun k hk => by have := HR.out.2 k hk; omega) HLO6.out (HL1.out.below HB6.out))
      simp only [decide_true] at HRS
      go_wp2_with fail
      refine HRS.out.mono ?_
      rintro e w7 ⟨rfl, nd, rfl⟩
      have hbd7 := below_drewN (Below.refl w6.heap.size w6) nd
      have HQ7 := hid ((hbd7.block _ (Array.getElem?_eq_some_iff.1 HQ6.out).1).trans HQ6.out)
      have HB7 := hid (HB6.out.trans (hbd7.mono HB6.out.size))
      clear hbd7 HQ6 HB6 HLO6 HRS
      generalize w6.drewN nd = W7 at *
      go_wp2_with fail
      refine (ints_same 0 0 [] none none 0 0 W7 (fun k hk => by simp at hk) (fun k hk => by simp at hk) (by simp)).mono ?_
      rintro e w8 ⟨rfl, nd2, rfl⟩
      have hbd8 := below_drewN (Below.refl W7.heap.size W7) nd2
      have HQ8 := hid ((hbd8.block _ (Array.getElem?_eq_some_iff.1 HQ7.out).1).trans HQ7.out)
      have HB8 := hid (HB7.out.trans (hbd8.mono HB7.out.size))
      clear hbd8 HQ7 HB7
      generalize W7.drewN nd2 = W8 at *
      have HBV : Hid (Below W8.heap.size W8 (W8.alloc (.cells #[.slice none 0 0, .slice none 0 0, .slice none 0 0] 33))) := (Below.refl _ _).alloc (Nat.le_refl _) _
      have HV9 := hid (tri_arr (tri_new W8 33 (.slice none 0 0) (.slice none 0 0) (.slice none 0 0)))
      have HQ9 := hid ((HBV.out.block _ (Array.getElem?_eq_some_iff.1 HQ8.out).1).trans HQ8.out)
      have HB9 := hid (HB8.out.trans (HBV.out.mono HB8.out.size))
      clear HBV HQ8 HB8
      have HOS : Hid (Calls Tryz.prog 14 #[.agg #[.slice none 0 0, .slice none 0 0, .slice none 0 0], .agg #[.slice none 0 0, .slice none 0 0, .slice none 0 0]] (W8.alloc (.cells #[.slice none 0 0, .slice none 0 0, .slice none 0 0] 33)) fun e w' => e = .returned (.bool true) ∧ Below (W8.alloc (.cells #[.slice none 0 0, .slice none 0 0, .slice none 0 0] 33)).heap.size (W8.alloc (.cells #[.slice none 0 0, .slice none 0 0, .slice none 0 0] 33)) w') := by
        have h := openings_any 0 0 0 0 0 0 none none none none none none [] [] [] [] [] [] (W8.alloc (.cells #[.slice none 0 0, .slice none 0 0, .slice none 0 0] 33)) (by simp) (by simp) (by simp) (by simp) (by simp) (by simp) (fun k hk => by simp at hk) (fun k hk => by simp at hk) (fun k hk => by simp at hk) (fun k hk => by simp at hk)
          (fun k hk => by simp at hk) (fun k hk => by simp at hk) lstR_nil lstR_nil lstR_nil lstR_nil
        unfold Hid
        simpa using h
      go_wp2_with (first
        | (refine wpList_load_row rfl 33 _ rfl O rfl _ _ _ _ HQ9.out Tryz.underlying33 rfl (by kernel_rfl) ?_)
        | (refine wpList_load_row rfl 33 _ rfl W8.heap.size rfl _ _ _ _ HV9.out Tryz.underlying33 rfl (by kernel_rfl) ?_))
      refine HOS.out.mono ?_
      rintro e w10 ⟨rfl, hb10⟩
      have HB10 := hid (HB9.out.trans (hb10.mono HB9.out.size))
      clear hb10 HOS HQ9 HV9 HB9
      go_wp2_with fail
      go_ret
      exact ⟨rfl, HB10.out⟩

set_option maxRecDepth 100000 in
set_option maxHeartbeats 4000000 in
theorem topens_good (q : Nat) (a1 : Option Addr) (c1 : Nat) (rows : List (List Int)) (a2 : Option Addr) (c2 : Nat) (ps : List Int) (w : World) (hL : Laid w) (h23 : 23 ≤ q) (h4 : q ≤ 2147483647) (hqp : Num.Prime q)
    (hfr : FitsR rows) (hl1 : LstR w.heap.size w a1 c1 rows) (hpl : ps.length ≤ 17592186043904) (hl2 : Lst w.heap.size w a2 c2 ps) (h1 : 1 ≤ rows.length) (h2 : rows.length ≤ 65536) :
    Calls Tryz.prog 3 #[.int .i64 q, .slice a1 rows.length c1, .slice a2 ps.length c2] w fun e w' => e = .returned (.bool true) ∧ Below w.heap.size w w' := by
  have HP := hid hqp
  have HFR := hid hfr
  have HL1 := hid hl1
  have HL2 := hid hl2
  have HLL := hid hL
  have HN := hid (And.intro h1 h2)
  have t1 : ((rows.length : Int) == 0) = false := by rw [beq_eq_false_iff_ne]; omega
  have t2 : ¬ (65536 : Int) < (rows.length : Int) := by omega
  have t3 : (0 : Int) < (rows.length : Int) := by omega
  have t4 : (rows.length : Int) ≤ 65536 := by omega
  clear hqp hfr hl1 hl2 hL h1 h2
  go_enter Tryz.func3, Tryz.ntmps3
  go_wp2_with fail
  refine (sponge_yes q w h23 h4 HP.out).mono ?_
  rintro e w1 ⟨s, b, n, d, rfl, hok, hat, hb1⟩
  have HOK := hid hok
  have HAT := hid hat
  have HB1 := hid hb1
  clear hb1 hok hat
  have HC := hid (copied_any c1 a1 rows w1 (by have := HN.out.2; omega) (fun k hk => by have := (HFR.out k hk).2; omega) ((HL1.out.below HB1.out).mono HB1.out.size))
  go_wp2_with fail
  refine HC.out.mono ?_
  rintro e w2 ⟨v, rfl, ho2, hb2⟩
  obtain ⟨ao, co, hv, hlo⟩ := ho2.lst
  subst hv
  have HLO := hid hlo
  have HAT2 := hid (HAT.out.keep hb2)
  have HB2 := hid (HB1.out.trans (hb2.mono HB1.out.size))
  clear ho2 hb2 hlo HC HB1 HAT
  have HT1 := hid (troot_any q n d b s co ao rows w2 HOK.out HAT2.out HN.out.1 HN.out.2 HFR.out HLO.out)
  go_wp2_with fail
  refine HT1.out.mono ?_
  rintro e w3 ⟨ar, cr, rfl, hrt, hb3⟩
  have HLO3 := hid ((HLO.out.below hb3).mono hb3.size)
  have HAT3 := hid (HAT2.out.keep hb3)
  have HB3 := hid (HB2.out.trans (hb3.mono HB2.out.size))
  have HRT := hid hrt
  clear hb3 HLO HB2 HT1 HAT2 hrt
  have HT2 := hid (open_u q n d b s co c2 ao a2 rows ps w3 HOK.out HAT3.out HN.out.1 HN.out.2 (by omega) HFR.out HLO3.out ((HL2.out.below HB3.out).mono HB3.out.size).row)
  go_wp2_with fail
  refine HT2.out.mono ?_
  rintro e w4 ⟨p1, r1, n1, b1, b2, b3, k1, k2, k3, vb, rfl, HX, hb4, HF, HG, HV⟩
  have HBO : Hid (Below w4.heap.size w4 (w4.alloc (.cells #[.slice b1 p1.length k1, .slice b2 r1.length k2, .slice b3 n1.length k3] 33))) := (Below.refl _ _).alloc (Nat.le_refl _) _
  have HQ := hid (tri_arr (tri_new w4 33 (.slice b1 p1.length k1) (.slice b2 r1.length k2) (.slice b3 n1.length k3)))
  have hb4' := hb4.trans (HBO.out.mono hb4.size)
  have HB4 := hid (HB3.out.trans (hb4'.mono HB3.out.size))
  have HLO4 := hid ((HLO3.out.below hb4').mono hb4'.size)
  have HRT4 := hid ((HRT.out.below hb4').mono hb4'.size)
  have HX4 := hid (And.intro (HX.out.1.keep HBO.out) (And.intro (HX.out.2.1.keep HBO.out) (HX.out.2.2.keep HBO.out)))
  obtain ⟨O, hO⟩ : ∃ O, O = w4.heap.size := ⟨_, rfl⟩
  have HOW : Hid (w.heap.size ≤ O) := by have := HB3.out.size; have := hb4.size; unfold Hid; omega
  clear hb4 hb4' HBO HLO3 HB3 HT2 HX HRT HAT3
  go_wp2_with fail
  rw [← hO] at HQ ⊢
  clear hO
  generalize w4.alloc (.cells #[.slice b1 p1.length k1, .slice b2 r1.length k2, .slice b3 n1.length k3] 33) = W4 at *
  refine (error_nil 0 W4).mono ?_
  rintro e w5 ⟨rfl, rfl⟩
  go_wp2_with fail
  obtain ⟨E, hE⟩ : ∃ E : Int, E = if ps.any (lackb 0 rows.length) = true then 3 else 0 := ⟨_, rfl⟩
  have HE := hid hE
  clear hE
  have HERR : Hid (∀ W, Below w.heap.size w W → Calls Tryz.prog 9 #[vb, .int .i64 E] W fun e w' => e = .returned (.bool true) ∧ Below W.heap.size W w') := fun W hW => by
    rw [HV.out, HE.out]
    by_cases ha : ps.any (lackb 0 rows.length) = true
    · rw [if_pos ha, if_pos ha]
      exact error_hit 3 3 W (HLL.out.below hW)
    · rw [if_neg ha, if_neg ha]
      refine (error_nil 0 W).mono ?_
      rintro e w' ⟨rfl, rfl⟩
      exact ⟨rfl, Below.refl _ _⟩
  clear HV HLL
  go_loop [14, 16] (fun xv iv => ∃ (i : Nat) (x : Int), i ≤ ps.length ∧ iv = .int .i64 i ∧ xv = .int .i64 x ∧ Hid ((x = 0 ∧ ∀ j, j < i → lackb 0 rows.length (zat ps j) = false) ∨ (x = 3 ∧ ps.any (lackb 0 rows.length) = true))) (fun _ iv => ps.length - (intOf iv).toNat)
  case atStart => exact ⟨0, 0, Nat.zero_le _, rfl, rfl, .inl ⟨rfl, fun j hj => absurd hj (Nat.not_lt_zero _)⟩⟩
  case round =>
    obtain ⟨i, x, hi, rfl, rfl, HC⟩ := hrel
    have hcs : (i < ps.length ∧ x = 0 ∧ Hid (∀ j, j < i → lackb 0 rows.length (zat ps j) = false)) ∨ (((i : Int) < (ps.length : Int) ∧ (x == 0) = false ∧ x = E) ∨ (¬ (i : Int) < (ps.length : Int) ∧ x = E)) := by
      rcases HC.out with ⟨hx, ha⟩ | ⟨hx, ha⟩
      · by_cases hlt : i < ps.length
        · exact .inl ⟨hlt, hx, ha⟩
        · refine .inr (.inr ⟨by omega, ?_⟩)
          rw [HE.out, any_not (fun j hj => ha j (by omega)), hx]
          rfl
      · have hxe : x = E := by rw [HE.out, if_pos ha, hx]
        by_cases hlt : i < ps.length
        · exact .inr (.inl ⟨by omega, by rw [hx]; rfl, hxe⟩)
        · exact .inr (.inr ⟨by omega, hxe⟩)
    clear HC
    rcases hcs with ⟨hlt, hx, HC⟩ | hcs
    · subst hx
      have hlt2 : (i : Int) < (ps.length : Int) := by omega
      have hks : IntKind.i64.wrap ((i : Int) + 1) = (i : Int) + 1 := by rw [IntKind.wrap_i64]; omega
      obtain ⟨bp, op, hae, hbp, hcp⟩ := ((HL2.out.below HB4.out).mono HB4.out.size).row i hlt
      subst hae
      have HLK : Hid (lackb 0 rows.length (zat ps i) = (decide (zat ps i < 0) || decide ((rows.length : Int) ≤ zat ps i))) := rfl
      have HAN := hid (fun h => any_of (a := 0) (b := rows.length) hlt h)
      have HLI : Hid (¬ zat ps i < 0 → ¬ (rows.length : Int) ≤ zat ps i → lackb 0 rows.length (zat ps i) = false) := fun h1 h2 => by rw [HLK.out, decide_eq_false h1, decide_eq_false h2]; rfl
      by_cases hz1 : zat ps i < 0
      · go_wp2_with fail
        go_round
        case rel => exact ⟨i + 1, 3, by omega, by go_num, rfl, .inr ⟨rfl, HAN.out (by rw [HLK.out, decide_eq_true hz1]; rfl)⟩⟩
        case measure => simp [intOf]; omega
      · by_cases hz2 : (rows.length : Int) ≤ zat ps i
        · go_wp2_with fail
          go_round
          case rel => exact ⟨i + 1, 3, by omega, by go_num, rfl, .inr ⟨rfl, HAN.out (by rw [HLK.out, decide_eq_true hz2, Bool.or_true])⟩⟩
          case measure => simp [intOf]; omega
        · have HLF := hid (HLI.out hz1 hz2)
          go_wp2_with fail
          go_round
          case rel =>
            refine ⟨i + 1, 0, by omega, by go_num, rfl, .inl ⟨rfl, fun j hj => ?_⟩⟩
            by_cases hji : j = i
            · subst hji
              exact HLF.out
            · exact HC.out j (by omega)
          case measure => simp [intOf]; omega
    · rcases hcs with ⟨hlt, hx0, hxe⟩ | ⟨hlt, hxe⟩
      all_goals
        subst hxe
        go_wp2_with fail
        clear hlt
        try clear hx0
        refine (HERR.out w5 HB4.out).mono ?_
        rintro e w6 ⟨rfl, hb6⟩
        have HQ6 := hid ((hb6.block _ (Array.getElem?_eq_some_iff.1 HQ.out).1).trans HQ.out)
        have HB6 := hid (HB4.out.trans (hb6.mono HB4.out.size))
        have HLO6 := hid ((HLO4.out.below hb6).mono hb6.size)
        have HRT6 := hid ((HRT4.out.below hb6).mono hb6.size)
        have HX6 := hid (And.intro (HX4.out.1.keep hb6) (And.intro (HX4.out.2.1.keep hb6) (HX4.out.2.2.keep hb6)))
        clear hb6 HQ HB4 HLO4 HRT4 HX4 HERR
        have HRS := hid (srows_any co c1 ao a1 rows rows _ _ w6 (by omega) (by omega) (fun k hk => by have := (HFR.out k hk).2; omega) (fun k hk => by have := (HFR.out k hk).2; omega) HLO6.out (HL1.out.below HB6.out))
        simp only [decide_true] at HRS
        go_wp2_with fail
        refine HRS.out.mono ?_
        rintro e w7 ⟨rfl, nd, rfl⟩
        have hbd7 := below_drewN (Below.refl w6.heap.size w6) nd
        have HQ7 := hid ((hbd7.block _ (Array.getElem?_eq_some_iff.1 HQ6.out).1).trans HQ6.out)
        have HB7 := hid (HB6.out.trans (hbd7.mono HB6.out.size))
        have HRT7 := hid ((HRT6.out.below hbd7).mono hbd7.size)
        have HX7 := hid (And.intro (HX6.out.1.keep hbd7) (And.intro (HX6.out.2.1.keep hbd7) (HX6.out.2.2.keep hbd7)))
        clear hbd7 HQ6 HB6 HLO6 HRT6 HX6 HRS
        generalize w6.drewN nd = W7 at *
        have HRR := hid (rroot_any2 q n (by omega) h4 HOK.out.pw rows.length c1 a1 rows W7 HN.out.1 (Nat.le_refl _) (by have := HN.out.2; omega) HFR.out ((HL1.out.below HB7.out).mono HB7.out.size))
        go_wp2_with fail
        refine HRR.out.mono ?_
        rintro e w8 ⟨g, N, rfl, _, hld, hb8⟩
        have HQ8 := hid ((hb8.block _ (Array.getElem?_eq_some_iff.1 HQ7.out).1).trans HQ7.out)
        have HB8 := hid (HB7.out.trans (hb8.mono HB7.out.size))
        have HX8 := hid (And.intro (HX7.out.1.keep hb8) (And.intro (HX7.out.2.1.keep hb8) (HX7.out.2.2.keep hb8)))
        have HIN : Hid (Calls Tryz.prog 12 #[.slice ar 4 cr, .slice (some ⟨g, 0, none⟩) 4 N] w8 fun e w' => e = .returned (.bool true) ∧ ∃ n, w' = w8.drewN n) := by
          have h := ints_same _ _ (rtf q n rows.length rows) ar (some ⟨g, 0, none⟩) cr N w8 (HRT7.out.below hb8).row hld.1.row (by rw [rtf_len q n rows.length rows HN.out.1]; omega)
          rw [rtf_len q n rows.length rows HN.out.1] at h
          exact h
        clear hb8 hld HQ7 HB7 HX7 HRT7 HRR
        go_wp2_with fail
        refine HIN.out.mono ?_
        rintro e w9 ⟨rfl, nd2, rfl⟩
        have hbd9 := below_drewN (Below.refl w8.heap.size w8) nd2
        have HQ9 := hid ((hbd9.block _ (Array.getElem?_eq_some_iff.1 HQ8.out).1).trans HQ8.out)
        have HB9 := hid (HB8.out.trans (hbd9.mono HB8.out.size))
        have HX9 := hid (And.intro (HX8.out.1.keep hbd9) (And.intro (HX8.out.2.1.keep hbd9) (HX8.out.2.2.keep hbd9)))
        clear hbd9 HQ8 HB8 HX8 HIN
        generalize w8.drewN nd2 = W9 at *
        have HBV : Hid (Below W9.heap.size W9 (W9.alloc (.cells #[.slice none 0 0, .slice none 0 0, .slice none 0 0] 33))) := (Below.refl _ _).alloc (Nat.le_refl _) _
        have HV := hid (tri_arr (tri_new W9 33 (.slice none 0 0) (.slice none 0 0) (.slice none 0 0)))
        have HQA := hid ((HBV.out.block _ (Array.getElem?_eq_some_iff.1 HQ9.out).1).trans HQ9.out)
        have HBA := hid (HB9.out.trans (HBV.out.mono HB9.out.size))
        have HXA := hid (And.intro (HX9.out.1.keep HBV.out) (And.intro (HX9.out.2.1.keep HBV.out) (HX9.out.2.2.keep HBV.out)))
        obtain ⟨R, hR⟩ : ∃ R, R = W9.heap.size := ⟨_, rfl⟩
        have HRO : Hid (O < R) := by have := (Array.getElem?_eq_some_iff.1 HQ9.out).1; unfold Hid; omega
        clear HBV HQ9 HB9 HX9
        by_cases hany : ps.any (lackb 0 rows.length) = true
        · have hx3 : x = 3 := by have := HE.out; rw [if_pos hany] at this; exact this
          subst hx3
          obtain ⟨e1, e2, e3⟩ := HG.out hany
          subst e1
          subst e2
          subst e3
          clear HF HG hany HE
          have HOS : Hid (Calls Tryz.prog 14 #[.agg #[.slice b1 0 k1, .slice b2 0 k2, .slice b3 0 k3], .agg #[.slice none 0 0, .slice none 0 0, .slice none 0 0]] (W9.alloc (.cells #[.slice none 0 0, .slice none 0 0, .slice none 0 0] 33)) fun e w' => e = .returned (.bool true) ∧ Below (W9.alloc (.cells #[.slice none 0 0, .slice none 0 0, .slice none 0 0] 33)).heap.size (W9.alloc (.cells #[.slice none 0 0, .slice none 0 0, .slice none 0 0] 33)) w') := by
            obtain ⟨_, _, f2, l2⟩ := HXA.out.2.1.lst
            cases f2
            obtain ⟨_, _, f3, l3⟩ := HXA.out.2.2.lst
            cases f3
            have h := openings_any k1 k2 k3 0 0 0 b1 b2 b3 none none none [] [] [] [] [] [] (W9.alloc (.cells #[.slice none 0 0, .slice none 0 0, .slice none 0 0] 33)) (by simp) (by simp) (by simp) (by simp) (by simp) (by simp) (fun k hk => by simp at hk) (fun k hk => by simp at hk) (fun k hk => by simp at hk) (fun k hk => by simp at hk)
              (fun k hk => by simp at hk) (fun k hk => by simp at hk) l2 lstR_nil l3 lstR_nil
            unfold Hid
            simpa using h
          clear HXA
          go_wp2_with (first
            | (refine wpList_load_row rfl 33 _ rfl O rfl _ _ _ _ HQA.out Tryz.underlying33 rfl (by kernel_rfl) ?_)
            | (refine wpList_load_row rfl 33 _ rfl W9.heap.size rfl _ _ _ _ HV.out Tryz.underlying33 rfl (by kernel_rfl) ?_))
          refine HOS.out.mono ?_
          rintro e w10 ⟨rfl, hb10⟩
          have HB10 := hid (HBA.out.trans (hb10.mono HBA.out.size))
          clear hb10 HOS
          go_wp2_with fail
          go_ret
          exact ⟨rfl, HB10.out⟩
        · have hno : ps.any (lackb 0 rows.length) = false := by simpa using hany
          have hx0 : x = 0 := by have := HE.out; rw [if_neg hany] at this; exact this
          subst hx0
          obtain ⟨e1, e2, e3⟩ := HF.out hno
          have HO1 := hid e1
          have HIR := hid (any_range hno)
          subst e2
          subst e3
          clear HF HG hany HE hno e1
          have HRO2 := hid (ropen_any q n c1 c2 a1 a2 rows ps (W9.alloc (.cells #[.slice none 0 0, .slice none 0 0, .slice none 0 0] 33)) (by omega) h4 HOK.out.pw HN.out.1 HN.out.2 HFR.out ((HL1.out.below HBA.out).mono HBA.out.size) (by omega) ((HL2.out.below HBA.out).mono HBA.out.size).row HIR.out)
          go_wp2_with fail
          refine HRO2.out.mono ?_
          rintro e w10 ⟨os2, vp, vr, vn, rfl, ho, hsp, hsr, hsn, hb10⟩
          have heq : os2 = p1 := asc_unique ho.1 HO1.out.1 (fun x => (ho.2 x).trans (HO1.out.2 x).symm)
          subst heq
          obtain ⟨va, vc, f1, _⟩ := hsp.lst
          subst f1
          obtain ⟨ua, uc, f2, _⟩ := hsr.lst
          subst f2
          obtain ⟨ta, tc, f3, _⟩ := hsn.lst
          subst f3
          have HRR : Hid (w10.heap[R]? = some (.cells #[.slice none 0 0, .slice none 0 0, .slice none 0 0] 33 (0, 0))) := by
            unfold Hid
            rw [hR]
            exact (hb10.block _ (Array.getElem?_eq_some_iff.1 HV.out).1).trans HV.out
          have hRw : ∃ c f, w10.heap[R]? = some (.cells c 33 f) := ⟨_, _, HRR.out⟩
          have HB10 := hid (HBA.out.trans (hb10.mono HBA.out.size))
          obtain ⟨cs, hcs⟩ : ∃ cs : Array Value, cs = #[.slice va os2.length vc, .slice ua (shw q rows os2).length uc, .slice ta (ndf q n rows.length rows os2 0).length tc] := ⟨_, rfl⟩
          have hsz : w10.heap.size ≤ (w10.setRow R cs).heap.size := by simp
          have hot : ∀ b, b ≠ R → (w10.setRow R cs).heap[b]? = w10.heap[b]? := fun b hb => setRow_other _ _ _ _ hb
          have y1 := hsp.onlyO hRw hsz hot
          have y2 := hsr.onlyO hRw hsz hot
          have y3 := hsn.onlyO hRw hsz hot
          have x1 := (HXA.out.1.keep hb10).onlyO hRw hsz hot
          have x2 := (HXA.out.2.1.keep hb10).onlyO hRw hsz hot
          have x3 := (HXA.out.2.2.keep hb10).onlyO hRw hsz hot
          have HQB : Hid ((w10.setRow R cs).heap[O]? = some (.cells #[.slice b1 os2.length k1, .slice b2 (shw q rows os2).length k2, .slice b3 (ndf q n rows.length rows os2 0).length k3] 33 (0, 0))) := (hot O (by have := HRO.out; omega)).trans ((hb10.block _ (Array.getElem?_eq_some_iff.1 HQA.out).1).trans HQA.out)
          have HVB : Hid ((w10.setRow R cs).heap[R]? = some (.cells cs 33 (0, 0))) := setRow_heap _ _ _ _ _ _ HRR.out
          have HBB : Hid (Below w.heap.size w (w10.setRow R cs)) := below_setRow HB10.out (by have := HRO.out; have := HOW.out; omega) _
          have HOS : Hid (Calls Tryz.prog 14 #[.agg #[.slice b1 os2.length k1, .slice b2 (shw q rows os2).length k2, .slice b3 (ndf q n rows.length rows os2 0).length k3], .agg #[.slice va os2.length vc, .slice ua (shw q rows os2).length uc, .slice ta (ndf q n rows.length rows os2 0).length tc]] (w10.setRow R cs) fun e w' => e = .returned (.bool true) ∧ Below (w10.setRow R cs).heap.size (w10.setRow R cs) w') := by
            obtain ⟨_, _, g1, m1⟩ := x1.lst
            cases g1
            obtain ⟨_, _, g2, m2⟩ := x2.lst
            cases g2
            obtain ⟨_, _, g3, m3⟩ := x3.lst
            cases g3
            obtain ⟨_, _, g4, m4⟩ := y1.lst
            cases g4
            obtain ⟨_, _, g5, m5⟩ := y2.lst
            cases g5
            obtain ⟨_, _, g6, m6⟩ := y3.lst
            cases g6
            have hn := HN.out
            have z1 := once_len HO1.out HIR.out
            have z2 := ndf_len q n rows.length rows os2 0 hn.1
            have z3 : ∀ k, k < (shw q rows os2).length → (rat (shw q rows os2) k).length ≤ 9223372036854775807 := fun k hk => by
              have := (shw_fits (by omega) h4 HFR.out (ascN_once HO1.out HIR.out) k hk).2
              omega
            have z4 : ∀ k, k < (ndf q n rows.length rows os2 0).length → (rat (ndf q n rows.length rows os2 0) k).length ≤ 9223372036854775807 := fun k hk => by
              rw [ndf_four q n _ _ _ _ _ (rat_mem hk)]
              omega
            have h := openings_any k1 k2 k3 vc uc tc b1 b2 b3 va ua ta os2 os2 (shw q rows os2) (shw q rows os2) (ndf q n rows.length rows os2 0) (ndf q n rows.length rows os2 0) (w10.setRow R cs) (by omega) (by omega) (by rw [shw_len]; omega) (by rw [shw_len]; omega) (by omega) (by omega) z3 z3 z4 z4 m1.row m4.row m2 m5 m3 m6
            simp only [decide_true, Bool.and_true] at h
            exact h
          clear ho hsp hsr hsn hb10 hRw HB10 hsz hot x1 x2 x3 y1 y2 y3 HXA HBA HQA HV HRO2
          subst hcs
          go_wp2_with (first
            | (refine wpList_load_row rfl 33 _ rfl O rfl _ _ _ _ HQB.out Tryz.underlying33 rfl (by kernel_rfl) ?_)
            | (refine wpList_load_row rfl 33 _ rfl R (by rw [hR]; rfl) _ _ _ _ HVB.out Tryz.underlying33 rfl (by kernel_rfl) ?_)
            | (refine wpList_store_row rfl 33 _ _ rfl R #[.slice va os2.length vc, .slice ua (shw q rows os2).length uc, .slice ta (ndf q n rows.length rows os2 0).length tc] (by rw [hR]; rfl) rfl _ _ HRR.out (by kernel_rfl) rfl (by simp [Value.oneCell']) ?_))
          rw [← hR]
          refine HOS.out.mono ?_
          rintro e w11 ⟨rfl, hb11⟩
          have HB11 := hid (HBB.out.trans (hb11.mono HBB.out.size))
          clear hb11 HOS
          go_wp2_with fail
          go_ret
          exact ⟨rfl, HB11.out⟩

set_option maxRecDepth 100000 in
theorem topens_walk (p : Int) (a1 : Option Addr) (c1 : Nat) (rows : List (List Int)) (a2 : Option Addr) (c2 : Nat) (ps : List Int) (w : World) (hL : Laid w) (hp1 : -9223372036854775808 ≤ p) (hp2 : p ≤ 9223372036854775807)
    (hr : rows.length ≤ 5864062014634 ∧ ∀ k, k < rows.length → (rat rows k).length ≤ 17592186043904) (hfr : FitsR rows) (hl1 : LstR w.heap.size w a1 c1 rows) (hpl : ps.length ≤ 17592186043904) (hl2 : Lst w.heap.size w a2 c2 ps) :
    Calls Tryz.prog 3 #[.int .i64 p, .slice a1 rows.length c1, .slice a2 ps.length c2] w fun e w' => e = .returned (.bool true) ∧ Below w.heap.size w w' := by
  by_cases hg : GoodS p
  · obtain ⟨⟨hq3, hq4, hqp⟩, h23⟩ := hg
    obtain ⟨q, rfl⟩ := Int.eq_ofNat_of_zero_le (show 0 ≤ p by omega)
    have hqp' : Num.Prime q := by simpa using hqp
    by_cases hs : 1 ≤ rows.length ∧ rows.length ≤ 65536
    · exact topens_good q a1 c1 rows a2 c2 ps w hL (by omega) (by omega) hqp' hfr hl1 hpl hl2 hs.1 hs.2
    · exact topens_size q a1 c1 rows a2 c2 ps w hL (by omega) (by omega) hqp' hr hl1 hs
  · have HN := hid (sponge_no p w hL hg hp1 hp2)
    clear hr hfr hl1 hpl hl2 hL hg
    go_enter Tryz.func3, Tryz.ntmps3
    go_wp2_with fail
    refine HN.out.mono ?_
    rintro e w1 ⟨rfl, hb1⟩
    go_wp2_with fail
    go_ret
    exact ⟨rfl, hb1⟩

end Go.Proofs.YtionbilheeheaaeGreatDoor
