/- The law DomainMakes answers true: any domain, its points, half of it; or what is wrong. -/
import Derived.Test.YtidkhgplejglaacDoorDomM
import Derived.Test.YtidkhgplejglaacDoorDomD
import Derived.Test.YtidkhgplejglaacDoorLawDBack
import Derived.Test.YtidkhgplejglaacDoorSpoilP
namespace Go.Proofs.YtidkhgplejglaacDoor
open Go.RowKit

set_option maxRecDepth 1000000 in
set_option maxHeartbeats 4000000 in
theorem dmakes_walk (p n s i : Int) (w : World) (hL : Laid w) (hp1 : -9223372036854775808 ≤ p) (hp2 : p ≤ 9223372036854775807) (hn1 : -9223372036854775808 ≤ n) (hn2 : n ≤ 9223372036854775807) (hs1 : -9223372036854775808 ≤ s) (hs2 : s ≤ 9223372036854775807) :
    Calls Tryd.prog 3 #[.int .i64 p, .int .i64 n, .int .i64 s, .int .i64 i] w fun e w' => e = .returned (.bool true) ∧ Below w.heap.size w w' := by
  have HLW := hid hL
  by_cases hgood : Good p n s
  · obtain ⟨q, k, rfl, rfl, hg⟩ := hgood
    have HG := hid hg
    obtain ⟨hpr, h3, h4, hk, hd, hs⟩ := hg
    have hnp : 0 < 2 ^ k := Nat.pow_pos (by decide)
    have hnl := two_pow_le hk
    have HPR := hid hpr
    have HM := hid (fun w1 => made_yes q k s w1 HG.out hs1 hs2)
    have HRT : Hid (∀ r : Nat, RootIs q ((2 ^ k : Nat) : Int) r → r < q) := fun r h => (root_ord2 HG.out.pr h3 HG.out.hd h).2
    have HPT : Hid (∀ (b d : Nat) (r t : Int) (w2 : World), w2.cell? ⟨b, 0, none⟩ = some (.int .i64 q) → DomAt w2 d b ((2 ^ k : Nat) : Int) r t → 0 ≤ r → r < q → 0 ≤ t → t < q →
        Calls Tryd.prog 13 #[.pointer (some ⟨d, 0, none⟩), .int .i64 i] w2 fun e w' => e = .returned (.int .i64 (Dom.pt q t r (i % ((2 ^ k : Nat) : Int)).toNat)) ∧ w' = w2.drew) :=
      fun b d r t w2 z1 z2 z3 z4 z5 z6 => point_any q b d k r t i w2 HPR.out h3 h4 z1 z2 hk z3 z4 z5 z6
    obtain ⟨m, hm⟩ : ∃ m : Nat, i % ((2 ^ k : Nat) : Int) = (m : Int) := Int.eq_ofNat_of_zero_le (Int.emod_nonneg _ (by omega))
    have hml : m < 2 ^ k := by have := Int.emod_lt_of_pos i (show (0 : Int) < ((2 ^ k : Nat) : Int) by omega); omega
    have HMF : Hid ((i.tmod ((2 ^ k : Nat) : Int) < 0 → i.tmod ((2 ^ k : Nat) : Int) + ((2 ^ k : Nat) : Int) = (m : Int)) ∧ (¬ i.tmod ((2 ^ k : Nat) : Int) < 0 → i.tmod ((2 ^ k : Nat) : Int) = (m : Int))) :=
      ⟨fun g => by rw [tmod_neg_fix i _ (by omega) g, hm], fun g => by rw [tmod_pos_fix i _ (by omega) g, hm]⟩
    obtain ⟨tb0, tb1⟩ := tmod_bounds i ((2 ^ k : Nat) : Int) (by omega)
    rw [hm, Int.toNat_natCast] at HPT
    have HHALF : Hid ((2 ^ k = 1) ∨ ∃ h : Nat, 0 < h ∧ 2 ^ k = 2 * h) := by
      cases k with
      | zero => exact Or.inl rfl
      | succ j => exact Or.inr ⟨2 ^ j, Nat.pow_pos (by decide), by rw [Nat.pow_succ]; omega⟩
    clear hpr hd hs hp1 hp2 hn1 hn2 hm hL
    generalize 2 ^ k = N at *
    go_enter Tryd.func3, Tryd.ntmps3
    go_wp2_with fail
    refine (HM.out _).mono ?_
    rintro e w1 ⟨b, d, r, rfl, hr, hc1, hda, hb1⟩
    have hrlt := HRT.out r hr
    obtain ⟨t0, t1⟩ := emod_bounds s q h3
    generalize s % (q : Int) = t at *
    have hba : Below w1.heap.size w1 (w1.alloc (.cells #[.int .i64 q, .int .i64 N, .int .i64 t, .int .i64 r] 24)) := (Below.refl _ _).alloc (Nat.le_refl _) _
    have HC1 := hid ((hba.cell (p := ⟨b, 0, none⟩) (heap_lt hc1)).trans hc1)
    have HDA := hid (hda.below hba hda.lt)
    have HB1 := hid (hb1.trans (hba.mono hb1.size))
    have HL1 := hid ((HLW.out.below hb1).below hba)
    have HQ1 := hid (quad_new w1 24 (.int .i64 q) (.int .i64 N) (.int .i64 t) (.int .i64 r))
    have hsx : w1.heap.size < (w1.alloc (.cells #[.int .i64 q, .int .i64 N, .int .i64 t, .int .i64 r] 24)).heap.size := by simp
    clear hr hc1 hda hb1 HM HRT hba HLW
    go_wp2_with fail
    generalize (w1.alloc (.cells #[.int .i64 q, .int .i64 N, .int .i64 t, .int .i64 r] 24)) = w2 at *
    have hbl := heap_lt HC1.out
    have hdl := HDA.out.lt
    -- what lies still, whatever is made behind
    have HFC : Hid (∀ wc : World, Below w2.heap.size w2 wc → wc.cell? ⟨b, 0, none⟩ = some (.int .i64 q)) := fun wc h => (h.cell (p := ⟨b, 0, none⟩) hbl).trans HC1.out
    have HFD : Hid (∀ wc : World, Below w2.heap.size w2 wc → DomAt wc d b N r t) := fun wc h => HDA.out.below h hdl
    have HFQ : Hid (∀ wc : World, Below w2.heap.size w2 wc → wc.rowIs w1.heap.size 24 4 (quad (.int .i64 q) (.int .i64 N) (.int .i64 t) (.int .i64 r))) := fun wc h => HQ1.out.of_block (h.block _ hsx)
    refine (points_any q b d N r t w2 h3 h4 HC1.out HDA.out hnl (by omega) (by omega) t0 t1).mono ?_
    rintro e w3 ⟨rfl, hri, hb3, hs3⟩
    have HRI := hid hri
    have HB3 := hid hb3
    have hlt3 : w2.heap.size < w3.heap.size := by omega
    have HQ3 := HFQ.out w3 hb3
    have z0 := HQ3.cell (i := 0) (by omega)
    have z1 := HQ3.cell (i := 1) (by omega)
    have z2 := HQ3.cell (i := 2) (by omega)
    have z3 := HQ3.cell (i := 3) (by omega)
    simp only [quad] at z0 z1 z2 z3
    clear hri hb3 hs3 HQ3
    go_wp2_with fail
    refine (rpoints_any q N r t w3 h3 h4 hnp hnl (by omega) (by omega) t0 t1).mono ?_
    rintro e w4 ⟨g, M, F, rfl, hg, hri4, hM, hF, hb4⟩
    have HB4 : Hid (Below w2.heap.size w2 w4) := HB3.out.trans (hb4.mono HB3.out.size)
    have HRI4 := hid (HRI.out.of_block (hb4.block _ hlt3))
    have HRM := hid hri4
    have HFM := hid hF
    have HA4 : Hid (Alive w4 [(some ⟨g, 0, none⟩, ls (Dom.pt q t r) N), (some ⟨w2.heap.size, 0, none⟩, ls (Dom.pt q t r) N)]) := ((Alive.nil w4).cons (rowB_of_F HRI4.out (Nat.le_refl _) (fun _ _ => rfl) (Nat.lt_of_lt_of_le hlt3 hb4.size))).cons (rowB_of_F hri4 hM hF hri4.lt)
    have hll := ls_len (Dom.pt q t r) N
    have HI := hid (ints_same _ _ (ls (Dom.pt q t r) N) _ _ N M w4 (HA4.out.at 1 rfl) (HA4.out.at 0 rfl) (by omega))
    rw [hll] at HI
    have hgl := hri4.lt
    clear hri4 hF hb4 z0 z1 z2 z3 hll
    go_wp2_with fail
    refine HI.out.mono ?_
    rintro e w5 ⟨rfl, n5, rfl⟩
    have HB5 := hid (below_drewN HB4.out n5)
    have HRI5 : Hid ((w4.drewN n5).rowIs w2.heap.size 3 N (fun j => .int .i64 (Dom.pt q t r j))) := HRI4
    have HRM5 : Hid ((w4.drewN n5).rowIs g 3 M F) := HRM
    have hgl5 : g < (w4.drewN n5).heap.size := hgl
    have hlt5 : w2.heap.size < (w4.drewN n5).heap.size := Nat.lt_of_lt_of_le hlt3 (by show w3.heap.size ≤ w4.heap.size; omega)
    clear HI HB4 HRI4 HRM HA4 hgl
    generalize w4.drewN n5 = w6 at *
    go_wp2_with fail
    refine (size_any d b N r t w6 (HFD.out w6 HB5.out)).mono ?_
    rintro e w7 ⟨rfl, rfl⟩
    go_wp2_with fail
    refine (dfield_any d b N r t w7 (HFD.out w7 HB5.out)).mono ?_
    rintro e w8 ⟨rfl, rfl⟩
    have hnn : ((N : Int) != (N : Int)) = false := by simp
    go_wp2_with fail
    refine (p_any q b w8 (HFC.out w8 HB5.out)).mono ?_
    rintro e w9 ⟨rfl, rfl⟩
    have hzn : ((N : Int) == 0) = false := by rw [beq_eq_false_iff_ne]; omega
    have HGM : Hid (w9.drew.cell? ⟨g, m, none⟩ = some (.int .i64 (Dom.pt q t r m))) := by
      unfold Hid
      rw [← HFM.out m hml]
      exact HRM5.out.cell (by omega)
    have HP7 := hid (HPT.out b d r t w9 (HFC.out w9 HB5.out) (HFD.out w9 HB5.out) (by omega) (by omega) t0 t1)
    have HSP := hid (spoil_pair w2.heap.size N _ w9.drew (by omega) HRI5.out)
    have hmz : (m : Int) < (N : Int) := by omega
    have hne1 : d ≠ w2.heap.size := by omega
    have hne2 : b ≠ w2.heap.size := by omega
    have hne3 : g ≠ w2.heap.size := by omega
    have HEND0 := hid HB1.out
    have HPTS : Hid (∀ w10 : World, Below w2.heap.size w2 w10 → Calls Tryd.prog 7 #[.pointer (some ⟨d, 0, none⟩)] w10 fun e w' =>
      e = .returned (.slice (some ⟨w10.heap.size, 0, none⟩) N N) ∧ w'.rowIs w10.heap.size 3 N (fun j => .int .i64 (Dom.pt q t r j)) ∧ Below w10.heap.size w10 w' ∧ w'.heap.size = w10.heap.size + 1) :=
      fun w10 h => points_any q b d N r t w10 h3 h4 (HFC.out _ h) (HFD.out _ h) hnl (by omega) (by omega) t0 t1
    have HHF : Hid ((N = 1) ∨ ∃ h : Nat, 0 < h ∧ h ≤ 65536 ∧ ¬ N = 1 ∧ (∀ w10 : World, Below w2.heap.size w2 w10 → Calls Tryd.prog 15 #[.pointer (some ⟨d, 0, none⟩)] w10 fun e w' => ∃ d' : Nat, e = .returned (.tuple #[.pointer (some ⟨d', 0, none⟩), .nilIface]) ∧ w10.heap.size ≤ d' ∧ DomAt w' d' b h (r * r % (q : Int)) (t * t % (q : Int)) ∧ Below w10.heap.size w10 w')
        ∧ (∀ w10 : World, Calls Tryd.prog 17 #[.agg #[.int .i64 q, .int .i64 N, .int .i64 t, .int .i64 r]] w10 fun e w' => e = .returned (.agg #[.int .i64 q, .int .i64 h, .int .i64 (t * t % (q : Int)), .int .i64 (r * r % (q : Int))]) ∧ Below w10.heap.size w10 w')) := by
      rcases HHALF.out with e | ⟨h, h0, e⟩
      · exact Or.inl e
      · refine Or.inr ⟨h, h0, by omega, by omega, fun w10 hb => ?_, fun w10 => ?_⟩
        · exact half_any q b d h r t w10 h3 h4 (HFC.out _ hb) (e ▸ HFD.out _ hb) h0 (by omega) (by omega) (by omega) t0 t1
        · rw [e]
          exact rhalf_any q h r t w10 h3 h4 (by omega) (by omega) (by omega) t0 t1
    have HH1 : Hid (N = 1 → ∀ w10 : World, Below w2.heap.size w2 w10 → Calls Tryd.prog 15 #[.pointer (some ⟨d, 0, none⟩)] w10 fun e w' => e = .returned (.tuple #[.pointer none, .iface 61 (.int .i64 2)]) ∧ w' = w10) :=
      fun e w10 hb => half_one b d r t w10 (by have := HFD.out _ hb; rw [e] at this; exact this)
    clear HHALF HPT
    by_cases hneg : i.tmod (N : Int) < 0
    case' pos => have em := HMF.out.1 hneg
    case' neg => have em := HMF.out.2 (by omega)
    all_goals
      clear HMF
      generalize Dom.pt q t r m = x at *
      have hxx : (x != x) = false := by simp
      go_wp2_with fail
      refine HP7.out.mono ?_
      rintro e w10 ⟨rfl, rfl⟩
      have gm : w9.cell? ⟨g, m, none⟩ = some (.int .i64 x) := HGM.out
      go_wp2_with fail
      refine HSP.out.mono ?_
      rintro e w11 ⟨rfl, hpa⟩
      have HB11 : Hid (Below w2.heap.size w2 w11) := HB5.out.drew.trans (hpa.below (by show w2.heap.size ≤ w9.heap.size; omega) (Nat.le_refl _) (Nat.le_refl _))
      have HRM11 : Hid (w11.rowIs g 3 M F) := HRM5.out.of_block (hpa.block g hgl5 hne3 hne3)
      clear hpa HSP HP7 HGM gm
      go_wp2_with fail
      refine (HPTS.out w11 HB11.out).mono ?_
      rintro e w12 ⟨rfl, hri12, hb12, hs12⟩
      have HA12 : Hid (Alive w12 [(some ⟨g, 0, none⟩, ls (Dom.pt q t r) N), (some ⟨w11.heap.size, 0, none⟩, ls (Dom.pt q t r) N)]) :=
        ((Alive.nil w12).cons (rowB_of_F hri12 (Nat.le_refl _) (fun _ _ => rfl) (by omega))).cons ((rowB_of_F (HRM11.out.of_block (hb12.block g HRM11.out.lt)) hM HFM.out (Nat.lt_of_lt_of_le HRM11.out.lt hb12.size)))
      have HB12 : Hid (Below w2.heap.size w2 w12) := HB11.out.trans (hb12.mono HB11.out.size)
      have HI := hid (ints_same _ _ (ls (Dom.pt q t r) N) _ _ N M w12 (HA12.out.at 1 rfl) (HA12.out.at 0 rfl) (by rw [ls_len]; omega))
      rw [ls_len] at HI
      clear hri12 hb12 hs12 HA12 HRM11 HB11 HPTS
      go_wp2_with fail
      refine HI.out.mono ?_
      rintro e w13 ⟨rfl, n13, rfl⟩
      have HB13 := hid (below_drewN HB12.out n13)
      clear HI HB12
      generalize w12.drewN n13 = w14 at *
      rcases HHF.out with hN1 | ⟨h, hh0, hh1, hN2, hHF, hRH⟩
      · have HH2 := hid (HH1.out hN1)
        have hN3 : ((N : Int) == 1) = true := by rw [beq_iff_eq]; omega
        have HL14 := hid (HL1.out.below HB13.out)
        clear hN1 HH1 HHF
        go_wp2_with fail
        refine (HH2.out w14 HB13.out).mono ?_
        rintro e w15 ⟨rfl, rfl⟩
        go_wp2_with fail
        refine (error_hit 2 2 w15 HL14.out).mono ?_
        rintro e w16 ⟨rfl, hb16⟩
        have HE16 : Hid (Below w.heap.size w w16) := HB1.out.trans ((HB13.out.mono HB1.out.size).trans (hb16.mono (Nat.le_trans HB1.out.size HB13.out.size)))
        clear hb16
        go_wp2_with fail
        go_ret
        exact ⟨rfl, HE16.out⟩
      · have HHF2 := hid hHF
        have HRH := hid hRH
        have hN3 : ((N : Int) == 1) = false := by rw [beq_eq_false_iff_ne]; omega
        obtain ⟨rr0, rr1⟩ := emod_bounds ((r : Int) * r) q h3
        obtain ⟨tt0, tt1⟩ := emod_bounds (t * t) q h3
        generalize (r : Int) * r % (q : Int) = rr at *
        generalize t * t % (q : Int) = tt at *
        clear hHF hRH HH1 HHF hN2
        go_wp2_with fail
        refine (HHF2.out w14 HB13.out).mono ?_
        rintro e w15 ⟨d', rfl, hd', hda', hb15⟩
        have HDH := hid hda'
        have HB15 : Hid (Below w2.heap.size w2 w15) := HB13.out.trans (hb15.mono HB13.out.size)
        have HQ15 := HFQ.out w15 HB15.out
        have z0 := HQ15.cell (i := 0) (by omega)
        have z1 := HQ15.cell (i := 1) (by omega)
        have z2 := HQ15.cell (i := 2) (by omega)
        have z3 := HQ15.cell (i := 3) (by omega)
        simp only [quad] at z0 z1 z2 z3
        clear hda' hb15 HQ15 HHF2
        go_wp2_with fail
        refine (HRH.out w15).mono ?_
        rintro e w16 ⟨rfl, hb16⟩
        have HB16 : Hid (Below w2.heap.size w2 w16) := HB15.out.trans (hb16.mono HB15.out.size)
        have HD16 := hid (HDH.out.below hb16 HDH.out.lt)
        have hba : Below w16.heap.size w16 (w16.alloc (.cells #[.int .i64 q, .int .i64 h, .int .i64 tt, .int .i64 rr] 24)) := (Below.refl _ _).alloc (Nat.le_refl _) _
        have HB17 := hid (HB16.out.trans (hba.mono HB16.out.size))
        have HD17 := hid (HD16.out.below hba HD16.out.lt)
        have HQ17 := hid (quad_new w16 24 (.int .i64 q) (.int .i64 h) (.int .i64 tt) (.int .i64 rr))
        have hsx7 : w16.heap.size < (w16.alloc (.cells #[.int .i64 q, .int .i64 h, .int .i64 tt, .int .i64 rr] 24)).heap.size := by simp
        clear hb16 hba z0 z1 z2 z3 HDH HD16 HB16
        go_wp2_with fail
        generalize (w16.alloc (.cells #[.int .i64 q, .int .i64 h, .int .i64 tt, .int .i64 rr] 24)) = w17 at *
        refine (points_any q b d' h rr tt w17 h3 h4 (HFC.out _ HB17.out) HD17.out hh1 rr0 rr1 tt0 tt1).mono ?_
        rintro e w18 ⟨rfl, hri18, hb18, hs18⟩
        have HRI18 := hid hri18
        have HQ18 := HQ17.out.of_block (hb18.block w16.heap.size hsx7)
        have hlt18 : w17.heap.size < w18.heap.size := by omega
        have HB18 : Hid (Below w2.heap.size w2 w18) := HB17.out.trans (hb18.mono HB17.out.size)
        have z0 := HQ18.cell (i := 0) (by omega)
        have z1 := HQ18.cell (i := 1) (by omega)
        have z2 := HQ18.cell (i := 2) (by omega)
        have z3 := HQ18.cell (i := 3) (by omega)
        simp only [quad] at z0 z1 z2 z3
        clear hri18 hb18 hs18 HQ17 HQ18
        go_wp2_with fail
        refine (rpoints_any q h rr tt w18 h3 h4 hh0 hh1 rr0 rr1 tt0 tt1).mono ?_
        rintro e w19 ⟨g', M', F', rfl, hg', hri19, hM', hF', hb19⟩
        have HA19 : Hid (Alive w19 [(some ⟨g', 0, none⟩, ls (Dom.pt q tt rr) h), (some ⟨w17.heap.size, 0, none⟩, ls (Dom.pt q tt rr) h)]) :=
          ((Alive.nil w19).cons (rowB_of_F (HRI18.out.of_block (hb19.block _ hlt18)) (Nat.le_refl _) (fun _ _ => rfl) (Nat.lt_of_lt_of_le hlt18 hb19.size))).cons (rowB_of_F hri19 hM' hF' hri19.lt)
        have HE19 : Hid (Below w.heap.size w w19) := HB1.out.trans ((HB18.out.mono HB1.out.size).trans (hb19.mono (Nat.le_trans HB1.out.size HB18.out.size)))
        have HI := hid (ints_same _ _ (ls (Dom.pt q tt rr) h) _ _ h M' w19 (HA19.out.at 1 rfl) (HA19.out.at 0 rfl) (by rw [ls_len]; omega))
        rw [ls_len] at HI
        clear hri19 hF' hb19 z0 z1 z2 z3 HA19 HRI18
        go_wp2_with fail
        refine HI.out.mono ?_
        rintro e w20 ⟨rfl, n20, rfl⟩
        go_wp2_with fail
        go_ret
        exact ⟨rfl, below_drewN HE19.out _⟩
  · have HM := hid (made_no p n s w hL hgood hp1 hp2 hn1 hn2 hs1 hs2)
    clear hgood
    go_enter Tryd.func3, Tryd.ntmps3
    go_wp2_with fail
    refine HM.out.mono ?_
    rintro e w1 ⟨rfl, hb1⟩
    have HB1 := hid hb1
    clear hb1
    go_wp2_with fail
    go_ret
    first
      | exact ⟨rfl, HB1.out⟩
      | exact ⟨rfl, HB1.out.alloc HB1.out.size _⟩

end Go.Proofs.YtidkhgplejglaacDoor
