/- The law PolyGcds answers true: what divides both, and is made of both. -/
import Derived.Test.YtfombbbiilalpabDoorTold
import Derived.Test.YtfombbbiilalpabDoorPolK
import Derived.Test.YtfombbbiilalpabDoorRefR
namespace Go.Proofs.YtfombbbiilalpabDoor
open Go.RowKit

theorem tpn_trim (p : Nat) (zs : List Int) : tpn p (zat zs) zs.length = (Pol.trim p zs).length := (Pol.mk_length _ _ _).symm

theorem GE.made {p : Nat} (h3 : 3 ≤ p) {A B d u v : List Int} (h : GE p A B d u v) : Pol.padd p (Pol.pmul p u A) (Pol.pmul p v B) = d :=
  Pol.can_eq (by omega) (padd_can h3 _ _) h.cd ((Pol.padd_eqp p _ _).trans ((((Pol.pmul_eqp p u A).add (Pol.pmul_eqp p v B))).trans h.eq.symm))

set_option maxRecDepth 100000 in
set_option maxHeartbeats 8000000 in
theorem gcds_walk (p : Int) (a1 a2 : Option Addr) (c1 c2 : Nat) (xs ys : List Int) (w : World) (hL : Laid w) (hp1 : -9223372036854775808 ≤ p) (hp2 : p ≤ 9223372036854775807)
    (hlen : xs.length + ys.length ≤ 1048576) (hf1 : Fits xs) (hf2 : Fits ys) (hl1 : Lst w.heap.size w a1 c1 xs) (hl2 : Lst w.heap.size w a2 c2 ys) :
    Calls Tryd.prog 7 #[.int .i64 p, .slice a1 xs.length c1, .slice a2 ys.length c2] w fun e w' => e = .returned (.bool true) ∧ Below w.heap.size w w' := by
  by_cases hok : okPrime p
  · obtain ⟨q, rfl⟩ := Int.eq_ofNat_of_zero_le (show 0 ≤ p by have := hok.1; omega)
    obtain ⟨hq3, hq4, hqp⟩ := hok
    rw [Int.toNat_natCast] at hqp
    have h3 : 3 ≤ q := by omega
    have h4 : q ≤ 2147483647 := by omega
    have HP := hid hqp
    have HF1 := hid hf1
    have HF2 := hid hf2
    have HL1 := hid hl1
    have HL2 := hid hl2
    clear hqp hL hf1 hf2 hl1 hl2 hq3 hq4 hp1 hp2
    go_enter Tryd.func7, Tryd.ntmps7
    go_wp2_with fail
    refine (field_yes q w h3 h4 HP.out).mono ?_
    rintro e w1 ⟨rfl, hc1, hb1, hlt1⟩
    have HC1 := hid hc1
    have HB1 := hid hb1
    have HL1' := hid ((HL1.out.below hb1).mono hb1.size)
    have HL2' := hid ((HL2.out.below hb1).mono hb1.size)
    clear hc1 hb1 HL1 HL2
    go_wp2_with fail
    refine (gcd_any q w.heap.size c1 c2 a1 a2 xs ys w1 HP.out h3 h4 HC1.out hlen HF1.out HF2.out HL1'.out.row HL2'.out.row).mono ?_
    rintro e w2 ⟨d, u, v, ad, au, av, cd, cu, cv, rfl, hres, hld, hru, hrv, hb2⟩
    have HRES := hid hres
    have HLD := hid hld
    have HA2 : Hid (Alive w2 [(au, u), (av, v)]) := ((Alive.nil w2).cons hrv).cons hru
    have HB2 : Hid (Below w.heap.size w w2) := HB1.out.trans (hb2.mono (by omega))
    have HLA := hid ((HL1'.out.below hb2).mono hb2.size)
    have HLB := hid ((HL2'.out.below hb2).mono hb2.size)
    clear hres hld hru hrv hb2 HL1' HL2' HC1
    have hda := rdeg_any q xs.length c1 (· < w2.heap.size) a1 (zat xs) w2 h3 h4 (by omega) HF1.out HLA.out.row
    have hdb := rdeg_any q ys.length c2 (· < w2.heap.size) a2 (zat ys) w2 h3 h4 (by omega) HF2.out HLB.out.row
    rw [tpn_trim] at hda hdb
    have HDA := hid hda
    have HDB := hid hdb
    clear hda hdb
    go_wp2_with fail
    refine HDA.out.mono ?_
    rintro e w3 ⟨rfl, rfl⟩
    go_wp2_with fail
    refine HDB.out.mono ?_
    rintro e w4 ⟨rfl, rfl⟩
    rcases HRES.out with ⟨z1, z2, rfl, rfl, rfl⟩ | ⟨hnz, hge, hld1, hlu1, hlv1⟩
    · rw [z1, z2]
      clear HDA HDB HRES z1 z2
      go_wp2_with fail
      go_ret
      exact ⟨rfl, HB2.out⟩
    · have HGE := hid hge
      have hpos := hge.pos
      have hone := hge.one
      obtain ⟨n1, hn1⟩ : ∃ n1, n1 = d.length - 1 := ⟨_, rfl⟩
      have hbig : ¬ (((Pol.trim q xs).length : Int) - 1 < 0 ∧ ((Pol.trim q ys).length : Int) - 1 < 0) := fun h => hnz ⟨by omega, by omega⟩
      have e1 : (d.length : Int) - 1 = (n1 : Int) := by omega
      have e2 : (n1 : Int) < (d.length : Int) := by omega
      have hdz : ((d.length : Int) == 0) = false := by rw [beq_eq_false_iff_ne]; omega
      obtain ⟨bl, ol, rfl, hbl, hcl⟩ := HLD.out.row n1 (by omega)
      rw [hn1, hone, ← hn1] at hcl
      have HFD : Hid (Fits d ∧ Fits u ∧ Fits v) := ⟨fits_of_can h4 hge.cd, fits_of_can h4 hge.cu, fits_of_can h4 hge.cv⟩
      have hti := Pol.trim_id (p := q) (by omega) hge.cd
      have HTI := hid hti
      have HT := hid (rtrim_any q cd (some ⟨bl, ol, none⟩) d w4 h3 h4 (by omega) HFD.out.1 HLD.out)
      rw [hti] at HT
      clear hge hone hnz HRES HDA HDB hn1 hti
      have hcases : (0 ≤ ((Pol.trim q xs).length : Int) - 1) ∨ (((Pol.trim q xs).length : Int) - 1 < 0 ∧ 0 ≤ ((Pol.trim q ys).length : Int) - 1) := by omega
      have hxy1 : ¬ (((Pol.trim q xs).length : Int) - 1 < 0) ∨ ((((Pol.trim q xs).length : Int) - 1 < 0) ∧ ¬ (((Pol.trim q ys).length : Int) - 1 < 0)) := by omega
      clear hcases hbig
      have h11 : ((1 : Int) != 1) = false := by decide
      generalize ((Pol.trim q xs).length : Int) - 1 = t1 at *
      generalize ((Pol.trim q ys).length : Int) - 1 = t2 at *
      rcases hxy1 with hxy | ⟨hxy, hxy2⟩
      all_goals
        go_wp2_with fail
        refine HT.out.mono ?_
        rintro e w5 ⟨ao, co, rfl, hlo, hb5⟩
        have HLO := hid hlo.row
        have HLD5 := hid ((HLD.out.below hb5).mono hb5.size)
        have HA5 := hid (HA2.out.step hb5)
        have HLA5 := hid ((HLA.out.below hb5).mono hb5.size)
        have HLB5 := hid ((HLB.out.below hb5).mono hb5.size)
        have HB5 : Hid (Below w.heap.size w w5) := HB2.out.trans (hb5.mono HB2.out.size)
        clear hlo hb5
        go_wp2_with fail
        refine (ints_same _ _ _ _ _ co cd w5 HLO.out HLD5.out.row (by omega)).mono ?_
        rintro e w6 ⟨rfl, n6, rfl⟩
        have HLD6 : Hid (Lst (w5.drewN n6).heap.size (w5.drewN n6) (some ⟨bl, ol, none⟩) cd d) := HLD5.out.below (below_drewN (Below.refl _ w5) n6)
        have HLA6 : Hid (Lst (w5.drewN n6).heap.size (w5.drewN n6) a1 c1 xs) := HLA5.out.below (below_drewN (Below.refl _ w5) n6)
        have HLB6 : Hid (Lst (w5.drewN n6).heap.size (w5.drewN n6) a2 c2 ys) := HLB5.out.below (below_drewN (Below.refl _ w5) n6)
        have HA6 := hid (HA5.out.drewN n6)
        have HB6 := hid (below_drewN HB5.out n6)
        generalize w5.drewN n6 = w6 at *
        have HDV1 := hid (rdivided_any q c1 cd a1 (some ⟨bl, ol, none⟩) xs d w6 HP.out h3 h4 (by omega) (by omega) HF1.out HFD.out.1 HLA6.out HLD6.out (by rw [HTI.out]; exact hpos))
        rw [HTI.out] at HDV1
        go_wp2_with fail
        refine HDV1.out.mono ?_
        rintro e w7 ⟨qa, ra, aqa, ara, cqa, cra, rfl, hda, _, _, hb7⟩
        obtain ⟨q0, hq0⟩ := IsD.of_dv h3 hpos HGE.out.da
        obtain ⟨_, rfl⟩ := hda.unique HP.out h3 HGE.out.cd hq0
        have HLD7 := hid ((HLD6.out.below hb7).mono hb7.size)
        have HLB7 := hid ((HLB6.out.below hb7).mono hb7.size)
        have HLA7 := hid ((HLA6.out.below hb7).mono hb7.size)
        have HA7 := hid (HA6.out.step hb7)
        have HB7 : Hid (Below w.heap.size w w7) := HB6.out.trans (hb7.mono HB6.out.size)
        have HDV2 := hid (rdivided_any q c2 cd a2 (some ⟨bl, ol, none⟩) ys d w7 HP.out h3 h4 (by omega) (by omega) HF2.out HFD.out.1 HLB7.out HLD7.out (by rw [HTI.out]; exact hpos))
        rw [HTI.out] at HDV2
        clear hda hq0 hb7
        go_wp2_with fail
        refine HDV2.out.mono ?_
        rintro e w8 ⟨qb, rb, aqb, arb, cqb, crb, rfl, hdb, _, _, hb8⟩
        obtain ⟨q1, hq1⟩ := IsD.of_dv h3 hpos HGE.out.db
        obtain ⟨_, rfl⟩ := hdb.unique HP.out h3 HGE.out.cd hq1
        have HLD8 := hid ((HLD7.out.below hb8).mono hb8.size)
        have HLB8 := hid ((HLB7.out.below hb8).mono hb8.size)
        have HLA8 := hid ((HLA7.out.below hb8).mono hb8.size)
        have HA8 := hid (HA7.out.step hb8)
        have HB8 : Hid (Below w.heap.size w w8) := HB7.out.trans (hb8.mono HB7.out.size)
        clear hdb hq1 hb8
        go_wp2_with fail
        refine (rtimes_any q cu c1 au a1 u xs w8 h3 h4 (by omega) HFD.out.2.1 HF1.out (HA8.out.at 0 rfl) HLA8.out.row).mono ?_
        rintro e w9 ⟨ax, cx, rfl, hlx, hb9⟩
        have HA9 : Hid (Alive w9 [(ax, Pol.pmul q u xs), (au, u), (av, v), (some ⟨bl, ol, none⟩, d), (a2, ys)]) := by
          have h := HA8.out.step hb9
          exact (((((Alive.nil w9).cons ((HLB8.out.row.below hb9).mono hb9.size)).cons ((HLD8.out.row.below hb9).mono hb9.size)).cons (h.at 1 rfl)).cons (h.at 0 rfl)).cons hlx.row
        have HB9 : Hid (Below w.heap.size w w9) := HB8.out.trans (hb9.mono HB8.out.size)
        clear hlx hb9
        go_wp2_with fail
        refine (rtimes_any q cv c2 av a2 v ys w9 h3 h4 (by omega) HFD.out.2.2 HF2.out (HA9.out.at 2 rfl) (HA9.out.at 4 rfl)).mono ?_
        rintro e w10 ⟨ay, cy, rfl, hly, hb10⟩
        have HA10 := hid ((HA9.out.step hb10).cons hly.row)
        have HB10 : Hid (Below w.heap.size w w10) := HB9.out.trans (hb10.mono HB9.out.size)
        have HPL := hid (rplus_any q cx cy ax ay (Pol.pmul q u xs) (Pol.pmul q v ys) w10 h3 h4 (by have := Pol.pmul_le q u xs; omega) (by have := Pol.pmul_le q v ys; omega) (fits_of_can h4 (pmul_can h3 _ _)) (fits_of_can h4 (pmul_can h3 _ _)) (HA10.out.at 1 rfl) (HA10.out.at 0 rfl))
        rw [HGE.out.made h3] at HPL
        clear hly hb10
        go_wp2_with fail
        refine HPL.out.mono ?_
        rintro e w11 ⟨az, cz, rfl, hlz, hb11⟩
        have HA11 := hid ((HA10.out.step hb11).cons hlz.row)
        have HB11 : Hid (Below w.heap.size w w11) := HB10.out.trans (hb11.mono HB10.out.size)
        clear hlz hb11
        go_wp2_with fail
        refine (ints_same _ _ _ _ _ cz cd w11 (HA11.out.at 0 rfl) (HA11.out.at 5 rfl) (by omega)).mono ?_
        rintro e w12 ⟨rfl, n12, rfl⟩
        go_wp2_with fail
        go_ret
        exact ⟨rfl, below_drewN HB11.out n12⟩
  · have HN := hid hok
    clear hok hf1 hf2 hl1 hl2
    go_enter Tryd.func7, Tryd.ntmps7
    go_wp2_with fail
    refine (field_no p w hL HN.out hp1 hp2).mono ?_
    rintro e w1 ⟨rfl, hb1⟩
    have HB1 := hid hb1
    clear hb1
    go_wp2_with fail
    go_ret
    exact ⟨rfl, HB1.out⟩

end Go.Proofs.YtfombbbiilalpabDoor
