/- The law PolyDivides answers true: quotient and rest of any two. -/
import Derived.Test.YtfombbbiilalpabDoorTold
import Derived.Test.YtfombbbiilalpabDoorPolE
import Derived.Test.YtfombbbiilalpabDoorRefR
namespace Go.Proofs.YtfombbbiilalpabDoor
open Go.RowKit

set_option maxRecDepth 100000 in
set_option maxHeartbeats 4000000 in
theorem divides_walk (p : Int) (a1 a2 : Option Addr) (c1 c2 : Nat) (xs ys : List Int) (w : World) (hL : Laid w) (hp1 : -9223372036854775808 ≤ p) (hp2 : p ≤ 9223372036854775807)
    (hlx : xs.length ≤ 17592186043904) (hly : ys.length ≤ 17592186043904) (hf1 : Fits xs) (hf2 : Fits ys) (hl1 : Lst w.heap.size w a1 c1 xs) (hl2 : Lst w.heap.size w a2 c2 ys) :
    Calls Tryd.prog 5 #[.int .i64 p, .slice a1 xs.length c1, .slice a2 ys.length c2] w fun e w' => e = .returned (.bool true) ∧ Below w.heap.size w w' := by
  by_cases hok : okPrime p
  · obtain ⟨q, rfl⟩ := Int.eq_ofNat_of_zero_le (show 0 ≤ p by have := hok.1; omega)
    obtain ⟨hq3, hq4, hqp⟩ := hok
    rw [Int.toNat_natCast] at hqp
    have h3 : 3 ≤ q := by omega
    have h4 : q ≤ 2147483647 := by omega
    have HP := hid hqp
    have HF1 := hid hf1
    have HF2 := hid hf2
    have HL1 := hid hl1
    have HL2 := hid hl2
    have HLD := hid hL
    clear hqp hL hf1 hf2 hl1 hl2 hq3 hq4 hp1 hp2
    have htn : (Pol.trim q ys).length = tpn q (zat ys) ys.length := Pol.mk_length _ _ _
    have HTN := hid htn
    clear htn
    by_cases h0 : (Pol.trim q ys).length = 0
    · have HDG : Hid ((tpn q (zat ys) ys.length : Int) - 1 = -1) := by unfold Hid; rw [← HTN.out, h0]; rfl
      have H0 := hid h0
      clear h0
      go_enter Tryd.func5, Tryd.ntmps5
      go_wp2_with fail
      refine (field_yes q w h3 h4 HP.out).mono ?_
      rintro e w1 ⟨rfl, hc1, hb1, hlt1⟩
      have HC1 := hid hc1
      have HB1 := hid hb1
      have HL2' := hid ((HL2.out.below hb1).mono hb1.size)
      clear hc1 hb1
      go_wp2_with fail
      refine (divide_zero q w.heap.size c1 c2 a1 a2 xs ys w1 h3 h4 HC1.out (by omega) HF2.out HL2'.out.row H0.out).mono ?_
      rintro e w2 ⟨rfl, hb2⟩
      have HB2 := hid (HB1.out.trans (hb2.mono (by omega)))
      have HR2 := hid ((HL2'.out.row.below hb2).mono hb2.size)
      clear hb2
      have hdeg := rdeg_any q ys.length c2 (· < w2.heap.size) a2 (zat ys) w2 h3 h4 (by omega) HF2.out HR2.out
      rw [HDG.out] at hdeg
      have HDEG := hid hdeg
      clear hdeg
      go_wp2_with fail
      refine HDEG.out.mono ?_
      rintro e w3 ⟨rfl, rfl⟩
      go_wp2_with fail
      refine (error_hit 3 3 w3 (HLD.out.below HB2.out)).mono ?_
      rintro e w4 ⟨rfl, hb4⟩
      have HB4 := hid (HB2.out.trans (hb4.mono HB2.out.size))
      clear hb4
      have h33 : ((3 : Int) == 3) = true := by decide
      go_wp2_with fail
      go_ret
      exact ⟨rfl, HB4.out⟩
    · have hdg : ¬ ((tpn q (zat ys) ys.length : Int) - 1 < 0) := by rw [← HTN.out]; omega
      have H0 : Hid (0 < (Pol.trim q ys).length) := Nat.pos_of_ne_zero h0
      clear h0
      go_enter Tryd.func5, Tryd.ntmps5
      go_wp2_with fail
      refine (field_yes q w h3 h4 HP.out).mono ?_
      rintro e w1 ⟨rfl, hc1, hb1, hlt1⟩
      have HC1 := hid hc1
      have HB1 := hid hb1
      have HL1' := hid ((HL1.out.below hb1).mono hb1.size)
      have HL2' := hid ((HL2.out.below hb1).mono hb1.size)
      clear hc1 hb1
      go_wp2_with fail
      refine (divide_any q w.heap.size c1 c2 a1 a2 xs ys w1 HP.out h3 h4 HC1.out (by omega) (by omega) HF1.out HF2.out HL1'.out.row HL2'.out.row H0.out).mono ?_
      rintro e w2 ⟨qs, rs, aq, ar, cq, cr, rfl, hd, hrq, hrr, hql, hrl, hb2⟩
      have HD := hid hd
      have HA2 : Hid (Alive w2 [(aq, qs), (ar, rs)]) := ((Alive.nil w2).cons hrr).cons hrq
      have HB2 := hid (HB1.out.trans (hb2.mono (by omega)))
      have HL1'' := hid ((HL1'.out.below hb2).mono hb2.size)
      have HL2'' := hid ((HL2'.out.below hb2).mono hb2.size)
      clear hd hrq hrr hb2
      have HDEG := hid (rdeg_any q ys.length c2 (· < w2.heap.size) a2 (zat ys) w2 h3 h4 (by omega) HF2.out HL2''.out.row)
      generalize tpn q (zat ys) ys.length = t at *
      go_wp2_with fail
      refine HDEG.out.mono ?_
      rintro e w3 ⟨rfl, rfl⟩
      go_wp2_with fail
      refine (rdivided_any q c1 c2 a1 a2 xs ys w3 HP.out h3 h4 hlx (by omega) HF1.out HF2.out HL1''.out HL2''.out H0.out).mono ?_
      rintro e w4 ⟨qs', rs', aq', ar', cq', cr', rfl, hd', hrq', hrr', hb4⟩
      obtain ⟨rfl, rfl⟩ := HD.out.unique HP.out h3 (Pol.trim_can (by omega) ys) hd'
      have HA4 := hid ((HA2.out.step hb4).cons hrr' |>.cons hrq')
      have HB4 := hid (HB2.out.trans (hb4.mono HB2.out.size))
      clear hd' hrq' hrr' hb4
      go_wp2_with fail
      refine (ints_same _ _ _ _ _ cq cq' w4 (HA4.out.at 2 rfl) (HA4.out.at 0 rfl) (by omega)).mono ?_
      rintro e w5 ⟨rfl, n5, rfl⟩
      go_wp2_with fail
      refine (ints_same _ _ _ _ _ cr cr' _ ((HA4.out.drewN n5).at 3 rfl) ((HA4.out.drewN n5).at 1 rfl) (by omega)).mono ?_
      rintro e w6 ⟨rfl, n6, rfl⟩
      go_wp2_with fail
      go_ret
      exact ⟨rfl, below_drewN HB4.out _⟩
  · have HN := hid hok
    clear hok hf1 hf2 hl1 hl2
    go_enter Tryd.func5, Tryd.ntmps5
    go_wp2_with fail
    refine (field_no p w hL HN.out hp1 hp2).mono ?_
    rintro e w1 ⟨rfl, hb1⟩
    have HB1 := hid hb1
    clear hb1
    go_wp2_with fail
    go_ret
    exact ⟨rfl, HB1.out⟩

end Go.Proofs.YtfombbbiilalpabDoor
