/- The law PolyAdds answers true: sum, difference, product of any two polynomials, without zeros at the end; its lists stay as they were. -/
import Derived.Test.YtfombbbiilalpabDoorTold
import Derived.Test.YtfombbbiilalpabDoorPolC
import Derived.Test.YtfombbbiilalpabDoorRefQ
import Derived.Test.YtfombbbiilalpabDoorSpoil
import Derived.Test.YtfombbbiilalpabDoorCopy
namespace Go.Proofs.YtfombbbiilalpabDoor
open Go.RowKit

theorem ints_same (n0 n1 : Nat) (zs : List Int) (a b : Option Addr) (ca cb : Nat) (w : World) (ha : RowB n0 w a zs) (hb : RowB n1 w b zs) (hx : zs.length ≤ 9223372036854775807) :
    Calls Tryd.prog 11 #[.slice a zs.length ca, .slice b zs.length cb] w fun e w' => e = .returned (.bool true) ∧ ∃ n, w' = w.drewN n :=
  (ints_any zs zs _ _ w (rowZ_of_B ca ha) (rowZ_of_B cb hb) hx hx).mono fun _ _ h => ⟨by rw [h.1, decide_eq_true rfl], h.2⟩

set_option maxRecDepth 100000 in
set_option maxHeartbeats 4000000 in
theorem adds_walk (p : Int) (a1 a2 : Option Addr) (c1 c2 : Nat) (xs ys : List Int) (w : World) (hL : Laid w) (hp1 : -9223372036854775808 ≤ p) (hp2 : p ≤ 9223372036854775807)
    (hlen : xs.length + ys.length ≤ 1099511627776) (hf1 : Fits xs) (hf2 : Fits ys) (hl1 : Lst w.heap.size w a1 c1 xs) (hl2 : Lst w.heap.size w a2 c2 ys) :
    Calls Tryd.prog 4 #[.int .i64 p, .slice a1 xs.length c1, .slice a2 ys.length c2] w fun e w' => e = .returned (.bool true) ∧ Below w.heap.size w w' := by
  by_cases hok : okPrime p
  · obtain ⟨q, rfl⟩ := Int.eq_ofNat_of_zero_le (show 0 ≤ p by have := hok.1; omega)
    obtain ⟨hq3, hq4, hqp⟩ := hok
    rw [Int.toNat_natCast] at hqp
    have h3 : 3 ≤ q := by omega
    have h4 : q ≤ 2147483647 := by omega
    have HP := hid hqp
    have HF1 := hid hf1
    have HF2 := hid hf2
    have HL1 := hid hl1
    have HL2 := hid hl2
    have hxl : xs.length ≤ 1099511627776 := by omega
    have hyl : ys.length ≤ 1099511627776 := by omega
    have HLEN := hid hlen
    clear hqp hL hf1 hf2 hl1 hl2 hq3 hq4 hp1 hp2 hlen
    go_enter Tryd.func4, Tryd.ntmps4
    go_wp2_with fail
    refine (field_yes q w h3 h4 HP.out).mono ?_
    rintro e w1 ⟨rfl, hc1, hb1, hlt1⟩
    have HC1 := hid hc1
    have HB1 := hid hb1
    have HL1' := hid ((HL1.out.below hb1).mono hb1.size)
    have HL2' := hid ((HL2.out.below hb1).mono hb1.size)
    clear hc1 hb1
    go_wp2_with (at_builtin; refine wpList_copy w1 rfl _ _ rfl rfl a1 c1 xs rfl (by omega) HL1'.out ?_)
    intro ax cx w2 hlx hb2 hlt2
    have HLX := hid hlx
    have HB2 := hid hb2
    have HL1'' := hid ((HL1'.out.below hb2).mono hb2.size)
    have HL2'' := hid ((HL2'.out.below hb2).mono hb2.size)
    clear hlx hb2 HL1' HL2'
    go_wp2_with (at_builtin; refine wpList_copy w2 rfl _ _ rfl rfl a2 c2 ys rfl (by omega) HL2''.out ?_)
    intro ay cy w3 hly hb3 hlt3
    have HA3 : Hid (Alive w3 [(ax, xs), (ay, ys), (a1, xs), (a2, ys)]) :=
      ((((Alive.nil w3).cons ((HL2''.out.row.below hb3).mono hb3.size)).cons ((HL1''.out.row.below hb3).mono hb3.size)).cons hly.row).cons ((HLX.out.row.below hb3).mono hb3.size)
    have HBF : Hid (Below w1.heap.size w1 w3) := HB2.out.trans (hb3.mono (by omega))
    clear hly hb3 HL1'' HL2'' HLX HB2
    have HFC : Hid (∀ wc : World, Below w1.heap.size w1 wc → wc.cell? ⟨w.heap.size, 0, none⟩ = some (.int .i64 q)) := fun wc h => (h.cell (p := ⟨w.heap.size, 0, none⟩) hlt1).trans HC1.out
    go_wp2_with fail
    refine (padd_any q w.heap.size cx cy (· < w3.heap.size) ax ay xs ys w3 h3 h4 (HFC.out w3 HBF.out) (by omega) (by omega) HF1.out HF2.out (HA3.out.at 0 rfl) (HA3.out.at 1 rfl) (fun _ h => h)).mono ?_
    rintro e w4 ⟨cs, rfl, _, hcs, hb4, hs4⟩
    have HA4 : Hid (Alive w4 [(some ⟨w3.heap.size, 0, none⟩, Pol.padd q xs ys), (ax, xs), (ay, ys), (a1, xs), (a2, ys)]) := (HA3.out.step hb4).cons (hcs.row (Nat.le_refl _) (fun _ _ => rfl) (by omega))
    have HBF4 : Hid (Below w1.heap.size w1 w4) := HBF.out.trans (hb4.mono HBF.out.size)
    have hlt4 : w3.heap.size < w4.heap.size := by omega
    clear hcs hb4 hs4 HA3 HBF
    go_wp2_with fail
    refine (psub_any q w.heap.size cx cy (· < w4.heap.size) ax ay xs ys w4 h3 h4 (HFC.out w4 HBF4.out) (by omega) (by omega) HF1.out HF2.out (HA4.out.at 1 rfl) (HA4.out.at 2 rfl) (fun _ h => h)).mono ?_
    rintro e w5 ⟨cd, rfl, _, hcs, hb5, hs5⟩
    have HA5 : Hid (Alive w5 [(some ⟨w4.heap.size, 0, none⟩, Pol.psub q xs ys), (some ⟨w3.heap.size, 0, none⟩, Pol.padd q xs ys), (ax, xs), (ay, ys), (a1, xs), (a2, ys)]) := (HA4.out.step hb5).cons (hcs.row (Nat.le_refl _) (fun _ _ => rfl) (by omega))
    have HBF5 : Hid (Below w1.heap.size w1 w5) := HBF4.out.trans (hb5.mono HBF4.out.size)
    have hlt5 : w4.heap.size < w5.heap.size := by omega
    clear hcs hb5 hs5 HA4 HBF4
    go_wp2_with fail
    refine (pmul_any q w.heap.size cx cy (· < w5.heap.size) ax ay xs ys w5 HP.out h3 h4 (HFC.out w5 HBF5.out) (by have := HLEN.out; omega) HF1.out HF2.out (HA5.out.at 2 rfl) (HA5.out.at 3 rfl) (fun _ h => h)).mono ?_
    rintro e w6 ⟨am, cm, rfl, hrm, _, hb6⟩
    have HA6 : Hid (Alive w6 [(am, Pol.pmul q xs ys), (some ⟨w4.heap.size, 0, none⟩, Pol.psub q xs ys), (some ⟨w3.heap.size, 0, none⟩, Pol.padd q xs ys), (ax, xs), (ay, ys), (a1, xs), (a2, ys)]) := (HA5.out.step hb6).cons hrm
    have HBF6 : Hid (Below w1.heap.size w1 w6) := HBF5.out.trans (hb6.mono HBF5.out.size)
    have hlt6 := hb6.size
    clear hrm hb6 HA5 HBF5
    go_wp2_with fail
    refine (trim_full q w.heap.size cx (· < w6.heap.size) ax xs w6 h3 h4 (HFC.out w6 HBF6.out) (by omega) HF1.out (HA6.out.at 3 rfl) (fun _ h => h)).mono ?_
    rintro e w7 ⟨rfl, hct, hb7, hs7, hrt⟩
    have HA7 : Hid (Alive w7 [(some ⟨w6.heap.size, 0, none⟩, Pol.trim q xs), (am, Pol.pmul q xs ys), (some ⟨w4.heap.size, 0, none⟩, Pol.psub q xs ys), (some ⟨w3.heap.size, 0, none⟩, Pol.padd q xs ys), (ax, xs), (ay, ys), (a1, xs), (a2, ys)]) := (HA6.out.step hb7).cons (hct.row (Nat.le_refl _) (fun _ _ => rfl) (by omega))
    have HBF7 : Hid (Below w1.heap.size w1 w7) := HBF6.out.trans (hb7.mono HBF6.out.size)
    have HB67 := hid hb7
    have hlt7 : w6.heap.size < w7.heap.size := by omega
    have HRT := hid hrt
    clear hct hb7 hs7 hrt
    go_wp2_with fail
    refine (deg_any q w.heap.size xs.length cx (· < w7.heap.size) ax (zat xs) w7 h3 h4 (HFC.out w7 HBF7.out) (by omega) HF1.out (HA7.out.at 4 rfl)).mono ?_
    rintro e w7' ⟨rfl, rfl⟩
    go_wp2_with fail
    refine (rplus_any q c1 c2 a1 a2 xs ys w7' h3 h4 (by omega) (by omega) HF1.out HF2.out (HA7.out.at 6 rfl) (HA7.out.at 7 rfl)).mono ?_
    rintro e w8 ⟨as2, cs2, rfl, hls2, hb8⟩
    have HA8 : Hid (Alive w8 [(as2, Pol.padd q xs ys), (some ⟨w6.heap.size, 0, none⟩, Pol.trim q xs), (am, Pol.pmul q xs ys), (some ⟨w4.heap.size, 0, none⟩, Pol.psub q xs ys), (some ⟨w3.heap.size, 0, none⟩, Pol.padd q xs ys), (ax, xs), (ay, ys), (a1, xs), (a2, ys)]) := (HA7.out.step hb8).cons hls2.row
    have HB78 := hid hb8
    have hlt8 := hb8.size
    clear hls2 hb8 HA7
    go_wp2_with fail
    refine (rminus_any q c1 c2 a1 a2 xs ys w8 h3 h4 (by omega) (by omega) HF1.out HF2.out (HA8.out.at 7 rfl) (HA8.out.at 8 rfl)).mono ?_
    rintro e w9 ⟨ad2, cd2, rfl, hls2, hb9⟩
    have HA9 : Hid (Alive w9 [(ad2, Pol.psub q xs ys), (as2, Pol.padd q xs ys), (some ⟨w6.heap.size, 0, none⟩, Pol.trim q xs), (am, Pol.pmul q xs ys), (some ⟨w4.heap.size, 0, none⟩, Pol.psub q xs ys), (some ⟨w3.heap.size, 0, none⟩, Pol.padd q xs ys), (ax, xs), (ay, ys), (a1, xs), (a2, ys)]) := (HA8.out.step hb9).cons hls2.row
    have HB79 : Hid (Below w7'.heap.size w7' w9) := HB78.out.trans (hb9.mono hlt8)
    have hlt9 := hb9.size
    clear hls2 hb9 HA8 HB78
    go_wp2_with fail
    refine (rtimes_any q c1 c2 a1 a2 xs ys w9 h3 h4 (by have := HLEN.out; omega) HF1.out HF2.out (HA9.out.at 8 rfl) (HA9.out.at 9 rfl)).mono ?_
    rintro e w10 ⟨am2, cm2, rfl, hls2, hb10⟩
    have HA10 : Hid (Alive w10 [(am2, Pol.pmul q xs ys), (ad2, Pol.psub q xs ys), (as2, Pol.padd q xs ys), (some ⟨w6.heap.size, 0, none⟩, Pol.trim q xs), (am, Pol.pmul q xs ys), (some ⟨w4.heap.size, 0, none⟩, Pol.psub q xs ys), (some ⟨w3.heap.size, 0, none⟩, Pol.padd q xs ys), (ax, xs), (ay, ys), (a1, xs), (a2, ys)]) := (HA9.out.step hb10).cons hls2.row
    have HB710 : Hid (Below w7'.heap.size w7' w10) := HB79.out.trans (hb10.mono (by omega))
    have hlt10 := hb10.size
    clear hls2 hb10 HA9 HB79
    go_wp2_with fail
    refine (rtrim_any q c1 a1 xs w10 h3 h4 (by omega) HF1.out ⟨HA10.out.at 9 rfl, HL1.out.room, HL1.out.nil⟩).mono ?_
    rintro e w11 ⟨at2, ct2, rfl, hls2, hb11⟩
    have HA11 : Hid (Alive w11 [(at2, Pol.trim q xs), (am2, Pol.pmul q xs ys), (ad2, Pol.psub q xs ys), (as2, Pol.padd q xs ys), (some ⟨w6.heap.size, 0, none⟩, Pol.trim q xs), (am, Pol.pmul q xs ys), (some ⟨w4.heap.size, 0, none⟩, Pol.psub q xs ys), (some ⟨w3.heap.size, 0, none⟩, Pol.padd q xs ys), (ax, xs), (ay, ys), (a1, xs), (a2, ys)]) := (HA10.out.step hb11).cons hls2.row
    have HB711 : Hid (Below w7'.heap.size w7' w11) := HB710.out.trans (hb11.mono (by omega))
    have hlt11 := hb11.size
    clear hls2 hb11 HA10 HB710
    go_wp2_with fail
    refine (rdeg_any q xs.length c1 (· < w11.heap.size) a1 (zat xs) w11 h3 h4 (by omega) HF1.out (HA11.out.at 10 rfl)).mono ?_
    rintro e w11' ⟨rfl, rfl⟩
    have hl_add := Pol.padd_le q xs ys
    have hl_sub := Pol.psub_le q xs ys
    have hl_mul := Pol.pmul_le q xs ys
    have hl_trim := Pol.trim_le q xs
    have hl_add' : (Pol.padd q xs ys).length ≤ 9223372036854775807 := by omega
    have hl_sub' : (Pol.psub q xs ys).length ≤ 9223372036854775807 := by omega
    have hl_mul' : (Pol.pmul q xs ys).length ≤ 9223372036854775807 := by omega
    have hl_trim' : (Pol.trim q xs).length ≤ 1099511627776 := by omega
    clear hl_add hl_sub hl_mul hl_trim
    generalize tpn q (zat xs) xs.length = t at *
    go_wp2_with fail
    refine (ints_same _ _ _ _ _ cs cs2 w11' (HA11.out.at 7 rfl) (HA11.out.at 3 rfl) hl_add').mono ?_
    rintro e w12 ⟨rfl, n12, rfl⟩
    go_wp2_with fail
    refine (ints_same _ _ _ _ _ cd cd2 _ ((HA11.out.drewN n12).at 6 rfl) ((HA11.out.drewN n12).at 2 rfl) hl_sub').mono ?_
    rintro e w13 ⟨rfl, n13, rfl⟩
    rw [World.drewN_drewN]
    go_wp2_with fail
    refine (ints_same _ _ _ _ _ cm cm2 _ ((HA11.out.drewN _).at 5 rfl) ((HA11.out.drewN _).at 1 rfl) hl_mul').mono ?_
    rintro e w14 ⟨rfl, n14, rfl⟩
    rw [World.drewN_drewN]
    go_wp2_with fail
    refine (ints_same _ _ _ _ _ _ ct2 _ ((HA11.out.drewN _).at 4 rfl) ((HA11.out.drewN _).at 0 rfl) (by omega)).mono ?_
    rintro e w15 ⟨rfl, n15, rfl⟩
    rw [World.drewN_drewN]
    generalize n12 + n13 + n14 + n15 = nd at *
    have HRT2 : Hid ((w11'.drewN nd).rowIs w6.heap.size 3 (Pol.trim q xs).length (fun j => .int .i64 (zat (Pol.trim q xs) j))) := HRT.out.of_block (HB711.out.block _ hlt7)
    go_wp2_with fail
    refine (spoil_any w6.heap.size _ _ _ hl_trim' HRT2.out).mono ?_
    rintro e w16 ⟨rfl, hb16⟩
    have HB616 : Hid (Below w6.heap.size w6 w16) := (HB67.out.trans (below_drewN (HB711.out.mono (by omega)) nd)).trans hb16
    have HA16 : Hid (Alive w16 [(am, Pol.pmul q xs ys), (some ⟨w4.heap.size, 0, none⟩, Pol.psub q xs ys), (some ⟨w3.heap.size, 0, none⟩, Pol.padd q xs ys), (ax, xs), (ay, ys), (a1, xs), (a2, ys)]) := HA6.out.step HB616.out
    clear hb16
    go_wp2_with fail
    refine (ints_same _ _ _ _ _ cx c1 w16 (HA16.out.at 3 rfl) (HA16.out.at 5 rfl) (by omega)).mono ?_
    rintro e w17 ⟨rfl, n17, rfl⟩
    go_wp2_with fail
    refine (ints_same _ _ _ _ _ cy c2 _ ((HA16.out.drewN n17).at 4 rfl) ((HA16.out.drewN n17).at 6 rfl) (by omega)).mono ?_
    rintro e w18 ⟨rfl, n18, rfl⟩
    have HEND : Hid (Below w.heap.size w (w16.drewN (n17 + n18))) := below_drewN (HB1.out.trans ((HBF6.out.mono (by omega)).trans (HB616.out.mono (by omega)))) _
    have hnn : (((t : Int) - 1) == ((t : Int) - 1)) = true := by simp
    go_wp2_with fail
    go_ret
    exact ⟨rfl, HEND.out⟩
  · have HN := hid hok
    clear hok hf1 hf2 hl1 hl2
    go_enter Tryd.func4, Tryd.ntmps4
    go_wp2_with fail
    refine (field_no p w hL HN.out hp1 hp2).mono ?_
    rintro e w1 ⟨rfl, hb1⟩
    have HB1 := hid hb1
    clear hb1
    go_wp2_with fail
    go_ret
    exact ⟨rfl, HB1.out⟩

end Go.Proofs.YtfombbbiilalpabDoor
