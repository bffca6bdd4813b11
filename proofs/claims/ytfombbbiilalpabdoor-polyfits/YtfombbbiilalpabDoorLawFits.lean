/- The law PolyFits answers true: one polynomial goes through any points; or what is wrong with them. -/
import Derived.Test.YtfombbbiilalpabDoorTold
import Derived.Test.YtfombbbiilalpabDoorRefS
import Derived.Test.YtfombbbiilalpabDoorCopy
namespace Go.Proofs.YtfombbbiilalpabDoor
open Go.RowKit

set_option maxRecDepth 100000 in
set_option maxHeartbeats 4000000 in
theorem fits_walk (p : Int) (a1 a2 : Option Addr) (c1 c2 : Nat) (xs ys : List Int) (w : World) (hL : Laid w) (hp1 : -9223372036854775808 ≤ p) (hp2 : p ≤ 9223372036854775807)
    (hlx : xs.length ≤ 17592186043904) (hf1 : Fits xs) (hf2 : Fits ys) (hl1 : Lst w.heap.size w a1 c1 xs) (hr2 : RowB w.heap.size w a2 ys) :
    Calls Tryd.prog 8 #[.int .i64 p, .slice a1 xs.length c1, .slice a2 ys.length c2] w fun e w' => e = .returned (.bool true) ∧ Below w.heap.size w w' := by
  by_cases hok : okPrime p
  · obtain ⟨q, rfl⟩ := Int.eq_ofNat_of_zero_le (show 0 ≤ p by have := hok.1; omega)
    obtain ⟨hq3, hq4, hqp⟩ := hok
    rw [Int.toNat_natCast] at hqp
    have h3 : 3 ≤ q := by omega
    have h4 : q ≤ 2147483647 := by omega
    have HP := hid hqp
    have HF1 := hid hf1
    have HF2 := hid hf2
    have HL1 := hid hl1
    have HR2 := hid hr2
    have HLD := hid hL
    clear hqp hL hf1 hf2 hl1 hr2 hq3 hq4 hp1 hp2
    by_cases hl : xs.length = ys.length
    · by_cases hu : Unl q (zat xs) xs.length
      · have HUN := hid hu
        have HLL := hid hl
        clear hu hl
        have hbn : ((xs.length : Int) != (ys.length : Int)) = false := by rw [HLL.out]; simp
        go_enter Tryd.func8, Tryd.ntmps8
        go_wp2_with fail
        refine (field_yes q w h3 h4 HP.out).mono ?_
        rintro e w1 ⟨rfl, hc1, hb1, hlt1⟩
        have HC1 := hid hc1
        have HB1 := hid hb1
        have HL1' := hid ((HL1.out.below hb1).mono hb1.size)
        have HR2' := hid ((HR2.out.below hb1).mono hb1.size)
        clear hc1 hb1
        go_wp2_with (at_builtin; refine wpList_copy w1 rfl _ _ rfl rfl a1 c1 xs rfl (by omega) HL1'.out ?_)
        intro ax cx w2 hlx hb2 hlt2
        have HA2 : Hid (Alive w2 [(ax, xs), (a1, xs), (a2, ys)]) := (((Alive.nil w2).cons ((HR2'.out.below hb2).mono hb2.size)).cons ((HL1'.out.row.below hb2).mono hb2.size)).cons hlx.row
        have HC2 := hid ((hb2.cell (p := ⟨w.heap.size, 0, none⟩) hlt1).trans HC1.out)
        have HB2 : Hid (Below w.heap.size w w2) := HB1.out.trans (hb2.mono (by omega))
        have hlt2' : w.heap.size < w2.heap.size := by omega
        clear hlx hb2 HL1' HR2' HC1
        go_wp2_with fail
        refine (fit_any q w.heap.size cx c2 ax a2 xs ys w2 HP.out h3 h4 HC2.out hlx HF1.out HF2.out (HA2.out.at 0 rfl) (HA2.out.at 2 rfl) HLL.out HUN.out).mono ?_
        rintro e w3 ⟨af, cf', rfl, hnew, hb3⟩
        have HA3 : Hid (Alive w3 [(ax, xs), (a1, xs), (a2, ys), (af, pfit q xs ys)]) := fun e he => by
          rcases List.mem_append.1 (show e ∈ [(ax, xs), (a1, xs), (a2, ys)] ++ [(af, pfit q xs ys)] from he) with h | h
          · exact (HA2.out.step hb3) e h
          · rw [List.mem_singleton.1 h]; exact hnew.row
        have HC3 := hid ((hb3.cell (p := ⟨w.heap.size, 0, none⟩) hlt2').trans HC2.out)
        have HB3 : Hid (Below w.heap.size w w3) := HB2.out.trans (hb3.mono HB2.out.size)
        have hlt3 : w.heap.size < w3.heap.size := by have := hb3.size; omega
        clear hnew hb3 HA2 HC2 HB2
        go_wp2_with fail
        refine (ints_same _ _ _ _ _ cx c1 w3 (HA3.out.at 0 rfl) (HA3.out.at 1 rfl) (by omega)).mono ?_
        rintro e w4 ⟨rfl, n4, rfl⟩
        have HA4 := hid (HA3.out.drewN n4)
        have HB4 := hid (below_drewN HB3.out n4)
        have HU := hid (runlike_any q c1 a1 xs (w3.drewN n4) h3 h4 (by omega) HF1.out (HA4.out.at 1 rfl))
        have HC4 : Hid ((w3.drewN n4).cell? ⟨w.heap.size, 0, none⟩ = some (.int .i64 q)) := HC3.out
        have hlt4 : w.heap.size < (w3.drewN n4).heap.size := hlt3
        rw [unlB_yes HUN.out] at HU
        generalize w3.drewN n4 = w4 at *
        go_wp2_with fail
        refine HU.out.mono ?_
        rintro e w5 ⟨rfl, hb5⟩
        have HA5 := hid (HA4.out.step hb5)
        have HB5 : Hid (Below w.heap.size w w5) := HB4.out.trans (hb5.mono HB4.out.size)
        have HC5 := hid ((hb5.cell (p := ⟨w.heap.size, 0, none⟩) hlt4).trans HC4.out)
        have hlt5 : w.heap.size < w5.heap.size := by have := hb5.size; omega
        clear hb5
        go_wp2_with fail
        refine (error_nil 0 w5).mono ?_
        rintro e w6 ⟨rfl, rfl⟩
        have h00 : ((0 : Int) == 0) = true := by decide
        go_wp2_with fail
        refine (rfit_any q c1 c2 a1 a2 xs ys w6 h3 h4 hlx HF1.out HF2.out (HA5.out.at 1 rfl) (HA5.out.at 2 rfl) HLL.out).mono ?_
        rintro e w7 ⟨aw, cw, rfl, hrw, hb7⟩
        have HA7 := hid ((HA5.out.step hb7).cons hrw)
        have HB7 : Hid (Below w.heap.size w w7) := HB5.out.trans (hb7.mono HB5.out.size)
        have HC7 := hid ((hb7.cell (p := ⟨w.heap.size, 0, none⟩) hlt5).trans HC5.out)
        have hlt7 : w.heap.size < w7.heap.size := by have := hb7.size; omega
        have hpf : (pfit q xs ys).length ≤ 9223372036854775807 := by have := Pol.tp_le q (FS q xs ys xs.length) xs.length; rw [pfit, Pol.mk_length]; omega
        have hpv : (pvan q xs).length ≤ 9223372036854775807 := by rw [(pvan_list h3 xs).1]; omega
        clear hrw hb7
        go_wp2_with fail
        refine (ints_same _ _ _ _ _ cf' cw w7 (HA7.out.at 4 rfl) (HA7.out.at 0 rfl) hpf).mono ?_
        rintro e w8 ⟨rfl, n8, rfl⟩
        have HA8 := hid (HA7.out.drewN n8)
        have HB8 := hid (below_drewN HB7.out n8)
        have HC8 : Hid ((w7.drewN n8).cell? ⟨w.heap.size, 0, none⟩ = some (.int .i64 q)) := HC7.out
        have hlt8 : w.heap.size < (w7.drewN n8).heap.size := hlt7
        generalize w7.drewN n8 = w8 at *
        go_wp2_with fail
        refine (vanish_any q w.heap.size cx ax xs w8 h3 h4 HC8.out hlx HF1.out (HA8.out.at 1 rfl)).mono ?_
        rintro e w9 ⟨rfl, hcv, hb9, hs9⟩
        have HA9 := hid ((HA8.out.step hb9).cons (hcv.row (zs := pvan q xs) (Nat.le_refl _) (fun _ _ => rfl) (show w8.heap.size < w9.heap.size by omega)))
        have HB9 : Hid (Below w.heap.size w w9) := HB8.out.trans (hb9.mono HB8.out.size)
        have hs9' : w8.heap.size < w9.heap.size := by omega
        clear hcv hb9 hs9
        have HRV := hid (rvanish_any q c1 xs.length (-1) a1 xs w9 h3 h4 hlx HF1.out (HA9.out.at 3 rfl) (fun i hi => by
          rw [decide_eq_false (by omega), beq_eq_false_iff_ne]; omega))
        rw [vskl_van] at HRV
        go_wp2_with fail
        refine HRV.out.mono ?_
        rintro e w10 ⟨av, cv, rfl, hrv, hb10⟩
        have HA10 := hid ((HA9.out.step hb10).cons hrv)
        have HB10 : Hid (Below w.heap.size w w10) := HB9.out.trans (hb10.mono HB9.out.size)
        clear hrv hb10
        go_wp2_with fail
        refine (ints_same _ _ _ _ _ _ cv w10 (HA10.out.at 1 rfl) (HA10.out.at 0 rfl) hpv).mono ?_
        rintro e w11 ⟨rfl, n11, rfl⟩
        go_wp2_with fail
        go_ret
        exact ⟨rfl, below_drewN HB10.out n11⟩
      · have HUN := hid hu
        have HLL := hid hl
        clear hu hl
        have hbn : ((xs.length : Int) != (ys.length : Int)) = false := by rw [HLL.out]; simp
        go_enter Tryd.func8, Tryd.ntmps8
        go_wp2_with fail
        refine (field_yes q w h3 h4 HP.out).mono ?_
        rintro e w1 ⟨rfl, hc1, hb1, hlt1⟩
        have HC1 := hid hc1
        have HB1 := hid hb1
        have HL1' := hid ((HL1.out.below hb1).mono hb1.size)
        have HR2' := hid ((HR2.out.below hb1).mono hb1.size)
        clear hc1 hb1
        go_wp2_with (at_builtin; refine wpList_copy w1 rfl _ _ rfl rfl a1 c1 xs rfl (by omega) HL1'.out ?_)
        intro ax cx w2 hlx hb2 hlt2
        have HA2 : Hid (Alive w2 [(ax, xs), (a1, xs), (a2, ys)]) := (((Alive.nil w2).cons ((HR2'.out.below hb2).mono hb2.size)).cons ((HL1'.out.row.below hb2).mono hb2.size)).cons hlx.row
        have HC2 := hid ((hb2.cell (p := ⟨w.heap.size, 0, none⟩) hlt1).trans HC1.out)
        have HB2 : Hid (Below w.heap.size w w2) := HB1.out.trans (hb2.mono (by omega))
        have hlt2' : w.heap.size < w2.heap.size := by omega
        clear hlx hb2 HL1' HR2' HC1
        go_wp2_with fail
        refine (fit_same q w.heap.size cx c2 ax a2 xs ys w2 h3 h4 HC2.out (by omega) HF1.out (HA2.out.at 0 rfl) HLL.out HUN.out).mono ?_
        rintro e w3 ⟨rfl, hb3⟩
        have HA3 := hid (HA2.out.step hb3)
        have HB3 : Hid (Below w.heap.size w w3) := HB2.out.trans (hb3.mono HB2.out.size)
        clear hb3 HA2 HC2 HB2
        go_wp2_with fail
        refine (ints_same _ _ _ _ _ cx c1 w3 (HA3.out.at 0 rfl) (HA3.out.at 1 rfl) (by omega)).mono ?_
        rintro e w4 ⟨rfl, n4, rfl⟩
        have HA4 := hid (HA3.out.drewN n4)
        have HB4 := hid (below_drewN HB3.out n4)
        have HU := hid (runlike_any q c1 a1 xs (w3.drewN n4) h3 h4 (by omega) HF1.out (HA4.out.at 1 rfl))
        rw [unlB_no HUN.out] at HU
        generalize w3.drewN n4 = w4 at *
        go_wp2_with fail
        refine HU.out.mono ?_
        rintro e w5 ⟨rfl, hb5⟩
        have HA5 := hid (HA4.out.step hb5)
        have HB5 : Hid (Below w.heap.size w w5) := HB4.out.trans (hb5.mono HB4.out.size)
        clear hb5
        go_wp2_with fail
        refine (error_hit 4 4 w5 (HLD.out.below HB5.out)).mono ?_
        rintro e w6 ⟨rfl, hb6⟩
        have HB6 : Hid (Below w.heap.size w w6) := HB5.out.trans (hb6.mono HB5.out.size)
        clear hb6
        have h44 : ((4 : Int) == 4) = true := by decide
        go_wp2_with fail
        go_ret
        exact ⟨rfl, HB6.out⟩
    · have hbn : ((xs.length : Int) != (ys.length : Int)) = true := by rw [bne_iff_ne]; omega
      have HLL := hid hl
      clear hl
      go_enter Tryd.func8, Tryd.ntmps8
      go_wp2_with fail
      refine (field_yes q w h3 h4 HP.out).mono ?_
      rintro e w1 ⟨rfl, hc1, hb1, hlt1⟩
      have HC1 := hid hc1
      have HB1 := hid hb1
      have HL1' := hid ((HL1.out.below hb1).mono hb1.size)
      have HR2' := hid ((HR2.out.below hb1).mono hb1.size)
      clear hc1 hb1
      go_wp2_with (at_builtin; refine wpList_copy w1 rfl _ _ rfl rfl a1 c1 xs rfl (by omega) HL1'.out ?_)
      intro ax cx w2 hlx hb2 hlt2
      have HA2 : Hid (Alive w2 [(ax, xs), (a1, xs), (a2, ys)]) := (((Alive.nil w2).cons ((HR2'.out.below hb2).mono hb2.size)).cons ((HL1'.out.row.below hb2).mono hb2.size)).cons hlx.row
      have HC2 := hid ((hb2.cell (p := ⟨w.heap.size, 0, none⟩) hlt1).trans HC1.out)
      have HB2 : Hid (Below w.heap.size w w2) := HB1.out.trans (hb2.mono (by omega))
      have hlt2' : w.heap.size < w2.heap.size := by omega
      clear hlx hb2 HL1' HR2' HC1
      go_wp2_with fail
      refine (fit_size w.heap.size cx c2 ax a2 xs ys w2 HLL.out).mono ?_
      rintro e w3 ⟨rfl, rfl⟩
      have HA3 := HA2
      have HB3 := HB2
      go_wp2_with fail
      refine (ints_same _ _ _ _ _ cx c1 w3 (HA3.out.at 0 rfl) (HA3.out.at 1 rfl) (by omega)).mono ?_
      rintro e w4 ⟨rfl, n4, rfl⟩
      have HA4 := hid (HA3.out.drewN n4)
      have HB4 := hid (below_drewN HB3.out n4)
      have HU := hid (runlike_any q c1 a1 xs (w3.drewN n4) h3 h4 (by omega) HF1.out (HA4.out.at 1 rfl))
      generalize w3.drewN n4 = w4 at *
      go_wp2_with fail
      refine HU.out.mono ?_
      rintro e w5 ⟨rfl, hb5⟩
      have HA5 := hid (HA4.out.step hb5)
      have HB5 : Hid (Below w.heap.size w w5) := HB4.out.trans (hb5.mono HB4.out.size)
      clear hb5
      generalize unlB q xs = ub at *
      go_wp2_with fail
      refine (error_hit 2 2 w5 (HLD.out.below HB5.out)).mono ?_
      rintro e w6 ⟨rfl, hb6⟩
      have HB6 : Hid (Below w.heap.size w w6) := HB5.out.trans (hb6.mono HB5.out.size)
      clear hb6
      have h22 : ((2 : Int) == 2) = true := by decide
      go_wp2_with fail
      go_ret
      exact ⟨rfl, HB6.out⟩
  · have HN := hid hok
    clear hok hf1 hf2 hl1 hr2
    go_enter Tryd.func8, Tryd.ntmps8
    go_wp2_with fail
    refine (field_no p w hL HN.out hp1 hp2).mono ?_
    rintro e w1 ⟨rfl, hb1⟩
    have HB1 := hid hb1
    clear hb1
    go_wp2_with fail
    go_ret
    exact ⟨rfl, HB1.out⟩

end Go.Proofs.YtfombbbiilalpabDoor
