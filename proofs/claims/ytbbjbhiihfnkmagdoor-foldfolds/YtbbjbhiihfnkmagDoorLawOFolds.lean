/- FoldFolds: the walk. -/
import Derived.Test.YtbbjbhiihfnkmagDoorFolM
import Derived.Test.YtbbjbhiihfnkmagDoorFolR
import Derived.Test.YtbbjbhiihfnkmagDoorLawOCatches
import Derived.Test.YtbbjbhiihfnkmagDoorLawDValues
namespace Go.Proofs.YtbbjbhiihfnkmagDoor
open Go.RowKit

set_option maxRecDepth 1000000 in
set_option maxHeartbeats 4000000 in
theorem ofolds_walk (FD : FldAs) (p n s : Int) (a1 : Option Addr) (c1 : Nat) (xs : List Int) (c : Int) (w : World) (hL : Laid w) (hp1 : -9223372036854775808 ≤ p) (hp2 : p ≤ 9223372036854775807) (hn1 : -9223372036854775808 ≤ n) (hn2 : n ≤ 9223372036854775807) (hs1 : -9223372036854775808 ≤ s) (hs2 : s ≤ 9223372036854775807)
    (hlx : xs.length ≤ 17592186043904) (hf1 : Fits xs) (hl1 : Lst w.heap.size w a1 c1 xs) (hc1 : -9223372036854775808 ≤ c) (hc2 : c ≤ 9223372036854775807) :
    Calls Tryd.prog 7 #[.int .i64 p, .int .i64 n, .int .i64 s, .slice a1 xs.length c1, .int .i64 c] w fun e w' => e = .returned (.bool true) ∧ Below w.heap.size w w' := by
  have HF1 := hid hf1
  have HL1 := hid hl1
  have HFD := hid FD
  clear hf1 hl1 FD
  by_cases hgood : Good p n s
  · obtain ⟨q, k, rfl, rfl, hg⟩ := hgood
    have HG := hid hg
    obtain ⟨hpr, h3, h4, hk, hd, hs⟩ := hg
    have hnp : 0 < 2 ^ k := Nat.pow_pos (by decide)
    have hnl := two_pow_le hk
    have HM := hid (fun w1 hl => made5_yes q k s w1 hl HG.out hs1 hs2)
    have HSI : Hid (∀ (w1 : World) (b d r : Nat), RootIs q ((2 ^ k : Nat) : Int) r → w1.cell? ⟨b, 0, none⟩ = some (.int .i64 q) → DomAt w1 d b ((2 ^ k : Nat) : Int) r (s % (q : Int)) → Below w.heap.size w w1 →
        Sit w (w1.alloc (.cells #[.int .i64 q, .int .i64 ((2 ^ k : Nat) : Int), .int .i64 (s % (q : Int)), .int .i64 r] 59)) q b d (2 ^ k) w1.heap.size r (s % (q : Int))) := fun w1 b d r z1 z2 z3 z4 => sit_of HG.out hL z1 z2 z3 z4
    have HEV : Hid (1 < 2 ^ k → 2 ^ k = 2 * (2 ^ k / 2)) := fun h => by
      cases k with
      | zero => simp at h
      | succ k => rw [Nat.pow_succ]; omega
    have HLA := hid hL
    obtain ⟨X, hX⟩ : ∃ X, X = xs.length := ⟨_, rfl⟩
    have HX := hid hX
    rw [← hX] at hlx ⊢
    clear hpr hd hs hk hp1 hp2 hn1 hn2 hL hX
    generalize 2 ^ k = N at *
    go_enter Tryd.func7, Tryd.ntmps7
    go_wp2_with fail
    refine (HM.out _ HLA.out).mono ?_
    rintro e w1 ⟨b, d, r, v, rfl, hr, hc1', hda, _, hb1⟩
    have HS2 := hid (HSI.out w1 b d r hr hc1' hda hb1)
    have hba : Below w1.heap.size w1 (w1.alloc (.cells #[.int .i64 q, .int .i64 N, .int .i64 (s % (q : Int)), .int .i64 r] 59)) := (Below.refl _ _).alloc (Nat.le_refl _) _
    have HL2 := hid ((((HL1.out.below hb1).mono hb1.size).below hba).mono hba.size)
    have hsx : (w1.alloc (.cells #[.int .i64 q, .int .i64 N, .int .i64 (s % (q : Int)), .int .i64 r] 59)).heap.size = w1.heap.size + 1 := by simp
    have HSX := hid hsx
    obtain ⟨t0, t1⟩ := emod_bounds s q h3
    generalize s % (q : Int) = t at *
    clear hr hc1' hda hb1 HM HSI HL1 hba hsx
    have hr0 := HS2.out.dom.hr0
    have hr1 := HS2.out.dom.hr1
    go_wp2_with (at_builtin; refine wpList_copyG (w1.alloc (.cells #[.int .i64 q, .int .i64 N, .int .i64 t, .int .i64 r] 59)) (w1.heap.size + 1) HSX.out rfl _ _ rfl rfl a1 c1 xs (by rw [← HX.out]; rfl) (by rw [← HX.out]; omega) HL2.out ?_)
    intro ax cx w3 hlx3 hb3 hlt3
    rw [← HSX.out] at hb3
    generalize (w1.alloc (.cells #[.int .i64 q, .int .i64 N, .int .i64 t, .int .i64 r] 59)) = w2 at *
    have HS3 := hid (HS2.out.step hb3)
    have HX3 := hid hlx3
    have HY3 := hid ((HL2.out.below hb3).mono hb3.size)
    rw [← HX.out]
    clear hlx3 hb3 hlt3 HS2 HL2 HSX
    have HFO := hid (HFD.out q b d N cx ax r t c xs w3 HS3.out.dom (by rw [← HX.out]; exact hlx) HF1.out HX3.out hc1 hc2)
    rw [← HX.out] at HFO
    by_cases hN : X = N ∧ 1 < N
    · obtain ⟨m, hm⟩ : ∃ m, m = N / 2 := ⟨_, rfl⟩
      have hev : N = 2 * m := by rw [hm]; exact HEV.out hN.2
      have HEQ := hid hev
      have HXN := hid hN.1
      have hm2 : m ≤ 65536 := by omega
      have hN1 : ¬ (N : Int) = 1 := by omega
      have hN2 : ¬ N = 1 := by omega
      have HF4 : Hid (Calls Tryd.prog 32 #[.pointer (some ⟨d, 0, none⟩), .slice ax N cx, .int .i64 c] w3 fun e w' => ∃ a' c', e = .returned (.tuple #[.slice a' m c', .nilIface]) ∧ Lst w'.heap.size w' a' c' (Fol.foldz q m r t xs c) ∧ Below w3.heap.size w3 w') := by
        have hh := HFO.out
        rw [HXN.out] at hh
        refine hh.mono fun e w' ⟨g1, g2, _⟩ => ?_
        obtain ⟨a', c', g3, g4⟩ := g2 ⟨rfl, hN.2⟩
        rw [← hm] at g3 g4
        exact ⟨a', c', g3, g4, g1⟩
      have HRF : Hid (∀ W : World, Lst W.heap.size W a1 c1 xs → Calls Tryd.prog 33 #[.agg #[.int .i64 q, .int .i64 (N : Int), .int .i64 t, .int .i64 r], .slice a1 N c1, .int .i64 c] W fun e w' => ∃ a' c', e = .returned (.slice a' m c') ∧ Lst w'.heap.size w' a' c' (Fol.foldz q m r t xs c) ∧ Below W.heap.size W w') := fun W hw => by
        have hh := rfold_any q m c1 a1 r t c xs W W.heap.size h3 h4 hm2 hr0 hr1 t0 t1 (by rw [← HX.out, HXN.out, HEQ.out]) HF1.out hc1 hc2 (Nat.le_refl _) hw.row
        rw [← HX.out, HXN.out, ← HEQ.out] at hh
        refine hh.mono fun e w' ⟨v, g1, g2, g3⟩ => ?_
        obtain ⟨av, cv, hv, hlv⟩ := lst_of_owns g2
        rw [Fol.foldz_len] at hv
        subst hv
        exact ⟨av, cv, g1, hlv, g3⟩
      obtain ⟨Z, hZ⟩ : ∃ Z, Z = Fol.foldz q m r t xs c := ⟨_, rfl⟩
      have HZL : Hid (Z.length = m) := by unfold Hid; rw [hZ, Fol.foldz_len]
      rw [← hZ] at HF4 HRF
      have HXX : Hid (xs.length = N) := by unfold Hid; rw [← HX.out, HXN.out]
      rw [HXN.out]
      clear hN hm hev hZ HFO HEV HX HXN hlx
      go_wp2_with fail
      refine HF4.out.mono ?_
      rintro e w4 ⟨al, cl, rfl, hl4, hb4⟩
      have HS4 := hid (HS3.out.step hb4)
      have HX4 := hid ((HX3.out.below hb4).mono hb4.size)
      have HY4 := hid ((HY3.out.below hb4).mono hb4.size)
      have HL4 := hid hl4
      clear hl4 hb4 HF4 HS3 HX3 HY3
      obtain ⟨z0, z1, z2, z3⟩ := HS4.out.cells
      go_wp2_with fail
      refine (HRF.out w4 HY4.out).mono ?_
      rintro e w5 ⟨am, cm, rfl, hl5, hb5⟩
      have HB5 : Hid (Below w.heap.size w w5) := HS4.out.below.trans (hb5.mono HS4.out.below.size)
      have HI5 : Hid (Calls Tryd.prog 14 #[.slice al m cl, .slice am m cm] w5 fun e w' => e = .returned (.bool true) ∧ ∃ n, w' = w5.drewN n) := by
        have hh := ints_same _ _ Z al am cl cm w5 ((HL4.out.below hb5).mono hb5.size).row hl5.row (by rw [HZL.out]; omega)
        rw [HZL.out] at hh
        exact hh
      have HA5 : Hid (Alive w5 [(ax, xs), (a1, xs)]) := ((Alive.nil w5).cons ((HY4.out.below hb5).mono hb5.size).row).cons ((HX4.out.below hb5).mono hb5.size).row
      have HI6 : Hid (∀ n6 : Nat, Calls Tryd.prog 14 #[.slice ax N cx, .slice a1 N c1] (w5.drewN n6) fun e w' => e = .returned (.bool true) ∧ ∃ n, w' = (w5.drewN n6).drewN n) := fun n6 => by
        have hh := ints_same _ _ xs ax a1 cx c1 _ ((HA5.out.drewN n6).at 0 rfl) ((HA5.out.drewN n6).at 1 rfl) (by rw [HXX.out]; omega)
        rw [HXX.out] at hh
        exact hh
      clear hl5 hb5 z0 z1 z2 z3 HS4 HX4 HY4 HL4 HRF HA5
      go_wp2_with fail
      refine HI5.out.mono ?_
      rintro e w6 ⟨rfl, n6, rfl⟩
      go_wp2_with fail
      refine (HI6.out n6).mono ?_
      rintro e w7 ⟨rfl, n7, rfl⟩
      go_wp2_with fail
      go_ret
      exact ⟨rfl, below_drewN HB5.out _⟩
    · go_wp2_with fail
      refine HFO.out.mono ?_
      rintro e w4 ⟨hb4, _, hA⟩
      obtain ⟨a', c', rfl⟩ := hA hN
      have HS4 := hid (HS3.out.step hb4)
      have HER := hid (fun W hW => error_hit 2 2 W hW)
      by_cases hXN : X = N
      · subst hXN
        obtain rfl : X = 1 := by omega
        clear hb4 hA HFO HS3 hN HX3 HY3
        go_wp2_with fail
        refine (HER.out w4 HS4.out.laid).mono ?_
        rintro e w5 ⟨rfl, hb5⟩
        have HB5 : Hid (Below w.heap.size w w5) := HS4.out.below.trans (hb5.mono HS4.out.below.size)
        clear hb5 HER HS4
        go_wp2_with fail
        go_ret
        exact ⟨rfl, HB5.out⟩
      · have hXN2 : ¬ (X : Int) = (N : Int) := by omega
        clear hb4 hA HFO HS3 hN HX3 HY3
        go_wp2_with fail
        refine (HER.out w4 HS4.out.laid).mono ?_
        rintro e w5 ⟨rfl, hb5⟩
        have HB5 : Hid (Below w.heap.size w w5) := HS4.out.below.trans (hb5.mono HS4.out.below.size)
        clear hb5 HER HS4
        go_wp2_with fail
        go_ret
        exact ⟨rfl, HB5.out⟩
  · have HM := hid (made5_no p n s w hL hgood hp1 hp2 hn1 hn2 hs1 hs2)
    clear hgood
    go_enter Tryd.func7, Tryd.ntmps7
    go_wp2_with fail
    refine HM.out.mono ?_
    rintro e w1 ⟨rfl, hb1⟩
    have HB1 := hid hb1
    clear hb1
    go_wp2_with fail
    go_ret
    exact ⟨rfl, HB1.out.alloc HB1.out.size _⟩

end Go.Proofs.YtbbjbhiihfnkmagDoor
