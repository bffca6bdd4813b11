/- SumsChecks: the walk. -/
import Derived.Test.YtecaifjbmfianagGreatDoorLawUTotals
namespace Go.Proofs.YtecaifjbmfianagGreatDoor
open Go.RowKit

set_option maxRecDepth 100000 in
set_option maxHeartbeats 4000000 in
theorem uchecks_good (CK : ChkAs) (q : Nat) (claim d : Int) (ar af ad : Option Addr) (cr cf cd : Nat) (rounds : List (List Int)) (finals drawn : List Int) (w : World) (h3 : 3 ≤ q) (h4 : q ≤ 2147483647) (hpr : Num.Prime q)
    (h1 : InR w ar cr rounds) (h2 : InL w af cf finals) (hd : InL w ad cd drawn) (hc1 : -9223372036854775808 ≤ claim) (hc2 : claim ≤ 9223372036854775807) (hd1 : -9223372036854775808 ≤ d) (hd2 : d ≤ 9223372036854775807) :
    Calls Tryz.prog 3 #[.int .i64 q, .int .i64 claim, .int .i64 d, .agg #[.slice ar rounds.length cr, .slice af finals.length cf], .slice ad drawn.length cd] w fun e w' => e = .returned (.bool true) ∧ Below w.heap.size w w' := by
  have HP := hid hpr
  have H1 := hid h1
  have H2 := hid h2
  have H3 := hid hd
  have HCK := hid CK
  obtain ⟨rl, hrl⟩ : ∃ rl, rl = rounds.length := ⟨_, rfl⟩
  obtain ⟨fl, hfl⟩ : ∃ fl, fl = finals.length := ⟨_, rfl⟩
  obtain ⟨dl, hdl⟩ : ∃ dl, dl = drawn.length := ⟨_, rfl⟩
  have HRL := hid hrl
  have HFL := hid hfl
  have HDL := hid hdl
  have hfl2 : fl ≤ 17592186043904 := by rw [hfl]; exact h2.len
  obtain ⟨C, hC⟩ : ∃ C, C = chkz q claim d rounds finals drawn := ⟨_, rfl⟩
  have HRC : Hid (∀ W, Below w.heap.size w W → Calls Tryz.prog 7 #[.int .i64 q, .int .i64 claim, .int .i64 d, .agg #[.slice ar rl cr, .slice af fl cf], .slice ad dl cd] W fun e w' => e = .returned (.bool C) ∧ Below W.heap.size W w') := fun W h => by
    have k1 := h1.below h
    have k2 := h2.below h
    have k3 := hd.below h
    have := rcheck4_any q cr cf cd ar af ad claim d rounds finals drawn W h3 h4 hc1 hc2 k1.len k1.lens k2.len k3.len k1.fit k2.fit k3.fit k1.lst k2.lst k3.lst
    rw [← hrl, ← hfl, ← hdl, ← hC] at this
    exact this
  have HCP : Hid (∀ W, Below w.heap.size w W → Calls Tryz.prog 5 #[.slice ar rl cr] W fun e w' => ∃ v, e = .returned v ∧ OwnR W.heap.size w' v rounds ∧ Below W.heap.size W w') := fun W h => by
    have := copied_any cr ar rounds W (by have := h1.len; omega) (fun k hk => by have := h1.lens k hk; omega) (h1.below h).lst
    rw [← hrl] at this
    exact this
  have HPC : Hid (∀ (W : World) (ao bo : Option Addr) (co do' : Nat), InF q (w.heap.size + 1) W → InR W ao co rounds → InL W bo do' finals → Below w.heap.size w W → Calls Tryz.prog 6 #[.pointer (some ⟨w.heap.size + 1, 0, none⟩), .int .i64 claim, .int .i64 d, .agg #[.slice ao rl co, .slice bo fl do'], .slice ad dl cd] W fun e w' => e = .returned (.bool C) ∧ Below W.heap.size W w') := fun W ao bo co do' g1 g2 g3 h => by
    have := CK q (w.heap.size + 1) co do' cd ao bo ad claim d rounds finals drawn W g1 g2 g3 (hd.below h) hc1 hc2 hd1 hd2
    rw [← hrl, ← hfl, ← hdl, ← hC] at this
    exact this
  rw [← hrl, ← hfl, ← hdl]
  have HB0 : Hid (Below w.heap.size w (w.alloc (.cells #[.slice ar rl cr, .slice af fl cf] 25))) := (Below.refl _ _).alloc (Nat.le_refl _) _
  have HD0 : Hid ((w.alloc (.cells #[.slice ar rl cr, .slice af fl cf] 25)).heap[w.heap.size]? = some (.cells #[.slice ar rl cr, .slice af fl cf] 25 (0, 0))) := heap_alloc_new w _
  have hsz : (w.alloc (.cells #[.slice ar rl cr, .slice af fl cf] 25)).heap.size = w.heap.size + 1 := by simp
  have HSZ := hid hsz
  clear hpr h1 h2 hd CK hrl hfl hdl hC hsz
  go_enter Tryz.func3, Tryz.ntmps3
  go_wp2_with fail
  obtain ⟨W0, hW0⟩ : ∃ W0, W0 = w.alloc (.cells #[.slice ar rl cr, .slice af fl cf] 25) := ⟨_, rfl⟩
  rw [← hW0] at HB0 HD0 HSZ ⊢
  clear hW0
  refine (field_yes q W0 h3 h4 HP.out).mono ?_
  rintro e w1 ⟨rfl, hc, hb1, hs1⟩
  rw [HSZ.out] at hc
  rw [HSZ.out]
  have HBW : Hid (Below W0.heap.size W0 w1) := hb1
  have HB1 : Hid (Below w.heap.size w w1) := HB0.out.trans (hb1.mono HB0.out.size)
  have HI1 : Hid (InF q (w.heap.size + 1) w1) := ⟨HP.out, h3, h4, hc⟩
  have HBK : Hid (∀ W, Below W0.heap.size W0 W → W.heap[w.heap.size]? = some (.cells #[.slice ar rl cr, .slice af fl cf] 25 (0, 0))) := fun W h => (h.block _ (by rw [HSZ.out]; omega)).trans HD0.out
  have d0 := dua0 (HBK.out w1 hb1)
  clear hc hb1 hs1
  go_wp2_with fail
  refine (HCP.out w1 HB1.out).mono ?_
  rintro e w2 ⟨v2, rfl, ho2, hb2⟩
  obtain ⟨ao, co, hv2, hr2⟩ := (H1.out.below HB1.out).own ho2
  rw [← HRL.out] at hv2
  subst hv2
  have HBW2 : Hid (Below W0.heap.size W0 w2) := HBW.out.trans (hb2.mono HBW.out.size)
  have HB2 : Hid (Below w.heap.size w w2) := HB1.out.trans (hb2.mono HB1.out.size)
  have HO2 := hid hr2
  have HI2 := hid (HI1.out.below hb2)
  have HA2 := hid (H2.out.below HB2.out)
  have hba : Below w2.heap.size w2 (w2.alloc (.cells #[] 3)) := (Below.refl _ _).alloc (Nat.le_refl _) _
  have d1 := dua1 (HBK.out (w2.alloc (.cells #[] 3)) (HBW2.out.trans (hba.mono HBW2.out.size)))
  clear ho2 hr2 hb2 HCP HI1 HB1 HBW d0 hba
  go_wp2_with (at_builtin; refine wpList_copy w2 rfl _ _ rfl rfl af cf finals (by show Value.slice af fl cf = _; rw [HFL.out]) (by rw [← HFL.out]; omega) HA2.out.lst ?_)
  intro bo do' w3 hl3 hb3 _
  rw [← HFL.out]
  have HB3 : Hid (Below w.heap.size w w3) := HB2.out.trans (hb3.mono HB2.out.size)
  have HBW3 : Hid (Below W0.heap.size W0 w3) := HBW2.out.trans (hb3.mono HBW2.out.size)
  have HN3 : Hid (InL w3 bo do' finals) := ⟨H2.out.len, H2.out.fit, hl3⟩
  have HPC3 := hid (HPC.out w3 ao bo co do' (HI2.out.below hb3) (HO2.out.below hb3) HN3.out HB3.out)
  clear hl3 hb3 HI2 HO2 HA2 HB2 HBW2 d1
  go_wp2_with fail
  refine HPC3.out.mono ?_
  rintro e w4 ⟨rfl, hb4⟩
  have HB4 : Hid (Below w.heap.size w w4) := HB3.out.trans (hb4.mono HB3.out.size)
  have HBW4 : Hid (Below W0.heap.size W0 w4) := HBW3.out.trans (hb4.mono HBW3.out.size)
  have d0 := dua0 (HBK.out w4 HBW4.out)
  have d1 := dua1 (HBK.out w4 HBW4.out)
  have hCC : (C == C) = true := by simp
  clear hb4 HPC3 HN3 HB3 HBW3
  go_wp2_with fail
  refine (HRC.out w4 HB4.out).mono ?_
  rintro e w5 ⟨rfl, hb5⟩
  have HB5 : Hid (Below w.heap.size w w5) := HB4.out.trans (hb5.mono HB4.out.size)
  clear hb5
  go_wp2_with fail
  go_ret
  exact ⟨rfl, HB5.out⟩

set_option maxRecDepth 100000 in
theorem uchecks_walk (CK : ChkAs) (p claim d : Int) (ar af ad : Option Addr) (cr cf cd : Nat) (rounds : List (List Int)) (finals drawn : List Int) (w : World) (hL : Laid w) (hp1 : -9223372036854775808 ≤ p) (hp2 : p ≤ 9223372036854775807) (hc1 : -9223372036854775808 ≤ claim) (hc2 : claim ≤ 9223372036854775807) (hd1 : -9223372036854775808 ≤ d) (hd2 : d ≤ 9223372036854775807)
    (hr : (rounds.length ≤ 5864062014634 ∧ ∀ k, k < rounds.length → (rat rounds k).length ≤ 17592186043904) ∧ finals.length ≤ 17592186043904) (lr : LstR w.heap.size w ar cr rounds) (lf : Lst w.heap.size w af cf finals) (fr : ∀ k, k < rounds.length → Fits (rat rounds k)) (ff : Fits finals)
    (hr4 : drawn.length ≤ 17592186043904) (hf4 : Fits drawn) (hl4 : Lst w.heap.size w ad cd drawn) :
    Calls Tryz.prog 3 #[.int .i64 p, .int .i64 claim, .int .i64 d, .agg #[.slice ar rounds.length cr, .slice af finals.length cf], .slice ad drawn.length cd] w fun e w' => e = .returned (.bool true) ∧ Below w.heap.size w w' := by
  by_cases hg : okPrime p
  · obtain ⟨hq3, hq4, hqp⟩ := hg
    obtain ⟨q, rfl⟩ := Int.eq_ofNat_of_zero_le (show 0 ≤ p by omega)
    exact uchecks_good CK q claim d ar af ad cr cf cd rounds finals drawn w (by omega) (by omega) (by simpa using hqp) ⟨hr.1.1, hr.1.2, fr, lr⟩ ⟨hr.2, ff, lf⟩ ⟨hr4, hf4, hl4⟩ hc1 hc2 hd1 hd2
  · clear hr lr lf fr ff hr4 hf4 hl4 CK
    have HB0 : Hid (Below w.heap.size w (w.alloc (.cells #[.slice ar rounds.length cr, .slice af finals.length cf] 25))) := (Below.refl _ _).alloc (Nat.le_refl _) _
    have HL0 := hid (hL.below HB0.out)
    go_enter Tryz.func3, Tryz.ntmps3
    go_wp2_with fail
    refine (field_no p _ HL0.out hg hp1 hp2).mono ?_
    rintro e w1 ⟨rfl, hb1⟩
    have HB1 : Hid (Below w.heap.size w w1) := HB0.out.trans (hb1.mono HB0.out.size)
    clear hb1
    go_wp2_with fail
    go_ret
    exact ⟨rfl, HB1.out⟩

end Go.Proofs.YtecaifjbmfianagGreatDoor
