/- The law PledgeMixes: its walk. -/
import Derived.Test.YtpgnabmkfkcogaaGreatDoorGxAT
import Derived.Test.YtpgnabmkfkcogaaGreatDoorGxAU
import Derived.Test.YtpgnabmkfkcogaaGreatDoorGxBA
import Derived.Test.YtpgnabmkfkcogaaGreatDoorGxAO
import Derived.Test.YtpgnabmkfkcogaaGreatDoorGxAQ
import Derived.Test.YtpgnabmkfkcogaaGreatDoorFld
namespace Go.Proofs.YtpgnabmkfkcogaaGreatDoor
open Go.RowKit

theorem rvariables_any (n cap : Nat) (a : Option Addr) (w : World) : Calls Tryz.prog 16 #[.slice a n cap] w fun e w' => e = .returned (.int .i64 (vrs n)) ∧ w' = w := rvars_any n cap a w
theorem vrs_bounds (n : Nat) : -1 ≤ vrs n ∧ vrs n ≤ 12 := by
  by_cases e : ∃ v : Nat, v ≤ 12 ∧ n = 2 ^ v
  · obtain ⟨v, h1, h2⟩ := e
    rw [vrs_yes h1 h2]
    omega
  · rw [vrs_no (fun v hv h => e ⟨v, hv, h⟩)]
    omega
theorem own_pm {w W : World} {cs : Array Value} {t : TypeId} (h : W = w.alloc (.cells cs t)) : Below w.heap.size w W ∧ W.heap[w.heap.size]? = some (.cells cs t (0, 0)) ∧ W.heap.size = w.heap.size + 1 := by
  subst h
  exact ⟨(Below.refl _ _).alloc (Nat.le_refl _) _, heap_alloc_new w _, by simp⟩
/-- are the rows that were looked at, up to one, not all of one length? -/
def bdx (rows : List (List Int)) (i : Nat) : Bool := ((rows.length : Int) == 0) || !(((List.range i).all fun k => (rat rows k).length == (rat rows 0).length))
theorem bdx_one (rows : List (List Int)) : bdx rows 1 = ((rows.length : Int) == 0) := by
  unfold bdx
  simp
theorem bdx_next {rows : List (List Int)} {i : Nat} (_ : 1 ≤ i) : bdx rows (i + 1) = (bdx rows i || ((((rat rows i).length : Int) != ((rat rows 0).length : Int)))) := by
  unfold bdx
  rw [List.range_succ, List.all_append, Bool.not_and, Bool.or_assoc]
  congr 2
  have h : (List.all [i] fun k => (rat rows k).length == (rat rows 0).length) = ((rat rows i).length == (rat rows 0).length) := by simp
  rw [h]
  by_cases e : (rat rows i).length = (rat rows 0).length
  · rw [e]; simp
  · have e2 : ((rat rows i).length == (rat rows 0).length) = false := by simp [e]
    have e3 : (((rat rows i).length : Int) != ((rat rows 0).length : Int)) = true := by simp; omega
    rw [e2, e3]; rfl
theorem bdx_good {rows : List (List Int)} {i : Nat} (h : MixOk rows) (hi : i = 1 ∨ i ≤ rows.length) : bdx rows i = false := by
  unfold bdx
  have h1 := h.1
  have e1 : ((rows.length : Int) == 0) = false := by rw [beq_eq_false_iff_ne]; omega
  rw [e1, Bool.false_or]
  have e2 : ((List.range i).all fun k => (rat rows k).length == (rat rows 0).length) = true := by
    rw [List.all_eq_true]
    intro k hk
    rw [List.mem_range] at hk
    rw [wiB_at h.2 (show k < rows.length by omega)]
    simp
  rw [e2]; rfl
theorem bdx_bad {rows : List (List Int)} {i : Nat} (h : ¬ MixOk rows) (hi : rows.length ≤ i) : bdx rows i = true := by
  unfold bdx
  by_cases h0 : rows.length = 0
  · rw [h0]; rfl
  have e1 : ((rows.length : Int) == 0) = false := by rw [beq_eq_false_iff_ne]; omega
  rw [e1, Bool.false_or]
  have e2 : ((List.range i).all fun k => (rat rows k).length == (rat rows 0).length) = false := by
    rw [Bool.eq_false_iff]
    intro hc
    rw [List.all_eq_true] at hc
    refine h ⟨by omega, wiB_yes (fun k hk => ?_)⟩
    have := hc k (List.mem_range.2 (by omega))
    simpa using this
  rw [e2]; rfl
theorem mixz_smr {q : Nat} (h3 : 3 ≤ q) (rows : List (List Int)) (r : Int) {i : Nat} (hi : i < (rat rows 0).length) : zat (mixz q rows r) i = dtz q rows.length (pwl q r rows.length) (pgc rows i) := by
  unfold mixz
  rw [ls_at _ _ _ hi, evz_dtz h3, pgc_len]

set_option maxRecDepth 100000 in
set_option maxHeartbeats 8000000 in
theorem emixes_yy (q k0 cR cT : Nat) (s r : Int) (aR aT : Option Addr) (rows : List (List Int)) (t : List Int) (w : World) (hL : Laid w) (hT : TabAt 2 Lib.deBruijn64tab w) (hg : GoodT q k0 s) (hs1 : -9223372036854775808 ≤ s) (hs2 : s ≤ 9223372036854775807) (hr1 : -9223372036854775808 ≤ r) (hr2 : r ≤ 9223372036854775807) (hrl : rows.length ≤ 17592186044000) (hF : FitsR rows) (hl : LstR w.heap.size w aR cR rows) (hft : Fits t) (hlt : Lst w.heap.size w aT cT t) (hM : MixOk rows) (v : Nat) (hv : v ≤ 12) (hvn : t.length = 2 ^ v) (hvf : 2 ^ (v - v / 2) ≤ 2 ^ k0 / 2) :
    Calls Tryz.prog 3 #[.int .i64 q, .int .i64 ((2 ^ k0 : Nat) : Int), .int .i64 s, .slice aR rows.length cR, .int .i64 r, .slice aT t.length cT] w fun e w' => e = .returned (.bool true) ∧ Below w.heap.size w w' := by
  have hq3 := hg.at'.h3
  have hq4 := hg.at'.h4
  have h23 := hg.h23
  have hpr := hid hg.at'.pr
  have hkN := two_pow_le hg.at'.hk
  have hN1 : 1 ≤ 2 ^ k0 := Nat.one_le_two_pow
  have HTH := hid (things_yes q k0 s w hg hs1 hs2)
  obtain ⟨N, hN⟩ : ∃ N, N = 2 ^ k0 := ⟨_, rfl⟩
  simp only [← hN] at HTH hkN hN1 hvf ⊢
  obtain ⟨tt, htt⟩ : ∃ tt, tt = s % (q : Int) := ⟨_, rfl⟩
  rw [← htt] at HTH
  obtain ⟨t0, t1⟩ := emod_bounds s q hq3
  rw [← htt] at t0 t1
  have HNW := hid (fun W => rdnew_any q (N : Int) s W hpr.out hq3 hq4 (by omega) (by omega) hs1 hs2)
  rw [← htt] at HNW
  have HTO : Hid (∀ W, Below w.heap.size w W → Calls Tryz.prog 11 #[.iface 101 (.int .i64 2), .int .i64 2] W fun x w' => x = .returned (.bool true) ∧ Below W.heap.size W w') := fun W hW => by
    have := told_any 2 2 W (hL.below hW)
    rw [beq_self_eq_true, errz_some (by decide)] at this
    exact this
  have HVR := hid (fun W => rvariables_any t.length cT aT W)
  obtain ⟨nr, hnr⟩ : ∃ nr, nr = rows.length := ⟨_, rfl⟩
  obtain ⟨nT, hnT⟩ : ∃ nT, nT = t.length := ⟨_, rfl⟩
  have HNR := hid hnr
  have HNT := hid hnT
  have HRW : Hid (∀ W, Below w.heap.size w W → LstR W.heap.size W aR cR rows) := fun W hW => (hl.below hW).mono hW.size
  have HTW : Hid (∀ W, Below w.heap.size w W → Lst W.heap.size W aT cT t ∧ TabAt 2 Lib.deBruijn64tab W) := fun W hW => ⟨(hlt.below hW).mono hW.size, tabZ_below hT hW⟩
  have HFR := hid hF
  have HFT := hid hft
  rw [← hnr, ← hnT]
  rw [← hnT] at HVR hvn
  have hnr2 : nr ≤ 17592186044000 := by omega
  have HNB : Hid (∀ i j, i < nr → j < nr → i < rows.length) := fun i j h _ => by rw [← hnr]; exact h
  have hMX : Hid (∀ (W : World) (b : Nat), Below w.heap.size w W → W.cell? ⟨b, 0, none⟩ = some (.int .i64 q) → Calls Tryz.prog 10 #[.pointer (some ⟨b, 0, none⟩), .slice aR nr cR, .int .i64 r] W fun e w' => Below W.heap.size W w' ∧
      (MixOk rows → ∃ g, e = .returned (.tuple #[.slice (some ⟨g, 0, none⟩) (rat rows 0).length (rat rows 0).length, .nilIface]) ∧ Lst w'.heap.size w' (some ⟨g, 0, none⟩) (rat rows 0).length (mixz q rows r)) ∧
      (¬ MixOk rows → e = .returned (.tuple #[.slice none 0 0, .iface 101 (.int .i64 2)]))) := fun W b hW hc => by
    rw [hnr]
    exact pmix_any q b cR r aR rows W hq3 hq4 hc (heap_lt hc) hr1 hr2 (by omega) hF ((hl.below hW).mono hW.size)
  have hmx : Tryz.prog.follows .mixedOrders = true := by kernel_rfl
  have HPW := hid (fun W => rpowers_any q nr r W hq3 hq4 hr1 hr2 hnr2)
  have h5 : 5 ≤ q := by omega
  clear hg hL hT hF hl hft hlt hN htt hnr hnT hrl
  have HOKM := hid hM
  have HVN := hid hvn
  have HVF := hid hvf
  clear hvn hvf
  go_enter Tryz.func3, Tryz.ntmps3
  go_wp2_with fail
  refine HTH.out.mono ?_
  rintro e w1 ⟨sp, b, n, dd, d, rr, rfl, hok, hsp, hrt, hD, hb1⟩
  have HS1 := hid hsp
  have HD1 := hid hD
  have HB1 := hid hb1
  have HOK := hid hok
  have HRT := hid hrt
  have HIN : Hid (∀ W, Below w1.heap.size w1 W → SpgAt W sp b q n dd ∧ DO W q b d N rr tt ∧ Below w.heap.size w W) := fun W hW => ⟨HS1.out.below hW HS1.out.lt HS1.out.ltb, HD1.out.below hW (heap_lt HD1.out.hp) HD1.out.da.lt, HB1.out.trans (hW.mono HB1.out.size)⟩
  clear hok hsp hrt hD hb1 HTH
  go_wp2_with fail
  refine (sfield_any q n dd b sp w1 HS1.out).mono ?_
  rintro e w0 ⟨rfl, hw⟩
  have hwx := hw.symm
  subst hwx
  clear hw
  have HMQ := hid (hMX.out w1 b HB1.out HS1.out.p)
  clear hMX
  go_wp2_with fail
  refine HMQ.out.mono ?_
  rintro e w2 ⟨hb2, hy2, hn2⟩
  have HB2 := hid hb2
  have HC2 : Hid (Below w.heap.size w w2) := HB1.out.trans (hb2.mono HB1.out.size)
  obtain ⟨g, rfl, hlm⟩ := hy2 HOKM.out
  have HLM := hid hlm
  have hb0 : (nr == 0) = false := by have := HOKM.out.1; rw [← HNR.out] at this; rw [beq_eq_false_iff_ne]; omega
  have hb0' : ((nr : Int) == 0) = false := by have := HOKM.out.1; rw [← HNR.out] at this; rw [beq_eq_false_iff_ne]; omega
  clear hb2 hy2 hn2 hlm HMQ hM
  go_wp2_with fail
  go_loopw [19, 20] (fun bv iv wr => ∃ i : Nat, 1 ≤ i ∧ iv = .int .i64 (i : Int) ∧ (i ≤ nr ∨ i = 1) ∧ ∃ B : Bool, bv = .bool B ∧ Hid (B = bdx rows i ∧ Below w2.heap.size w2 wr)) (fun _ iv _ => nr - (intOf iv).toNat)
  case atStart => exact ⟨1, Nat.le_refl _, rfl, Or.inr rfl, _, rfl, by rw [bdx_one, ← HNR.out]; exact hb0'.symm, Below.refl _ _⟩
  case round =>
    obtain ⟨i, hi1, rfl, hi2, B, rfl, hI⟩ := hrel
    have HBE := hid hI.out.1
    have HBI := hid hI.out.2
    clear hI
    by_cases hlt : i < nr
    · have hlt2 : (i : Int) < (nr : Int) := by omega
      have hi0 : ¬ (i : Int) < 0 := by omega
      have hn0 : ¬ nr = 0 := by omega
      have hn1 : (0 : Int) < (nr : Int) := by omega
      have his : IntKind.i64.wrap ((i : Int) + 1) = (i : Int) + 1 := by rw [IntKind.wrap_i64]; omega
      have HWW : Hid (Below w.heap.size w wr.drew) := (HC2.out.trans (HBI.out.mono HC2.out.size)).drew
      obtain ⟨b1, o1, ai, ci, rfl, _, hci, _⟩ := (HRW.out _ HWW.out).row i (by rw [← HNR.out]; exact hlt)
      obtain ⟨b1', o1', a0, c0, e1, _, hc0, _⟩ := (HRW.out _ HWW.out).row 0 (by rw [← HNR.out]; omega)
      cases e1
      rw [Nat.add_zero] at hc0
      have HNX : Hid (bdx rows (i + 1) = (bdx rows i || ((((rat rows i).length : Int) != ((rat rows 0).length : Int))))) := bdx_next hi1
      obtain ⟨ni, hni⟩ : ∃ ni, ni = (rat rows i).length := ⟨_, rfl⟩
      obtain ⟨m0, hm0⟩ : ∃ m0, m0 = (rat rows 0).length := ⟨_, rfl⟩
      rw [← hni] at hci HNX
      rw [← hm0] at hc0 HNX
      obtain ⟨dif, hdif⟩ : ∃ dif, dif = ((ni : Int) != (m0 : Int)) := ⟨_, rfl⟩
      rw [← hdif, ← HBE.out] at HNX
      have hdif2 := hdif.symm
      have HS10 : Hid (wr.drew.cell? ⟨b1, o1 + i, none⟩ = some (.slice ai ni ci) ∧ wr.drew.cell? ⟨b1, o1, none⟩ = some (.slice a0 m0 c0)) := ⟨hci, hc0⟩
      have HBD : Hid (Below w2.heap.size w2 wr.drew) := HBI.out.drew
      clear hci hc0 hni hm0 hdif HBI HWW
      go_wp2_with fail
      refine wp_region_held_drew (S := fun W => (W.cell? ⟨b1, o1 + i, none⟩ = some (.slice ai ni ci) ∧ W.cell? ⟨b1, o1, none⟩ = some (.slice a0 m0 c0))) (by kernel_rfl) (HS10.out) (fun hHeld => ?_)
      refine wpAnyH_takeU (i := 0) (v := .slice (some ⟨b1, o1, none⟩) nr cR) rfl (by kernel_rfl) (by kernel_rfl) (by kernel_rfl) (fun _ _ _ h => h) (by rfl) (fun W hC => by go_simp) hHeld ?_
      simp only [Act.put, List.setIfInBounds_toArray, List.set_cons_zero, List.set_cons_succ]
      refine wpAnyH_takeU (i := 1) (v := .int .i64 (i : Int)) rfl (by kernel_rfl) (by kernel_rfl) (by kernel_rfl) (fun _ _ _ h => h) (by rfl) (fun W hC => by go_simp) hHeld ?_
      simp only [Act.put, List.setIfInBounds_toArray, List.set_cons_zero, List.set_cons_succ]
      refine wpAnyH_takeU (i := 2) (v := .pointer (some ⟨b1, o1 + i, none⟩)) rfl (by kernel_rfl) (by kernel_rfl) (by kernel_rfl) (fun _ _ _ h => h) (by rfl) (fun W hC => by go_simp) hHeld ?_
      simp only [Act.put, List.setIfInBounds_toArray, List.set_cons_zero, List.set_cons_succ]
      refine wpAnyH_takeU (i := 3) (v := .slice ai ni ci) rfl (by kernel_rfl) (by kernel_rfl) (by kernel_rfl) (fun _ _ _ h => h) (by rfl) (fun W hC => by (obtain ⟨x1, x2⟩ := hC); go_simp) hHeld ?_
      simp only [Act.put, List.setIfInBounds_toArray, List.set_cons_zero, List.set_cons_succ]
      refine wpAnyH_takeU (i := 4) (v := .int .i64 (ni : Int)) rfl (by kernel_rfl) (by kernel_rfl) (by kernel_rfl) (fun _ _ _ h => h) (by rfl) (fun W hC => by go_simp) hHeld ?_
      simp only [Act.put, List.setIfInBounds_toArray, List.set_cons_zero, List.set_cons_succ]
      refine wpAnyH_takeU (i := 5) (v := .slice (some ⟨b1, o1, none⟩) nr cR) rfl (by kernel_rfl) (by kernel_rfl) (by kernel_rfl) (fun _ _ _ h => h) (by rfl) (fun W hC => by go_simp) hHeld ?_
      simp only [Act.put, List.setIfInBounds_toArray, List.set_cons_zero, List.set_cons_succ]
      refine wpAnyH_takeU (i := 6) (v := .pointer (some ⟨b1, o1, none⟩)) rfl (by kernel_rfl) (by kernel_rfl) (by kernel_rfl) (fun _ _ _ h => h) (by rfl) (fun W hC => by go_simp) hHeld ?_
      simp only [Act.put, List.setIfInBounds_toArray, List.set_cons_zero, List.set_cons_succ]
      refine wpAnyH_takeU (i := 7) (v := .slice a0 m0 c0) rfl (by kernel_rfl) (by kernel_rfl) (by kernel_rfl) (fun _ _ _ h => h) (by rfl) (fun W hC => by (obtain ⟨x1, x2⟩ := hC); go_simp) hHeld ?_
      simp only [Act.put, List.setIfInBounds_toArray, List.set_cons_zero, List.set_cons_succ]
      refine wpAnyH_takeU (i := 8) (v := .int .i64 (m0 : Int)) rfl (by kernel_rfl) (by kernel_rfl) (by kernel_rfl) (fun _ _ _ h => h) (by rfl) (fun W hC => by go_simp) hHeld ?_
      simp only [Act.put, List.setIfInBounds_toArray, List.set_cons_zero, List.set_cons_succ]
      refine wpAnyH_takeU (i := 9) (v := .bool dif) rfl (by kernel_rfl) (by kernel_rfl) (by kernel_rfl) (fun _ _ _ h => h) (by rfl) (fun W hC => by go_simp) hHeld ?_
      simp only [Act.put, List.setIfInBounds_toArray, List.set_cons_zero, List.set_cons_succ]
      refine wpAnyH_done (by kernel_rfl) ?_ _
      generalize wr.drew = WD at *
      clear hdif2
      cases dif
      · rw [Bool.or_false] at HNX
        go_wp2_with fail
        go_roundw
        case rel => exact ⟨i + 1, by omega, by go_num, Or.inl (by omega), B, rfl, HNX.out.symm, HBD.out⟩
        case measure => simp [intOf]; omega
      · rw [Bool.or_true] at HNX
        go_wp2_with fail
        go_roundw
        case rel => exact ⟨i + 1, by omega, by go_num, Or.inl (by omega), true, rfl, HNX.out.symm, HBD.out⟩
        case measure => simp [intOf]; omega
    · have hlt2 : ¬ (i : Int) < (nr : Int) := by omega
      have HBB : Hid (B = false) := by unfold Hid; rw [HBE.out]; exact bdx_good HOKM.out (by rw [← HNR.out]; omega)
      have hbb := HBB.out
      subst hbb
      have HCW : Hid (Below w.heap.size w wr) := HC2.out.trans (HBI.out.mono HC2.out.size)
      clear HBE HBB
      have HB12 : Hid (Below w1.heap.size w1 wr) := HB2.out.trans (HBI.out.mono HB2.out.size)
      go_wp2_with fail
      refine (HPW.out wr).mono ?_
      rintro e w3 ⟨pv, rfl, ho3, hb3⟩
      obtain ⟨ap, cp, rfl, hlp⟩ := lst_of_owns ho3
      have hpl : (pwl q r nr).length = nr := pwl_len _ _ _
      rw [hpl]
      have HC3 : Hid (Below w.heap.size w w3) := HCW.out.trans (hb3.mono HCW.out.size)
      have HSU := rsum12_any q cR cp (rat rows 0).length aR ap rows (pwl q r nr) w3 hq3 hq4 HOKM.out.1 (by rw [← HNR.out]; exact hnr2) (HFR.out 0 (by have := HOKM.out.1; omega)).2 (fun k hk => wiB_at HOKM.out.2 hk) (by rw [hpl, HNR.out]; exact Nat.le_refl _) HFR.out (pwl_fits hq4 hq3 _ _) (HRW.out w3 HC3.out) hlp.row
      rw [← HNR.out, hpl] at HSU
      replace HSU := hid HSU
      have HB13 : Hid (Below w1.heap.size w1 w3) := HB12.out.trans (hb3.mono HB12.out.size)
      have HLM3 : Hid (Lst w3.heap.size w3 (some ⟨g, 0, none⟩) (rat rows 0).length (mixz q rows r)) := (HLM.out.below (HBI.out.trans (hb3.mono HBI.out.size))).mono (by have h1 := HBI.out.size; have h2 := hb3.size; omega)
      clear ho3 hb3 hlp hpl HBI
      go_wp2_with fail
      refine HSU.out.mono ?_
      rintro e w4 ⟨rfl, hA4, hb4⟩
      have HI4 : Hid (Calls Tryz.prog 14 #[.slice (some ⟨g, 0, none⟩) (rat rows 0).length (rat rows 0).length, .slice (some ⟨w3.heap.size, 0, none⟩) (rat rows 0).length (rat rows 0).length] w4 fun e w' => e = .returned (.bool true) ∧ Below w4.heap.size w4 w') := by
        have hml : (mixz q rows r).length = (rat rows 0).length := mixz_len _ _ _
        have hrow : RowB w4.heap.size w4 (some ⟨w3.heap.size, 0, none⟩) (mixz q rows r) := fun i hi => ⟨w3.heap.size, 0, rfl, hA4.lt, by
          rw [hml] at hi
          rw [Nat.zero_add, hA4.cell hi, mixz_smr hq3 rows r hi, ← HNR.out]⟩
        have h := ints_same w3.heap.size w4.heap.size (mixz q rows r) (some ⟨g, 0, none⟩) (some ⟨w3.heap.size, 0, none⟩) (rat rows 0).length (rat rows 0).length w4 (HLM3.out.below hb4).row hrow (by rw [hml]; have := (HFR.out 0 (by have := HOKM.out.1; omega)).2; omega)
        rw [hml] at h
        refine h.mono ?_
        rintro e w' ⟨rfl, nn, rfl⟩
        exact ⟨rfl, below_drewN (Below.refl _ _) nn⟩
      have HB14 : Hid (Below w1.heap.size w1 w4) := HB13.out.trans (hb4.mono HB13.out.size)
      clear hA4 hb4 HSU HB13 HLM3
      go_wp2_with fail
      refine HI4.out.mono ?_
      rintro e w3' ⟨rfl, hb3⟩
      obtain ⟨w3, hw3⟩ : ∃ w3, w3 = w3' := ⟨_, rfl⟩
      rw [← hw3] at hb3 ⊢
      have HB13 : Hid (Below w1.heap.size w1 w3) := HB14.out.trans (hb3.mono HB14.out.size)
      clear hb3 hw3 HI4
      go_wp2_with fail
      refine (HNW.out w3).mono ?_
      rintro e w5 ⟨r2, rfl, hr2, hb5⟩
      obtain rfl : rr = r2 := rootIs_unique HRT.out hr2
      obtain ⟨Dm, hDm⟩ : ∃ Dm, Dm = w5.heap.size := ⟨_, rfl⟩
      obtain ⟨W6, hW6⟩ : ∃ W6, W6 = w5.alloc (.cells #[.int .i64 (q : Int), .int .i64 (N : Int), .int .i64 tt, .int .i64 (rr : Int)] 39) := ⟨_, rfl⟩
      obtain ⟨hba, hsa, hza⟩ := own_pm hW6
      rw [← hDm] at hsa
      have HCD : Hid (∀ W, Below W6.heap.size W6 W → W.cell? ⟨Dm, 0, none⟩ = some (.int .i64 (q : Int)) ∧ W.cell? ⟨Dm, 1, none⟩ = some (.int .i64 (N : Int)) ∧ W.cell? ⟨Dm, 2, none⟩ = some (.int .i64 tt) ∧ W.cell? ⟨Dm, 3, none⟩ = some (.int .i64 (rr : Int))) := fun W hW => by
        have e1 := (hW.block Dm (Array.getElem?_eq_some_iff.1 hsa).1).trans hsa
        exact ⟨by simp [World.cell?, e1], by simp [World.cell?, e1], by simp [World.cell?, e1], by simp [World.cell?, e1]⟩
      have HB16 : Hid (Below w1.heap.size w1 W6) := (HB13.out.trans (hb5.mono HB13.out.size)).trans (hba.mono (HB13.out.trans (hb5.mono HB13.out.size)).size)
      have HDE := hid hDm
      have HW6 := hid hW6
      clear hr2 hb5 hba hsa hza hDm hW6 HB13
      go_wp2_with fail
      rw [← HDE.out, ← HW6.out]
      refine (HVR.out W6).mono ?_
      rintro e w0 ⟨rfl, hw⟩
      have hwx := hw.symm
      subst hwx
      clear hw
      have HCM : Hid (Calls Tryz.prog 17 #[.pointer (some ⟨sp, 0, none⟩), .pointer (some ⟨d, 0, none⟩), .slice aT nT cT] W6 fun e w' => ∃ a' c', e = .returned (.tuple #[.slice a' 4 c', .nilIface]) ∧ Lst w'.heap.size w' a' c' (ctz q n tt rr N v t) ∧ Below W6.heap.size W6 w') := by
        obtain ⟨i1, i2, i3⟩ := HIN.out W6 HB16.out
        have h := commit_yes q n dd sp b d v cT N rr tt aT t W6 HOK.out i1 i2 (HTW.out W6 i3).2 hv (by rw [← HNT.out]; exact HVN.out) HVF.out HFT.out (HTW.out W6 i3).1
        rw [← HNT.out] at h
        exact h
      have HVV : Hid (vrs nT = (v : Int)) := vrs_yes hv HVN.out
      rw [HVV.out]
      have HFI : Hid (∀ W, Calls Tryz.prog 18 #[.agg #[.int .i64 q, .int .i64 (N : Int), .int .i64 tt, .int .i64 rr], .int .i64 (v : Int)] W fun e w' => e = .returned (.bool true) ∧ Below W.heap.size W w') := fun W => by
        have h := rfits12_any q N tt rr (v : Int) W hkN (by omega) (by omega)
        rw [decide_eq_true ⟨by omega, by omega, by rw [Int.toNat_natCast]; exact HVF.out⟩] at h
        exact h
      go_wp2_with fail
      refine HCM.out.mono ?_
      rintro e w7 ⟨a7, c7, rfl, hl7, hb7⟩
      have HL7 := hid hl7
      have H67 := hid hb7
      obtain ⟨z0, z1, z2, z3⟩ := HCD.out w7 hb7
      clear hl7 hb7 HCM
      go_wp2_with fail
      refine (HFI.out w7).mono ?_
      rintro e w8 ⟨rfl, hb8⟩
      have H68 : Hid (Below W6.heap.size W6 w8) := H67.out.trans (hb8.mono H67.out.size)
      have HL8 := hid ((HL7.out.below hb8).mono hb8.size)
      have HRO : Hid (Calls Tryz.prog 19 #[.agg #[.int .i64 (q : Int), .int .i64 (N : Int), .int .i64 tt, .int .i64 rr], .slice aT nT cT, .int .i64 (v : Int)] w8 fun e w' => ∃ a' c', e = .returned (.slice a' 4 c') ∧ Lst w'.heap.size w' a' c' (ctz q n tt rr N v t) ∧ Below w8.heap.size w8 w') := by
        have hw8 := (HIN.out w8 (HB16.out.trans (H68.out.mono HB16.out.size))).2.2
        have hDD := HD1.out
        have h := rroot12_any q n v cT N tt rr aT t w8 h5 hq4 HOK.out.pw hN1 hkN hDD.hr0 hDD.hr1 t0 t1 hv (by rw [← HNT.out]; exact HVN.out) HFT.out (HTW.out w8 hw8).1
        rw [← HNT.out] at h
        exact h
      clear z0 z1 z2 z3
      obtain ⟨z0, z1, z2, z3⟩ := HCD.out w8 H68.out
      clear hb8 HL7 H67 HFI
      go_wp2_with fail
      refine HRO.out.mono ?_
      rintro e w9 ⟨a9, c9, rfl, hl9, hb9⟩
      have H69 : Hid (Below W6.heap.size W6 w9) := H68.out.trans (hb9.mono H68.out.size)
      have hcl : (ctz q n tt rr N v t).length = 4 := rtf_len _ _ _ _ hN1
      have HI9 : Hid (Calls Tryz.prog 14 #[.slice a7 4 c7, .slice a9 4 c9] w9 fun e w' => e = .returned (.bool true) ∧ Below w9.heap.size w9 w') := by
        have h := ints_same w8.heap.size w9.heap.size (ctz q n tt rr N v t) a7 a9 c7 c9 w9 (HL8.out.below hb9).row hl9.row (by rw [hcl]; decide)
        rw [hcl] at h
        refine h.mono ?_
        rintro e w' ⟨rfl, nn, rfl⟩
        exact ⟨rfl, below_drewN (Below.refl _ _) nn⟩
      clear z0 z1 z2 z3 hl9 hb9 HRO HL8 hcl
      go_wp2_with fail
      refine HI9.out.mono ?_
      rintro e w10 ⟨rfl, hb10⟩
      have HE : Hid (Below w.heap.size w w10) := (HIN.out w10 (HB16.out.trans ((H69.out.trans (hb10.mono H69.out.size)).mono HB16.out.size))).2.2
      clear hb10 HI9
      go_wp2_with fail
      go_ret
      exact ⟨rfl, HE.out⟩

set_option maxRecDepth 100000 in
set_option maxHeartbeats 8000000 in
theorem emixes_yn (q k0 cR cT : Nat) (s r : Int) (aR aT : Option Addr) (rows : List (List Int)) (t : List Int) (w : World) (hL : Laid w) (hT : TabAt 2 Lib.deBruijn64tab w) (hg : GoodT q k0 s) (hs1 : -9223372036854775808 ≤ s) (hs2 : s ≤ 9223372036854775807) (hr1 : -9223372036854775808 ≤ r) (hr2 : r ≤ 9223372036854775807) (hrl : rows.length ≤ 17592186044000) (hF : FitsR rows) (hl : LstR w.heap.size w aR cR rows) (htl : t.length ≤ 17592186043904) (hft : Fits t) (hlt : Lst w.heap.size w aT cT t) (hM : MixOk rows) (hC : ¬ CmO (2 ^ k0) t.length) :
    Calls Tryz.prog 3 #[.int .i64 q, .int .i64 ((2 ^ k0 : Nat) : Int), .int .i64 s, .slice aR rows.length cR, .int .i64 r, .slice aT t.length cT] w fun e w' => e = .returned (.bool true) ∧ Below w.heap.size w w' := by
  have hq3 := hg.at'.h3
  have hq4 := hg.at'.h4
  have h23 := hg.h23
  have hpr := hid hg.at'.pr
  have hkN := two_pow_le hg.at'.hk
  have hN1 : 1 ≤ 2 ^ k0 := Nat.one_le_two_pow
  have HTH := hid (things_yes q k0 s w hg hs1 hs2)
  obtain ⟨N, hN⟩ : ∃ N, N = 2 ^ k0 := ⟨_, rfl⟩
  simp only [← hN] at HTH hkN hN1 hC ⊢
  obtain ⟨tt, htt⟩ : ∃ tt, tt = s % (q : Int) := ⟨_, rfl⟩
  rw [← htt] at HTH
  obtain ⟨t0, t1⟩ := emod_bounds s q hq3
  rw [← htt] at t0 t1
  have HNW := hid (fun W => rdnew_any q (N : Int) s W hpr.out hq3 hq4 (by omega) (by omega) hs1 hs2)
  rw [← htt] at HNW
  have HTO : Hid (∀ W, Below w.heap.size w W → Calls Tryz.prog 11 #[.iface 101 (.int .i64 2), .int .i64 2] W fun x w' => x = .returned (.bool true) ∧ Below W.heap.size W w') := fun W hW => by
    have := told_any 2 2 W (hL.below hW)
    rw [beq_self_eq_true, errz_some (by decide)] at this
    exact this
  have HVR := hid (fun W => rvariables_any t.length cT aT W)
  obtain ⟨nr, hnr⟩ : ∃ nr, nr = rows.length := ⟨_, rfl⟩
  obtain ⟨nT, hnT⟩ : ∃ nT, nT = t.length := ⟨_, rfl⟩
  have HNR := hid hnr
  have HNT := hid hnT
  have HRW : Hid (∀ W, Below w.heap.size w W → LstR W.heap.size W aR cR rows) := fun W hW => (hl.below hW).mono hW.size
  have HTW : Hid (∀ W, Below w.heap.size w W → Lst W.heap.size W aT cT t ∧ TabAt 2 Lib.deBruijn64tab W) := fun W hW => ⟨(hlt.below hW).mono hW.size, tabZ_below hT hW⟩
  have HFR := hid hF
  have HFT := hid hft
  rw [← hnr, ← hnT]
  rw [← hnT] at HVR htl hC
  have hnr2 : nr ≤ 17592186044000 := by omega
  have HNB : Hid (∀ i j, i < nr → j < nr → i < rows.length) := fun i j h _ => by rw [← hnr]; exact h
  have hMX : Hid (∀ (W : World) (b : Nat), Below w.heap.size w W → W.cell? ⟨b, 0, none⟩ = some (.int .i64 q) → Calls Tryz.prog 10 #[.pointer (some ⟨b, 0, none⟩), .slice aR nr cR, .int .i64 r] W fun e w' => Below W.heap.size W w' ∧
      (MixOk rows → ∃ g, e = .returned (.tuple #[.slice (some ⟨g, 0, none⟩) (rat rows 0).length (rat rows 0).length, .nilIface]) ∧ Lst w'.heap.size w' (some ⟨g, 0, none⟩) (rat rows 0).length (mixz q rows r)) ∧
      (¬ MixOk rows → e = .returned (.tuple #[.slice none 0 0, .iface 101 (.int .i64 2)]))) := fun W b hW hc => by
    rw [hnr]
    exact pmix_any q b cR r aR rows W hq3 hq4 hc (heap_lt hc) hr1 hr2 (by omega) hF ((hl.below hW).mono hW.size)
  have hmx : Tryz.prog.follows .mixedOrders = true := by kernel_rfl
  have HPW := hid (fun W => rpowers_any q nr r W hq3 hq4 hr1 hr2 hnr2)
  have h5 : 5 ≤ q := by omega
  clear hg hL hT hF hl hft hlt hN htt hnr hnT hrl
  have HOKM := hid hM
  have HCC := hid hC
  clear hC
  go_enter Tryz.func3, Tryz.ntmps3
  go_wp2_with fail
  refine HTH.out.mono ?_
  rintro e w1 ⟨sp, b, n, dd, d, rr, rfl, hok, hsp, hrt, hD, hb1⟩
  have HS1 := hid hsp
  have HD1 := hid hD
  have HB1 := hid hb1
  have HOK := hid hok
  have HRT := hid hrt
  have HIN : Hid (∀ W, Below w1.heap.size w1 W → SpgAt W sp b q n dd ∧ DO W q b d N rr tt ∧ Below w.heap.size w W) := fun W hW => ⟨HS1.out.below hW HS1.out.lt HS1.out.ltb, HD1.out.below hW (heap_lt HD1.out.hp) HD1.out.da.lt, HB1.out.trans (hW.mono HB1.out.size)⟩
  clear hok hsp hrt hD hb1 HTH
  go_wp2_with fail
  refine (sfield_any q n dd b sp w1 HS1.out).mono ?_
  rintro e w0 ⟨rfl, hw⟩
  have hwx := hw.symm
  subst hwx
  clear hw
  have HMQ := hid (hMX.out w1 b HB1.out HS1.out.p)
  clear hMX
  go_wp2_with fail
  refine HMQ.out.mono ?_
  rintro e w2 ⟨hb2, hy2, hn2⟩
  have HB2 := hid hb2
  have HC2 : Hid (Below w.heap.size w w2) := HB1.out.trans (hb2.mono HB1.out.size)
  obtain ⟨g, rfl, hlm⟩ := hy2 HOKM.out
  have HLM := hid hlm
  have hb0 : (nr == 0) = false := by have := HOKM.out.1; rw [← HNR.out] at this; rw [beq_eq_false_iff_ne]; omega
  have hb0' : ((nr : Int) == 0) = false := by have := HOKM.out.1; rw [← HNR.out] at this; rw [beq_eq_false_iff_ne]; omega
  clear hb2 hy2 hn2 hlm HMQ hM
  go_wp2_with fail
  go_loopw [19, 20] (fun bv iv wr => ∃ i : Nat, 1 ≤ i ∧ iv = .int .i64 (i : Int) ∧ (i ≤ nr ∨ i = 1) ∧ ∃ B : Bool, bv = .bool B ∧ Hid (B = bdx rows i ∧ Below w2.heap.size w2 wr)) (fun _ iv _ => nr - (intOf iv).toNat)
  case atStart => exact ⟨1, Nat.le_refl _, rfl, Or.inr rfl, _, rfl, by rw [bdx_one, ← HNR.out]; exact hb0'.symm, Below.refl _ _⟩
  case round =>
    obtain ⟨i, hi1, rfl, hi2, B, rfl, hI⟩ := hrel
    have HBE := hid hI.out.1
    have HBI := hid hI.out.2
    clear hI
    by_cases hlt : i < nr
    · have hlt2 : (i : Int) < (nr : Int) := by omega
      have hi0 : ¬ (i : Int) < 0 := by omega
      have hn0 : ¬ nr = 0 := by omega
      have hn1 : (0 : Int) < (nr : Int) := by omega
      have his : IntKind.i64.wrap ((i : Int) + 1) = (i : Int) + 1 := by rw [IntKind.wrap_i64]; omega
      have HWW : Hid (Below w.heap.size w wr.drew) := (HC2.out.trans (HBI.out.mono HC2.out.size)).drew
      obtain ⟨b1, o1, ai, ci, rfl, _, hci, _⟩ := (HRW.out _ HWW.out).row i (by rw [← HNR.out]; exact hlt)
      obtain ⟨b1', o1', a0, c0, e1, _, hc0, _⟩ := (HRW.out _ HWW.out).row 0 (by rw [← HNR.out]; omega)
      cases e1
      rw [Nat.add_zero] at hc0
      have HNX : Hid (bdx rows (i + 1) = (bdx rows i || ((((rat rows i).length : Int) != ((rat rows 0).length : Int))))) := bdx_next hi1
      obtain ⟨ni, hni⟩ : ∃ ni, ni = (rat rows i).length := ⟨_, rfl⟩
      obtain ⟨m0, hm0⟩ : ∃ m0, m0 = (rat rows 0).length := ⟨_, rfl⟩
      rw [← hni] at hci HNX
      rw [← hm0] at hc0 HNX
      obtain ⟨dif, hdif⟩ : ∃ dif, dif = ((ni : Int) != (m0 : Int)) := ⟨_, rfl⟩
      rw [← hdif, ← HBE.out] at HNX
      have hdif2 := hdif.symm
      have HS10 : Hid (wr.drew.cell? ⟨b1, o1 + i, none⟩ = some (.slice ai ni ci) ∧ wr.drew.cell? ⟨b1, o1, none⟩ = some (.slice a0 m0 c0)) := ⟨hci, hc0⟩
      have HBD : Hid (Below w2.heap.size w2 wr.drew) := HBI.out.drew
      clear hci hc0 hni hm0 hdif HBI HWW
      go_wp2_with fail
      refine wp_region_held_drew (S := fun W => (W.cell? ⟨b1, o1 + i, none⟩ = some (.slice ai ni ci) ∧ W.cell? ⟨b1, o1, none⟩ = some (.slice a0 m0 c0))) (by kernel_rfl) (HS10.out) (fun hHeld => ?_)
      refine wpAnyH_takeU (i := 0) (v := .slice (some ⟨b1, o1, none⟩) nr cR) rfl (by kernel_rfl) (by kernel_rfl) (by kernel_rfl) (fun _ _ _ h => h) (by rfl) (fun W hC => by go_simp) hHeld ?_
      simp only [Act.put, List.setIfInBounds_toArray, List.set_cons_zero, List.set_cons_succ]
      refine wpAnyH_takeU (i := 1) (v := .int .i64 (i : Int)) rfl (by kernel_rfl) (by kernel_rfl) (by kernel_rfl) (fun _ _ _ h => h) (by rfl) (fun W hC => by go_simp) hHeld ?_
      simp only [Act.put, List.setIfInBounds_toArray, List.set_cons_zero, List.set_cons_succ]
      refine wpAnyH_takeU (i := 2) (v := .pointer (some ⟨b1, o1 + i, none⟩)) rfl (by kernel_rfl) (by kernel_rfl) (by kernel_rfl) (fun _ _ _ h => h) (by rfl) (fun W hC => by go_simp) hHeld ?_
      simp only [Act.put, List.setIfInBounds_toArray, List.set_cons_zero, List.set_cons_succ]
      refine wpAnyH_takeU (i := 3) (v := .slice ai ni ci) rfl (by kernel_rfl) (by kernel_rfl) (by kernel_rfl) (fun _ _ _ h => h) (by rfl) (fun W hC => by (obtain ⟨x1, x2⟩ := hC); go_simp) hHeld ?_
      simp only [Act.put, List.setIfInBounds_toArray, List.set_cons_zero, List.set_cons_succ]
      refine wpAnyH_takeU (i := 4) (v := .int .i64 (ni : Int)) rfl (by kernel_rfl) (by kernel_rfl) (by kernel_rfl) (fun _ _ _ h => h) (by rfl) (fun W hC => by go_simp) hHeld ?_
      simp only [Act.put, List.setIfInBounds_toArray, List.set_cons_zero, List.set_cons_succ]
      refine wpAnyH_takeU (i := 5) (v := .slice (some ⟨b1, o1, none⟩) nr cR) rfl (by kernel_rfl) (by kernel_rfl) (by kernel_rfl) (fun _ _ _ h => h) (by rfl) (fun W hC => by go_simp) hHeld ?_
      simp only [Act.put, List.setIfInBounds_toArray, List.set_cons_zero, List.set_cons_succ]
      refine wpAnyH_takeU (i := 6) (v := .pointer (some ⟨b1, o1, none⟩)) rfl (by kernel_rfl) (by kernel_rfl) (by kernel_rfl) (fun _ _ _ h => h) (by rfl) (fun W hC => by go_simp) hHeld ?_
      simp only [Act.put, List.setIfInBounds_toArray, List.set_cons_zero, List.set_cons_succ]
      refine wpAnyH_takeU (i := 7) (v := .slice a0 m0 c0) rfl (by kernel_rfl) (by kernel_rfl) (by kernel_rfl) (fun _ _ _ h => h) (by rfl) (fun W hC => by (obtain ⟨x1, x2⟩ := hC); go_simp) hHeld ?_
      simp only [Act.put, List.setIfInBounds_toArray, List.set_cons_zero, List.set_cons_succ]
      refine wpAnyH_takeU (i := 8) (v := .int .i64 (m0 : Int)) rfl (by kernel_rfl) (by kernel_rfl) (by kernel_rfl) (fun _ _ _ h => h) (by rfl) (fun W hC => by go_simp) hHeld ?_
      simp only [Act.put, List.setIfInBounds_toArray, List.set_cons_zero, List.set_cons_succ]
      refine wpAnyH_takeU (i := 9) (v := .bool dif) rfl (by kernel_rfl) (by kernel_rfl) (by kernel_rfl) (fun _ _ _ h => h) (by rfl) (fun W hC => by go_simp) hHeld ?_
      simp only [Act.put, List.setIfInBounds_toArray, List.set_cons_zero, List.set_cons_succ]
      refine wpAnyH_done (by kernel_rfl) ?_ _
      generalize wr.drew = WD at *
      clear hdif2
      cases dif
      · rw [Bool.or_false] at HNX
        go_wp2_with fail
        go_roundw
        case rel => exact ⟨i + 1, by omega, by go_num, Or.inl (by omega), B, rfl, HNX.out.symm, HBD.out⟩
        case measure => simp [intOf]; omega
      · rw [Bool.or_true] at HNX
        go_wp2_with fail
        go_roundw
        case rel => exact ⟨i + 1, by omega, by go_num, Or.inl (by omega), true, rfl, HNX.out.symm, HBD.out⟩
        case measure => simp [intOf]; omega
    · have hlt2 : ¬ (i : Int) < (nr : Int) := by omega
      have HBB : Hid (B = false) := by unfold Hid; rw [HBE.out]; exact bdx_good HOKM.out (by rw [← HNR.out]; omega)
      have hbb := HBB.out
      subst hbb
      have HCW : Hid (Below w.heap.size w wr) := HC2.out.trans (HBI.out.mono HC2.out.size)
      clear HBE HBB
      have HB12 : Hid (Below w1.heap.size w1 wr) := HB2.out.trans (HBI.out.mono HB2.out.size)
      go_wp2_with fail
      refine (HPW.out wr).mono ?_
      rintro e w3 ⟨pv, rfl, ho3, hb3⟩
      obtain ⟨ap, cp, rfl, hlp⟩ := lst_of_owns ho3
      have hpl : (pwl q r nr).length = nr := pwl_len _ _ _
      rw [hpl]
      have HC3 : Hid (Below w.heap.size w w3) := HCW.out.trans (hb3.mono HCW.out.size)
      have HSU := rsum12_any q cR cp (rat rows 0).length aR ap rows (pwl q r nr) w3 hq3 hq4 HOKM.out.1 (by rw [← HNR.out]; exact hnr2) (HFR.out 0 (by have := HOKM.out.1; omega)).2 (fun k hk => wiB_at HOKM.out.2 hk) (by rw [hpl, HNR.out]; exact Nat.le_refl _) HFR.out (pwl_fits hq4 hq3 _ _) (HRW.out w3 HC3.out) hlp.row
      rw [← HNR.out, hpl] at HSU
      replace HSU := hid HSU
      have HB13 : Hid (Below w1.heap.size w1 w3) := HB12.out.trans (hb3.mono HB12.out.size)
      have HLM3 : Hid (Lst w3.heap.size w3 (some ⟨g, 0, none⟩) (rat rows 0).length (mixz q rows r)) := (HLM.out.below (HBI.out.trans (hb3.mono HBI.out.size))).mono (by have h1 := HBI.out.size; have h2 := hb3.size; omega)
      clear ho3 hb3 hlp hpl HBI
      go_wp2_with fail
      refine HSU.out.mono ?_
      rintro e w4 ⟨rfl, hA4, hb4⟩
      have HI4 : Hid (Calls Tryz.prog 14 #[.slice (some ⟨g, 0, none⟩) (rat rows 0).length (rat rows 0).length, .slice (some ⟨w3.heap.size, 0, none⟩) (rat rows 0).length (rat rows 0).length] w4 fun e w' => e = .returned (.bool true) ∧ Below w4.heap.size w4 w') := by
        have hml : (mixz q rows r).length = (rat rows 0).length := mixz_len _ _ _
        have hrow : RowB w4.heap.size w4 (some ⟨w3.heap.size, 0, none⟩) (mixz q rows r) := fun i hi => ⟨w3.heap.size, 0, rfl, hA4.lt, by
          rw [hml] at hi
          rw [Nat.zero_add, hA4.cell hi, mixz_smr hq3 rows r hi, ← HNR.out]⟩
        have h := ints_same w3.heap.size w4.heap.size (mixz q rows r) (some ⟨g, 0, none⟩) (some ⟨w3.heap.size, 0, none⟩) (rat rows 0).length (rat rows 0).length w4 (HLM3.out.below hb4).row hrow (by rw [hml]; have := (HFR.out 0 (by have := HOKM.out.1; omega)).2; omega)
        rw [hml] at h
        refine h.mono ?_
        rintro e w' ⟨rfl, nn, rfl⟩
        exact ⟨rfl, below_drewN (Below.refl _ _) nn⟩
      have HB14 : Hid (Below w1.heap.size w1 w4) := HB13.out.trans (hb4.mono HB13.out.size)
      clear hA4 hb4 HSU HB13 HLM3
      go_wp2_with fail
      refine HI4.out.mono ?_
      rintro e w3' ⟨rfl, hb3⟩
      obtain ⟨w3, hw3⟩ : ∃ w3, w3 = w3' := ⟨_, rfl⟩
      rw [← hw3] at hb3 ⊢
      have HB13 : Hid (Below w1.heap.size w1 w3) := HB14.out.trans (hb3.mono HB14.out.size)
      clear hb3 hw3 HI4
      go_wp2_with fail
      refine (HNW.out w3).mono ?_
      rintro e w5 ⟨r2, rfl, hr2, hb5⟩
      obtain rfl : rr = r2 := rootIs_unique HRT.out hr2
      obtain ⟨Dm, hDm⟩ : ∃ Dm, Dm = w5.heap.size := ⟨_, rfl⟩
      obtain ⟨W6, hW6⟩ : ∃ W6, W6 = w5.alloc (.cells #[.int .i64 (q : Int), .int .i64 (N : Int), .int .i64 tt, .int .i64 (rr : Int)] 39) := ⟨_, rfl⟩
      obtain ⟨hba, hsa, hza⟩ := own_pm hW6
      rw [← hDm] at hsa
      have HCD : Hid (∀ W, Below W6.heap.size W6 W → W.cell? ⟨Dm, 0, none⟩ = some (.int .i64 (q : Int)) ∧ W.cell? ⟨Dm, 1, none⟩ = some (.int .i64 (N : Int)) ∧ W.cell? ⟨Dm, 2, none⟩ = some (.int .i64 tt) ∧ W.cell? ⟨Dm, 3, none⟩ = some (.int .i64 (rr : Int))) := fun W hW => by
        have e1 := (hW.block Dm (Array.getElem?_eq_some_iff.1 hsa).1).trans hsa
        exact ⟨by simp [World.cell?, e1], by simp [World.cell?, e1], by simp [World.cell?, e1], by simp [World.cell?, e1]⟩
      have HB16 : Hid (Below w1.heap.size w1 W6) := (HB13.out.trans (hb5.mono HB13.out.size)).trans (hba.mono (HB13.out.trans (hb5.mono HB13.out.size)).size)
      have HDE := hid hDm
      have HW6 := hid hW6
      clear hr2 hb5 hba hsa hza hDm hW6 HB13
      go_wp2_with fail
      rw [← HDE.out, ← HW6.out]
      refine (HVR.out W6).mono ?_
      rintro e w0 ⟨rfl, hw⟩
      have hwx := hw.symm
      subst hwx
      clear hw
      have HCM : Hid (Calls Tryz.prog 17 #[.pointer (some ⟨sp, 0, none⟩), .pointer (some ⟨d, 0, none⟩), .slice aT nT cT] W6 fun e w' => e = .returned (.tuple #[.slice none 0 0, .iface 101 (.int .i64 2)]) ∧ Below W6.heap.size W6 w') := by
        obtain ⟨i1, i2, i3⟩ := HIN.out W6 HB16.out
        exact commit_no sp b d nT cT N rr tt aT W6 i2.da hkN (HTW.out W6 i3).2 (by omega) HCC.out
      have hvb := vrs_bounds nT
      have HFI : Hid (∀ W, Calls Tryz.prog 18 #[.agg #[.int .i64 q, .int .i64 (N : Int), .int .i64 tt, .int .i64 rr], .int .i64 (vrs nT)] W fun e w' => e = .returned (.bool false) ∧ Below W.heap.size W w') := fun W => by
        have h := rfits12_any q N tt rr (vrs nT) W hkN (by omega) (by omega)
        rw [decide_eq_false (fun hh => HCC.out (by
          obtain ⟨v, hv, hvn, he⟩ := vrs_of hh.1
          rw [he, Int.toNat_natCast] at hh
          exact ⟨v, hv, hvn, hh.2.2⟩))] at h
        exact h
      generalize vrs nT = vv at *
      clear hvb
      go_wp2_with fail
      refine HCM.out.mono ?_
      rintro e w7 ⟨rfl, hb7⟩
      have H67 := hid hb7
      obtain ⟨z0, z1, z2, z3⟩ := HCD.out w7 hb7
      clear hb7 HCM
      go_wp2_with fail
      refine (HFI.out w7).mono ?_
      rintro e w8 ⟨rfl, hb8⟩
      have H68 : Hid (Below W6.heap.size W6 w8) := H67.out.trans (hb8.mono H67.out.size)
      have HTX := hid (HTO.out w8 (HIN.out w8 (HB16.out.trans (H68.out.mono HB16.out.size))).2.2)
      clear hb8 z0 z1 z2 z3 HFI
      go_wp2_with fail
      refine HTX.out.mono ?_
      rintro e w10 ⟨rfl, hb10⟩
      have HE : Hid (Below w.heap.size w w10) := (HIN.out w10 (HB16.out.trans ((H68.out.trans (hb10.mono H68.out.size)).mono HB16.out.size))).2.2
      clear hb10 HTX
      go_wp2_with fail
      go_ret
      exact ⟨rfl, HE.out⟩

set_option maxRecDepth 100000 in
set_option maxHeartbeats 8000000 in
theorem emixes_ny (q k0 cR cT : Nat) (s r : Int) (aR aT : Option Addr) (rows : List (List Int)) (t : List Int) (w : World) (hL : Laid w) (hT : TabAt 2 Lib.deBruijn64tab w) (hg : GoodT q k0 s) (hs1 : -9223372036854775808 ≤ s) (hs2 : s ≤ 9223372036854775807) (hr1 : -9223372036854775808 ≤ r) (hr2 : r ≤ 9223372036854775807) (hrl : rows.length ≤ 17592186044000) (hF : FitsR rows) (hl : LstR w.heap.size w aR cR rows) (hft : Fits t) (hlt : Lst w.heap.size w aT cT t) (hM : ¬ MixOk rows) (v : Nat) (hv : v ≤ 12) (hvn : t.length = 2 ^ v) (hvf : 2 ^ (v - v / 2) ≤ 2 ^ k0 / 2) :
    Calls Tryz.prog 3 #[.int .i64 q, .int .i64 ((2 ^ k0 : Nat) : Int), .int .i64 s, .slice aR rows.length cR, .int .i64 r, .slice aT t.length cT] w fun e w' => e = .returned (.bool true) ∧ Below w.heap.size w w' := by
  have hq3 := hg.at'.h3
  have hq4 := hg.at'.h4
  have h23 := hg.h23
  have hpr := hid hg.at'.pr
  have hkN := two_pow_le hg.at'.hk
  have hN1 : 1 ≤ 2 ^ k0 := Nat.one_le_two_pow
  have HTH := hid (things_yes q k0 s w hg hs1 hs2)
  obtain ⟨N, hN⟩ : ∃ N, N = 2 ^ k0 := ⟨_, rfl⟩
  simp only [← hN] at HTH hkN hN1 hvf ⊢
  obtain ⟨tt, htt⟩ : ∃ tt, tt = s % (q : Int) := ⟨_, rfl⟩
  rw [← htt] at HTH
  obtain ⟨t0, t1⟩ := emod_bounds s q hq3
  rw [← htt] at t0 t1
  have HNW := hid (fun W => rdnew_any q (N : Int) s W hpr.out hq3 hq4 (by omega) (by omega) hs1 hs2)
  rw [← htt] at HNW
  have HTO : Hid (∀ W, Below w.heap.size w W → Calls Tryz.prog 11 #[.iface 101 (.int .i64 2), .int .i64 2] W fun x w' => x = .returned (.bool true) ∧ Below W.heap.size W w') := fun W hW => by
    have := told_any 2 2 W (hL.below hW)
    rw [beq_self_eq_true, errz_some (by decide)] at this
    exact this
  have HVR := hid (fun W => rvariables_any t.length cT aT W)
  obtain ⟨nr, hnr⟩ : ∃ nr, nr = rows.length := ⟨_, rfl⟩
  obtain ⟨nT, hnT⟩ : ∃ nT, nT = t.length := ⟨_, rfl⟩
  have HNR := hid hnr
  have HNT := hid hnT
  have HRW : Hid (∀ W, Below w.heap.size w W → LstR W.heap.size W aR cR rows) := fun W hW => (hl.below hW).mono hW.size
  have HTW : Hid (∀ W, Below w.heap.size w W → Lst W.heap.size W aT cT t ∧ TabAt 2 Lib.deBruijn64tab W) := fun W hW => ⟨(hlt.below hW).mono hW.size, tabZ_below hT hW⟩
  have HFR := hid hF
  have HFT := hid hft
  rw [← hnr, ← hnT]
  rw [← hnT] at HVR hvn
  have hnr2 : nr ≤ 17592186044000 := by omega
  have HNB : Hid (∀ i j, i < nr → j < nr → i < rows.length) := fun i j h _ => by rw [← hnr]; exact h
  have hMX : Hid (∀ (W : World) (b : Nat), Below w.heap.size w W → W.cell? ⟨b, 0, none⟩ = some (.int .i64 q) → Calls Tryz.prog 10 #[.pointer (some ⟨b, 0, none⟩), .slice aR nr cR, .int .i64 r] W fun e w' => Below W.heap.size W w' ∧
      (MixOk rows → ∃ g, e = .returned (.tuple #[.slice (some ⟨g, 0, none⟩) (rat rows 0).length (rat rows 0).length, .nilIface]) ∧ Lst w'.heap.size w' (some ⟨g, 0, none⟩) (rat rows 0).length (mixz q rows r)) ∧
      (¬ MixOk rows → e = .returned (.tuple #[.slice none 0 0, .iface 101 (.int .i64 2)]))) := fun W b hW hc => by
    rw [hnr]
    exact pmix_any q b cR r aR rows W hq3 hq4 hc (heap_lt hc) hr1 hr2 (by omega) hF ((hl.below hW).mono hW.size)
  have hmx : Tryz.prog.follows .mixedOrders = true := by kernel_rfl
  have HPW := hid (fun W => rpowers_any q nr r W hq3 hq4 hr1 hr2 hnr2)
  have h5 : 5 ≤ q := by omega
  clear hg hL hT hF hl hft hlt hN htt hnr hnT hrl
  have HOKM := hid hM
  have HVN := hid hvn
  have HVF := hid hvf
  clear hvn hvf
  go_enter Tryz.func3, Tryz.ntmps3
  go_wp2_with fail
  refine HTH.out.mono ?_
  rintro e w1 ⟨sp, b, n, dd, d, rr, rfl, hok, hsp, hrt, hD, hb1⟩
  have HS1 := hid hsp
  have HD1 := hid hD
  have HB1 := hid hb1
  have HOK := hid hok
  have HRT := hid hrt
  have HIN : Hid (∀ W, Below w1.heap.size w1 W → SpgAt W sp b q n dd ∧ DO W q b d N rr tt ∧ Below w.heap.size w W) := fun W hW => ⟨HS1.out.below hW HS1.out.lt HS1.out.ltb, HD1.out.below hW (heap_lt HD1.out.hp) HD1.out.da.lt, HB1.out.trans (hW.mono HB1.out.size)⟩
  clear hok hsp hrt hD hb1 HTH
  go_wp2_with fail
  refine (sfield_any q n dd b sp w1 HS1.out).mono ?_
  rintro e w0 ⟨rfl, hw⟩
  have hwx := hw.symm
  subst hwx
  clear hw
  have HMQ := hid (hMX.out w1 b HB1.out HS1.out.p)
  clear hMX
  go_wp2_with fail
  refine HMQ.out.mono ?_
  rintro e w2 ⟨hb2, hy2, hn2⟩
  have HB2 := hid hb2
  have HC2 : Hid (Below w.heap.size w w2) := HB1.out.trans (hb2.mono HB1.out.size)
  obtain rfl := hn2 HOKM.out
  clear hb2 hy2 hn2 HMQ hM
  obtain ⟨bz, hbz⟩ : ∃ bz, bz = ((nr : Int) == 0) := ⟨_, rfl⟩
  have hbz2 := hbz.symm
  have HBZ := hid hbz
  clear hbz
  go_wp2_with fail
  go_loopw [19, 20] (fun bv iv wr => ∃ i : Nat, 1 ≤ i ∧ iv = .int .i64 (i : Int) ∧ (i ≤ nr ∨ i = 1) ∧ ∃ B : Bool, bv = .bool B ∧ Hid (B = bdx rows i ∧ Below w2.heap.size w2 wr)) (fun _ iv _ => nr - (intOf iv).toNat)
  case atStart => exact ⟨1, Nat.le_refl _, rfl, Or.inr rfl, _, rfl, by rw [bdx_one, ← HNR.out]; exact HBZ.out, Below.refl _ _⟩
  case round =>
    obtain ⟨i, hi1, rfl, hi2, B, rfl, hI⟩ := hrel
    have HBE := hid hI.out.1
    have HBI := hid hI.out.2
    clear hI
    by_cases hlt : i < nr
    · have hlt2 : (i : Int) < (nr : Int) := by omega
      have hi0 : ¬ (i : Int) < 0 := by omega
      have hn0 : ¬ nr = 0 := by omega
      have hn1 : (0 : Int) < (nr : Int) := by omega
      have his : IntKind.i64.wrap ((i : Int) + 1) = (i : Int) + 1 := by rw [IntKind.wrap_i64]; omega
      have HWW : Hid (Below w.heap.size w wr.drew) := (HC2.out.trans (HBI.out.mono HC2.out.size)).drew
      obtain ⟨b1, o1, ai, ci, rfl, _, hci, _⟩ := (HRW.out _ HWW.out).row i (by rw [← HNR.out]; exact hlt)
      obtain ⟨b1', o1', a0, c0, e1, _, hc0, _⟩ := (HRW.out _ HWW.out).row 0 (by rw [← HNR.out]; omega)
      cases e1
      rw [Nat.add_zero] at hc0
      have HNX : Hid (bdx rows (i + 1) = (bdx rows i || ((((rat rows i).length : Int) != ((rat rows 0).length : Int))))) := bdx_next hi1
      obtain ⟨ni, hni⟩ : ∃ ni, ni = (rat rows i).length := ⟨_, rfl⟩
      obtain ⟨m0, hm0⟩ : ∃ m0, m0 = (rat rows 0).length := ⟨_, rfl⟩
      rw [← hni] at hci HNX
      rw [← hm0] at hc0 HNX
      obtain ⟨dif, hdif⟩ : ∃ dif, dif = ((ni : Int) != (m0 : Int)) := ⟨_, rfl⟩
      rw [← hdif, ← HBE.out] at HNX
      have hdif2 := hdif.symm
      have HS10 : Hid (wr.drew.cell? ⟨b1, o1 + i, none⟩ = some (.slice ai ni ci) ∧ wr.drew.cell? ⟨b1, o1, none⟩ = some (.slice a0 m0 c0)) := ⟨hci, hc0⟩
      have HBD : Hid (Below w2.heap.size w2 wr.drew) := HBI.out.drew
      clear hci hc0 hni hm0 hdif HBI HWW
      go_wp2_with fail
      refine wp_region_held_drew (S := fun W => (W.cell? ⟨b1, o1 + i, none⟩ = some (.slice ai ni ci) ∧ W.cell? ⟨b1, o1, none⟩ = some (.slice a0 m0 c0))) (by kernel_rfl) (HS10.out) (fun hHeld => ?_)
      refine wpAnyH_takeU (i := 0) (v := .slice (some ⟨b1, o1, none⟩) nr cR) rfl (by kernel_rfl) (by kernel_rfl) (by kernel_rfl) (fun _ _ _ h => h) (by rfl) (fun W hC => by go_simp) hHeld ?_
      simp only [Act.put, List.setIfInBounds_toArray, List.set_cons_zero, List.set_cons_succ]
      refine wpAnyH_takeU (i := 1) (v := .int .i64 (i : Int)) rfl (by kernel_rfl) (by kernel_rfl) (by kernel_rfl) (fun _ _ _ h => h) (by rfl) (fun W hC => by go_simp) hHeld ?_
      simp only [Act.put, List.setIfInBounds_toArray, List.set_cons_zero, List.set_cons_succ]
      refine wpAnyH_takeU (i := 2) (v := .pointer (some ⟨b1, o1 + i, none⟩)) rfl (by kernel_rfl) (by kernel_rfl) (by kernel_rfl) (fun _ _ _ h => h) (by rfl) (fun W hC => by go_simp) hHeld ?_
      simp only [Act.put, List.setIfInBounds_toArray, List.set_cons_zero, List.set_cons_succ]
      refine wpAnyH_takeU (i := 3) (v := .slice ai ni ci) rfl (by kernel_rfl) (by kernel_rfl) (by kernel_rfl) (fun _ _ _ h => h) (by rfl) (fun W hC => by (obtain ⟨x1, x2⟩ := hC); go_simp) hHeld ?_
      simp only [Act.put, List.setIfInBounds_toArray, List.set_cons_zero, List.set_cons_succ]
      refine wpAnyH_takeU (i := 4) (v := .int .i64 (ni : Int)) rfl (by kernel_rfl) (by kernel_rfl) (by kernel_rfl) (fun _ _ _ h => h) (by rfl) (fun W hC => by go_simp) hHeld ?_
      simp only [Act.put, List.setIfInBounds_toArray, List.set_cons_zero, List.set_cons_succ]
      refine wpAnyH_takeU (i := 5) (v := .slice (some ⟨b1, o1, none⟩) nr cR) rfl (by kernel_rfl) (by kernel_rfl) (by kernel_rfl) (fun _ _ _ h => h) (by rfl) (fun W hC => by go_simp) hHeld ?_
      simp only [Act.put, List.setIfInBounds_toArray, List.set_cons_zero, List.set_cons_succ]
      refine wpAnyH_takeU (i := 6) (v := .pointer (some ⟨b1, o1, none⟩)) rfl (by kernel_rfl) (by kernel_rfl) (by kernel_rfl) (fun _ _ _ h => h) (by rfl) (fun W hC => by go_simp) hHeld ?_
      simp only [Act.put, List.setIfInBounds_toArray, List.set_cons_zero, List.set_cons_succ]
      refine wpAnyH_takeU (i := 7) (v := .slice a0 m0 c0) rfl (by kernel_rfl) (by kernel_rfl) (by kernel_rfl) (fun _ _ _ h => h) (by rfl) (fun W hC => by (obtain ⟨x1, x2⟩ := hC); go_simp) hHeld ?_
      simp only [Act.put, List.setIfInBounds_toArray, List.set_cons_zero, List.set_cons_succ]
      refine wpAnyH_takeU (i := 8) (v := .int .i64 (m0 : Int)) rfl (by kernel_rfl) (by kernel_rfl) (by kernel_rfl) (fun _ _ _ h => h) (by rfl) (fun W hC => by go_simp) hHeld ?_
      simp only [Act.put, List.setIfInBounds_toArray, List.set_cons_zero, List.set_cons_succ]
      refine wpAnyH_takeU (i := 9) (v := .bool dif) rfl (by kernel_rfl) (by kernel_rfl) (by kernel_rfl) (fun _ _ _ h => h) (by rfl) (fun W hC => by go_simp) hHeld ?_
      simp only [Act.put, List.setIfInBounds_toArray, List.set_cons_zero, List.set_cons_succ]
      refine wpAnyH_done (by kernel_rfl) ?_ _
      generalize wr.drew = WD at *
      clear hdif2
      cases dif
      · rw [Bool.or_false] at HNX
        go_wp2_with fail
        go_roundw
        case rel => exact ⟨i + 1, by omega, by go_num, Or.inl (by omega), B, rfl, HNX.out.symm, HBD.out⟩
        case measure => simp [intOf]; omega
      · rw [Bool.or_true] at HNX
        go_wp2_with fail
        go_roundw
        case rel => exact ⟨i + 1, by omega, by go_num, Or.inl (by omega), true, rfl, HNX.out.symm, HBD.out⟩
        case measure => simp [intOf]; omega
    · have hlt2 : ¬ (i : Int) < (nr : Int) := by omega
      have HBB : Hid (B = true) := by unfold Hid; rw [HBE.out]; exact bdx_bad HOKM.out (by rw [← HNR.out]; omega)
      have hbb := HBB.out
      subst hbb
      have HCW : Hid (Below w.heap.size w wr) := HC2.out.trans (HBI.out.mono HC2.out.size)
      clear HBE HBB
      go_wp2_with fail
      refine (HTO.out wr HCW.out).mono ?_
      rintro e w3 ⟨rfl, hb3⟩
      have HB13 : Hid (Below w1.heap.size w1 w3) := (HB2.out.trans (HBI.out.mono HB2.out.size)).trans (hb3.mono (HB2.out.trans (HBI.out.mono HB2.out.size)).size)
      clear hb3
      go_wp2_with fail
      refine (HNW.out w3).mono ?_
      rintro e w5 ⟨r2, rfl, hr2, hb5⟩
      obtain rfl : rr = r2 := rootIs_unique HRT.out hr2
      obtain ⟨Dm, hDm⟩ : ∃ Dm, Dm = w5.heap.size := ⟨_, rfl⟩
      obtain ⟨W6, hW6⟩ : ∃ W6, W6 = w5.alloc (.cells #[.int .i64 (q : Int), .int .i64 (N : Int), .int .i64 tt, .int .i64 (rr : Int)] 39) := ⟨_, rfl⟩
      obtain ⟨hba, hsa, hza⟩ := own_pm hW6
      rw [← hDm] at hsa
      have HCD : Hid (∀ W, Below W6.heap.size W6 W → W.cell? ⟨Dm, 0, none⟩ = some (.int .i64 (q : Int)) ∧ W.cell? ⟨Dm, 1, none⟩ = some (.int .i64 (N : Int)) ∧ W.cell? ⟨Dm, 2, none⟩ = some (.int .i64 tt) ∧ W.cell? ⟨Dm, 3, none⟩ = some (.int .i64 (rr : Int))) := fun W hW => by
        have e1 := (hW.block Dm (Array.getElem?_eq_some_iff.1 hsa).1).trans hsa
        exact ⟨by simp [World.cell?, e1], by simp [World.cell?, e1], by simp [World.cell?, e1], by simp [World.cell?, e1]⟩
      have HB16 : Hid (Below w1.heap.size w1 W6) := (HB13.out.trans (hb5.mono HB13.out.size)).trans (hba.mono (HB13.out.trans (hb5.mono HB13.out.size)).size)
      have HDE := hid hDm
      have HW6 := hid hW6
      clear hr2 hb5 hba hsa hza hDm hW6 HB13
      go_wp2_with fail
      rw [← HDE.out, ← HW6.out]
      refine (HVR.out W6).mono ?_
      rintro e w0 ⟨rfl, hw⟩
      have hwx := hw.symm
      subst hwx
      clear hw
      have HCM : Hid (Calls Tryz.prog 17 #[.pointer (some ⟨sp, 0, none⟩), .pointer (some ⟨d, 0, none⟩), .slice aT nT cT] W6 fun e w' => ∃ a' c', e = .returned (.tuple #[.slice a' 4 c', .nilIface]) ∧ Lst w'.heap.size w' a' c' (ctz q n tt rr N v t) ∧ Below W6.heap.size W6 w') := by
        obtain ⟨i1, i2, i3⟩ := HIN.out W6 HB16.out
        have h := commit_yes q n dd sp b d v cT N rr tt aT t W6 HOK.out i1 i2 (HTW.out W6 i3).2 hv (by rw [← HNT.out]; exact HVN.out) HVF.out HFT.out (HTW.out W6 i3).1
        rw [← HNT.out] at h
        exact h
      have HVV : Hid (vrs nT = (v : Int)) := vrs_yes hv HVN.out
      rw [HVV.out]
      have HFI : Hid (∀ W, Calls Tryz.prog 18 #[.agg #[.int .i64 q, .int .i64 (N : Int), .int .i64 tt, .int .i64 rr], .int .i64 (v : Int)] W fun e w' => e = .returned (.bool true) ∧ Below W.heap.size W w') := fun W => by
        have h := rfits12_any q N tt rr (v : Int) W hkN (by omega) (by omega)
        rw [decide_eq_true ⟨by omega, by omega, by rw [Int.toNat_natCast]; exact HVF.out⟩] at h
        exact h
      go_wp2_with fail
      refine HCM.out.mono ?_
      rintro e w7 ⟨a7, c7, rfl, hl7, hb7⟩
      have HL7 := hid hl7
      have H67 := hid hb7
      obtain ⟨z0, z1, z2, z3⟩ := HCD.out w7 hb7
      clear hl7 hb7 HCM
      go_wp2_with fail
      refine (HFI.out w7).mono ?_
      rintro e w8 ⟨rfl, hb8⟩
      have H68 : Hid (Below W6.heap.size W6 w8) := H67.out.trans (hb8.mono H67.out.size)
      have HL8 := hid ((HL7.out.below hb8).mono hb8.size)
      have HRO : Hid (Calls Tryz.prog 19 #[.agg #[.int .i64 (q : Int), .int .i64 (N : Int), .int .i64 tt, .int .i64 rr], .slice aT nT cT, .int .i64 (v : Int)] w8 fun e w' => ∃ a' c', e = .returned (.slice a' 4 c') ∧ Lst w'.heap.size w' a' c' (ctz q n tt rr N v t) ∧ Below w8.heap.size w8 w') := by
        have hw8 := (HIN.out w8 (HB16.out.trans (H68.out.mono HB16.out.size))).2.2
        have hDD := HD1.out
        have h := rroot12_any q n v cT N tt rr aT t w8 h5 hq4 HOK.out.pw hN1 hkN hDD.hr0 hDD.hr1 t0 t1 hv (by rw [← HNT.out]; exact HVN.out) HFT.out (HTW.out w8 hw8).1
        rw [← HNT.out] at h
        exact h
      clear z0 z1 z2 z3
      obtain ⟨z0, z1, z2, z3⟩ := HCD.out w8 H68.out
      clear hb8 HL7 H67 HFI
      go_wp2_with fail
      refine HRO.out.mono ?_
      rintro e w9 ⟨a9, c9, rfl, hl9, hb9⟩
      have H69 : Hid (Below W6.heap.size W6 w9) := H68.out.trans (hb9.mono H68.out.size)
      have hcl : (ctz q n tt rr N v t).length = 4 := rtf_len _ _ _ _ hN1
      have HI9 : Hid (Calls Tryz.prog 14 #[.slice a7 4 c7, .slice a9 4 c9] w9 fun e w' => e = .returned (.bool true) ∧ Below w9.heap.size w9 w') := by
        have h := ints_same w8.heap.size w9.heap.size (ctz q n tt rr N v t) a7 a9 c7 c9 w9 (HL8.out.below hb9).row hl9.row (by rw [hcl]; decide)
        rw [hcl] at h
        refine h.mono ?_
        rintro e w' ⟨rfl, nn, rfl⟩
        exact ⟨rfl, below_drewN (Below.refl _ _) nn⟩
      clear z0 z1 z2 z3 hl9 hb9 HRO HL8 hcl
      go_wp2_with fail
      refine HI9.out.mono ?_
      rintro e w10 ⟨rfl, hb10⟩
      have HE : Hid (Below w.heap.size w w10) := (HIN.out w10 (HB16.out.trans ((H69.out.trans (hb10.mono H69.out.size)).mono HB16.out.size))).2.2
      clear hb10 HI9
      go_wp2_with fail
      go_ret
      exact ⟨rfl, HE.out⟩

set_option maxRecDepth 100000 in
set_option maxHeartbeats 8000000 in
theorem emixes_nn (q k0 cR cT : Nat) (s r : Int) (aR aT : Option Addr) (rows : List (List Int)) (t : List Int) (w : World) (hL : Laid w) (hT : TabAt 2 Lib.deBruijn64tab w) (hg : GoodT q k0 s) (hs1 : -9223372036854775808 ≤ s) (hs2 : s ≤ 9223372036854775807) (hr1 : -9223372036854775808 ≤ r) (hr2 : r ≤ 9223372036854775807) (hrl : rows.length ≤ 17592186044000) (hF : FitsR rows) (hl : LstR w.heap.size w aR cR rows) (htl : t.length ≤ 17592186043904) (hft : Fits t) (hlt : Lst w.heap.size w aT cT t) (hM : ¬ MixOk rows) (hC : ¬ CmO (2 ^ k0) t.length) :
    Calls Tryz.prog 3 #[.int .i64 q, .int .i64 ((2 ^ k0 : Nat) : Int), .int .i64 s, .slice aR rows.length cR, .int .i64 r, .slice aT t.length cT] w fun e w' => e = .returned (.bool true) ∧ Below w.heap.size w w' := by
  have hq3 := hg.at'.h3
  have hq4 := hg.at'.h4
  have h23 := hg.h23
  have hpr := hid hg.at'.pr
  have hkN := two_pow_le hg.at'.hk
  have hN1 : 1 ≤ 2 ^ k0 := Nat.one_le_two_pow
  have HTH := hid (things_yes q k0 s w hg hs1 hs2)
  obtain ⟨N, hN⟩ : ∃ N, N = 2 ^ k0 := ⟨_, rfl⟩
  simp only [← hN] at HTH hkN hN1 hC ⊢
  obtain ⟨tt, htt⟩ : ∃ tt, tt = s % (q : Int) := ⟨_, rfl⟩
  rw [← htt] at HTH
  obtain ⟨t0, t1⟩ := emod_bounds s q hq3
  rw [← htt] at t0 t1
  have HNW := hid (fun W => rdnew_any q (N : Int) s W hpr.out hq3 hq4 (by omega) (by omega) hs1 hs2)
  rw [← htt] at HNW
  have HTO : Hid (∀ W, Below w.heap.size w W → Calls Tryz.prog 11 #[.iface 101 (.int .i64 2), .int .i64 2] W fun x w' => x = .returned (.bool true) ∧ Below W.heap.size W w') := fun W hW => by
    have := told_any 2 2 W (hL.below hW)
    rw [beq_self_eq_true, errz_some (by decide)] at this
    exact this
  have HVR := hid (fun W => rvariables_any t.length cT aT W)
  obtain ⟨nr, hnr⟩ : ∃ nr, nr = rows.length := ⟨_, rfl⟩
  obtain ⟨nT, hnT⟩ : ∃ nT, nT = t.length := ⟨_, rfl⟩
  have HNR := hid hnr
  have HNT := hid hnT
  have HRW : Hid (∀ W, Below w.heap.size w W → LstR W.heap.size W aR cR rows) := fun W hW => (hl.below hW).mono hW.size
  have HTW : Hid (∀ W, Below w.heap.size w W → Lst W.heap.size W aT cT t ∧ TabAt 2 Lib.deBruijn64tab W) := fun W hW => ⟨(hlt.below hW).mono hW.size, tabZ_below hT hW⟩
  have HFR := hid hF
  have HFT := hid hft
  rw [← hnr, ← hnT]
  rw [← hnT] at HVR htl hC
  have hnr2 : nr ≤ 17592186044000 := by omega
  have HNB : Hid (∀ i j, i < nr → j < nr → i < rows.length) := fun i j h _ => by rw [← hnr]; exact h
  have hMX : Hid (∀ (W : World) (b : Nat), Below w.heap.size w W → W.cell? ⟨b, 0, none⟩ = some (.int .i64 q) → Calls Tryz.prog 10 #[.pointer (some ⟨b, 0, none⟩), .slice aR nr cR, .int .i64 r] W fun e w' => Below W.heap.size W w' ∧
      (MixOk rows → ∃ g, e = .returned (.tuple #[.slice (some ⟨g, 0, none⟩) (rat rows 0).length (rat rows 0).length, .nilIface]) ∧ Lst w'.heap.size w' (some ⟨g, 0, none⟩) (rat rows 0).length (mixz q rows r)) ∧
      (¬ MixOk rows → e = .returned (.tuple #[.slice none 0 0, .iface 101 (.int .i64 2)]))) := fun W b hW hc => by
    rw [hnr]
    exact pmix_any q b cR r aR rows W hq3 hq4 hc (heap_lt hc) hr1 hr2 (by omega) hF ((hl.below hW).mono hW.size)
  have hmx : Tryz.prog.follows .mixedOrders = true := by kernel_rfl
  have HPW := hid (fun W => rpowers_any q nr r W hq3 hq4 hr1 hr2 hnr2)
  have h5 : 5 ≤ q := by omega
  clear hg hL hT hF hl hft hlt hN htt hnr hnT hrl
  have HOKM := hid hM
  have HCC := hid hC
  clear hC
  go_enter Tryz.func3, Tryz.ntmps3
  go_wp2_with fail
  refine HTH.out.mono ?_
  rintro e w1 ⟨sp, b, n, dd, d, rr, rfl, hok, hsp, hrt, hD, hb1⟩
  have HS1 := hid hsp
  have HD1 := hid hD
  have HB1 := hid hb1
  have HOK := hid hok
  have HRT := hid hrt
  have HIN : Hid (∀ W, Below w1.heap.size w1 W → SpgAt W sp b q n dd ∧ DO W q b d N rr tt ∧ Below w.heap.size w W) := fun W hW => ⟨HS1.out.below hW HS1.out.lt HS1.out.ltb, HD1.out.below hW (heap_lt HD1.out.hp) HD1.out.da.lt, HB1.out.trans (hW.mono HB1.out.size)⟩
  clear hok hsp hrt hD hb1 HTH
  go_wp2_with fail
  refine (sfield_any q n dd b sp w1 HS1.out).mono ?_
  rintro e w0 ⟨rfl, hw⟩
  have hwx := hw.symm
  subst hwx
  clear hw
  have HMQ := hid (hMX.out w1 b HB1.out HS1.out.p)
  clear hMX
  go_wp2_with fail
  refine HMQ.out.mono ?_
  rintro e w2 ⟨hb2, hy2, hn2⟩
  have HB2 := hid hb2
  have HC2 : Hid (Below w.heap.size w w2) := HB1.out.trans (hb2.mono HB1.out.size)
  obtain rfl := hn2 HOKM.out
  clear hb2 hy2 hn2 HMQ hM
  obtain ⟨bz, hbz⟩ : ∃ bz, bz = ((nr : Int) == 0) := ⟨_, rfl⟩
  have hbz2 := hbz.symm
  have HBZ := hid hbz
  clear hbz
  go_wp2_with fail
  go_loopw [19, 20] (fun bv iv wr => ∃ i : Nat, 1 ≤ i ∧ iv = .int .i64 (i : Int) ∧ (i ≤ nr ∨ i = 1) ∧ ∃ B : Bool, bv = .bool B ∧ Hid (B = bdx rows i ∧ Below w2.heap.size w2 wr)) (fun _ iv _ => nr - (intOf iv).toNat)
  case atStart => exact ⟨1, Nat.le_refl _, rfl, Or.inr rfl, _, rfl, by rw [bdx_one, ← HNR.out]; exact HBZ.out, Below.refl _ _⟩
  case round =>
    obtain ⟨i, hi1, rfl, hi2, B, rfl, hI⟩ := hrel
    have HBE := hid hI.out.1
    have HBI := hid hI.out.2
    clear hI
    by_cases hlt : i < nr
    · have hlt2 : (i : Int) < (nr : Int) := by omega
      have hi0 : ¬ (i : Int) < 0 := by omega
      have hn0 : ¬ nr = 0 := by omega
      have hn1 : (0 : Int) < (nr : Int) := by omega
      have his : IntKind.i64.wrap ((i : Int) + 1) = (i : Int) + 1 := by rw [IntKind.wrap_i64]; omega
      have HWW : Hid (Below w.heap.size w wr.drew) := (HC2.out.trans (HBI.out.mono HC2.out.size)).drew
      obtain ⟨b1, o1, ai, ci, rfl, _, hci, _⟩ := (HRW.out _ HWW.out).row i (by rw [← HNR.out]; exact hlt)
      obtain ⟨b1', o1', a0, c0, e1, _, hc0, _⟩ := (HRW.out _ HWW.out).row 0 (by rw [← HNR.out]; omega)
      cases e1
      rw [Nat.add_zero] at hc0
      have HNX : Hid (bdx rows (i + 1) = (bdx rows i || ((((rat rows i).length : Int) != ((rat rows 0).length : Int))))) := bdx_next hi1
      obtain ⟨ni, hni⟩ : ∃ ni, ni = (rat rows i).length := ⟨_, rfl⟩
      obtain ⟨m0, hm0⟩ : ∃ m0, m0 = (rat rows 0).length := ⟨_, rfl⟩
      rw [← hni] at hci HNX
      rw [← hm0] at hc0 HNX
      obtain ⟨dif, hdif⟩ : ∃ dif, dif = ((ni : Int) != (m0 : Int)) := ⟨_, rfl⟩
      rw [← hdif, ← HBE.out] at HNX
      have hdif2 := hdif.symm
      have HS10 : Hid (wr.drew.cell? ⟨b1, o1 + i, none⟩ = some (.slice ai ni ci) ∧ wr.drew.cell? ⟨b1, o1, none⟩ = some (.slice a0 m0 c0)) := ⟨hci, hc0⟩
      have HBD : Hid (Below w2.heap.size w2 wr.drew) := HBI.out.drew
      clear hci hc0 hni hm0 hdif HBI HWW
      go_wp2_with fail
      refine wp_region_held_drew (S := fun W => (W.cell? ⟨b1, o1 + i, none⟩ = some (.slice ai ni ci) ∧ W.cell? ⟨b1, o1, none⟩ = some (.slice a0 m0 c0))) (by kernel_rfl) (HS10.out) (fun hHeld => ?_)
      refine wpAnyH_takeU (i := 0) (v := .slice (some ⟨b1, o1, none⟩) nr cR) rfl (by kernel_rfl) (by kernel_rfl) (by kernel_rfl) (fun _ _ _ h => h) (by rfl) (fun W hC => by go_simp) hHeld ?_
      simp only [Act.put, List.setIfInBounds_toArray, List.set_cons_zero, List.set_cons_succ]
      refine wpAnyH_takeU (i := 1) (v := .int .i64 (i : Int)) rfl (by kernel_rfl) (by kernel_rfl) (by kernel_rfl) (fun _ _ _ h => h) (by rfl) (fun W hC => by go_simp) hHeld ?_
      simp only [Act.put, List.setIfInBounds_toArray, List.set_cons_zero, List.set_cons_succ]
      refine wpAnyH_takeU (i := 2) (v := .pointer (some ⟨b1, o1 + i, none⟩)) rfl (by kernel_rfl) (by kernel_rfl) (by kernel_rfl) (fun _ _ _ h => h) (by rfl) (fun W hC => by go_simp) hHeld ?_
      simp only [Act.put, List.setIfInBounds_toArray, List.set_cons_zero, List.set_cons_succ]
      refine wpAnyH_takeU (i := 3) (v := .slice ai ni ci) rfl (by kernel_rfl) (by kernel_rfl) (by kernel_rfl) (fun _ _ _ h => h) (by rfl) (fun W hC => by (obtain ⟨x1, x2⟩ := hC); go_simp) hHeld ?_
      simp only [Act.put, List.setIfInBounds_toArray, List.set_cons_zero, List.set_cons_succ]
      refine wpAnyH_takeU (i := 4) (v := .int .i64 (ni : Int)) rfl (by kernel_rfl) (by kernel_rfl) (by kernel_rfl) (fun _ _ _ h => h) (by rfl) (fun W hC => by go_simp) hHeld ?_
      simp only [Act.put, List.setIfInBounds_toArray, List.set_cons_zero, List.set_cons_succ]
      refine wpAnyH_takeU (i := 5) (v := .slice (some ⟨b1, o1, none⟩) nr cR) rfl (by kernel_rfl) (by kernel_rfl) (by kernel_rfl) (fun _ _ _ h => h) (by rfl) (fun W hC => by go_simp) hHeld ?_
      simp only [Act.put, List.setIfInBounds_toArray, List.set_cons_zero, List.set_cons_succ]
      refine wpAnyH_takeU (i := 6) (v := .pointer (some ⟨b1, o1, none⟩)) rfl (by kernel_rfl) (by kernel_rfl) (by kernel_rfl) (fun _ _ _ h => h) (by rfl) (fun W hC => by go_simp) hHeld ?_
      simp only [Act.put, List.setIfInBounds_toArray, List.set_cons_zero, List.set_cons_succ]
      refine wpAnyH_takeU (i := 7) (v := .slice a0 m0 c0) rfl (by kernel_rfl) (by kernel_rfl) (by kernel_rfl) (fun _ _ _ h => h) (by rfl) (fun W hC => by (obtain ⟨x1, x2⟩ := hC); go_simp) hHeld ?_
      simp only [Act.put, List.setIfInBounds_toArray, List.set_cons_zero, List.set_cons_succ]
      refine wpAnyH_takeU (i := 8) (v := .int .i64 (m0 : Int)) rfl (by kernel_rfl) (by kernel_rfl) (by kernel_rfl) (fun _ _ _ h => h) (by rfl) (fun W hC => by go_simp) hHeld ?_
      simp only [Act.put, List.setIfInBounds_toArray, List.set_cons_zero, List.set_cons_succ]
      refine wpAnyH_takeU (i := 9) (v := .bool dif) rfl (by kernel_rfl) (by kernel_rfl) (by kernel_rfl) (fun _ _ _ h => h) (by rfl) (fun W hC => by go_simp) hHeld ?_
      simp only [Act.put, List.setIfInBounds_toArray, List.set_cons_zero, List.set_cons_succ]
      refine wpAnyH_done (by kernel_rfl) ?_ _
      generalize wr.drew = WD at *
      clear hdif2
      cases dif
      · rw [Bool.or_false] at HNX
        go_wp2_with fail
        go_roundw
        case rel => exact ⟨i + 1, by omega, by go_num, Or.inl (by omega), B, rfl, HNX.out.symm, HBD.out⟩
        case measure => simp [intOf]; omega
      · rw [Bool.or_true] at HNX
        go_wp2_with fail
        go_roundw
        case rel => exact ⟨i + 1, by omega, by go_num, Or.inl (by omega), true, rfl, HNX.out.symm, HBD.out⟩
        case measure => simp [intOf]; omega
    · have hlt2 : ¬ (i : Int) < (nr : Int) := by omega
      have HBB : Hid (B = true) := by unfold Hid; rw [HBE.out]; exact bdx_bad HOKM.out (by rw [← HNR.out]; omega)
      have hbb := HBB.out
      subst hbb
      have HCW : Hid (Below w.heap.size w wr) := HC2.out.trans (HBI.out.mono HC2.out.size)
      clear HBE HBB
      go_wp2_with fail
      refine (HTO.out wr HCW.out).mono ?_
      rintro e w3 ⟨rfl, hb3⟩
      have HB13 : Hid (Below w1.heap.size w1 w3) := (HB2.out.trans (HBI.out.mono HB2.out.size)).trans (hb3.mono (HB2.out.trans (HBI.out.mono HB2.out.size)).size)
      clear hb3
      go_wp2_with fail
      refine (HNW.out w3).mono ?_
      rintro e w5 ⟨r2, rfl, hr2, hb5⟩
      obtain rfl : rr = r2 := rootIs_unique HRT.out hr2
      obtain ⟨Dm, hDm⟩ : ∃ Dm, Dm = w5.heap.size := ⟨_, rfl⟩
      obtain ⟨W6, hW6⟩ : ∃ W6, W6 = w5.alloc (.cells #[.int .i64 (q : Int), .int .i64 (N : Int), .int .i64 tt, .int .i64 (rr : Int)] 39) := ⟨_, rfl⟩
      obtain ⟨hba, hsa, hza⟩ := own_pm hW6
      rw [← hDm] at hsa
      have HCD : Hid (∀ W, Below W6.heap.size W6 W → W.cell? ⟨Dm, 0, none⟩ = some (.int .i64 (q : Int)) ∧ W.cell? ⟨Dm, 1, none⟩ = some (.int .i64 (N : Int)) ∧ W.cell? ⟨Dm, 2, none⟩ = some (.int .i64 tt) ∧ W.cell? ⟨Dm, 3, none⟩ = some (.int .i64 (rr : Int))) := fun W hW => by
        have e1 := (hW.block Dm (Array.getElem?_eq_some_iff.1 hsa).1).trans hsa
        exact ⟨by simp [World.cell?, e1], by simp [World.cell?, e1], by simp [World.cell?, e1], by simp [World.cell?, e1]⟩
      have HB16 : Hid (Below w1.heap.size w1 W6) := (HB13.out.trans (hb5.mono HB13.out.size)).trans (hba.mono (HB13.out.trans (hb5.mono HB13.out.size)).size)
      have HDE := hid hDm
      have HW6 := hid hW6
      clear hr2 hb5 hba hsa hza hDm hW6 HB13
      go_wp2_with fail
      rw [← HDE.out, ← HW6.out]
      refine (HVR.out W6).mono ?_
      rintro e w0 ⟨rfl, hw⟩
      have hwx := hw.symm
      subst hwx
      clear hw
      have HCM : Hid (Calls Tryz.prog 17 #[.pointer (some ⟨sp, 0, none⟩), .pointer (some ⟨d, 0, none⟩), .slice aT nT cT] W6 fun e w' => e = .returned (.tuple #[.slice none 0 0, .iface 101 (.int .i64 2)]) ∧ Below W6.heap.size W6 w') := by
        obtain ⟨i1, i2, i3⟩ := HIN.out W6 HB16.out
        exact commit_no sp b d nT cT N rr tt aT W6 i2.da hkN (HTW.out W6 i3).2 (by omega) HCC.out
      have hvb := vrs_bounds nT
      have HFI : Hid (∀ W, Calls Tryz.prog 18 #[.agg #[.int .i64 q, .int .i64 (N : Int), .int .i64 tt, .int .i64 rr], .int .i64 (vrs nT)] W fun e w' => e = .returned (.bool false) ∧ Below W.heap.size W w') := fun W => by
        have h := rfits12_any q N tt rr (vrs nT) W hkN (by omega) (by omega)
        rw [decide_eq_false (fun hh => HCC.out (by
          obtain ⟨v, hv, hvn, he⟩ := vrs_of hh.1
          rw [he, Int.toNat_natCast] at hh
          exact ⟨v, hv, hvn, hh.2.2⟩))] at h
        exact h
      generalize vrs nT = vv at *
      clear hvb
      go_wp2_with fail
      refine HCM.out.mono ?_
      rintro e w7 ⟨rfl, hb7⟩
      have H67 := hid hb7
      obtain ⟨z0, z1, z2, z3⟩ := HCD.out w7 hb7
      clear hb7 HCM
      go_wp2_with fail
      refine (HFI.out w7).mono ?_
      rintro e w8 ⟨rfl, hb8⟩
      have H68 : Hid (Below W6.heap.size W6 w8) := H67.out.trans (hb8.mono H67.out.size)
      have HTX := hid (HTO.out w8 (HIN.out w8 (HB16.out.trans (H68.out.mono HB16.out.size))).2.2)
      clear hb8 z0 z1 z2 z3 HFI
      go_wp2_with fail
      refine HTX.out.mono ?_
      rintro e w10 ⟨rfl, hb10⟩
      have HE : Hid (Below w.heap.size w w10) := (HIN.out w10 (HB16.out.trans ((H68.out.trans (hb10.mono H68.out.size)).mono HB16.out.size))).2.2
      clear hb10 HTX
      go_wp2_with fail
      go_ret
      exact ⟨rfl, HE.out⟩

set_option maxRecDepth 100000 in
set_option maxHeartbeats 1000000 in
theorem emixes_no (p n s r : Int) (nr cR nT cT : Nat) (aR aT : Option Addr) (w : World) (hL : Laid w) (hno : ¬ Good10 p n s) (hp1 : -9223372036854775808 ≤ p) (hp2 : p ≤ 9223372036854775807) (hn1 : -9223372036854775808 ≤ n) (hn2 : n ≤ 9223372036854775807) (hs1 : -9223372036854775808 ≤ s) (hs2 : s ≤ 9223372036854775807) :
    Calls Tryz.prog 3 #[.int .i64 p, .int .i64 n, .int .i64 s, .slice aR nr cR, .int .i64 r, .slice aT nT cT] w fun e w' => e = .returned (.bool true) ∧ Below w.heap.size w w' := by
  have HTH := hid (things_no p n s w hL hno hp1 hp2 hn1 hn2 hs1 hs2)
  clear hL hno hp1 hp2 hn1 hn2 hs1 hs2
  go_enter Tryz.func3, Tryz.ntmps3
  go_wp2_with fail
  refine HTH.out.mono ?_
  rintro e w1 ⟨rfl, hb1⟩
  have HE := hid hb1
  clear hb1 HTH
  go_wp2_with fail
  go_ret
  exact ⟨rfl, HE.out⟩

theorem emixes_walk (p n s r : Int) (cR cT : Nat) (aR aT : Option Addr) (rows : List (List Int)) (t : List Int) (w : World) (hL : Laid w) (hT : TabAt 2 Lib.deBruijn64tab w) (hp1 : -9223372036854775808 ≤ p) (hp2 : p ≤ 9223372036854775807) (hn1 : -9223372036854775808 ≤ n) (hn2 : n ≤ 9223372036854775807) (hs1 : -9223372036854775808 ≤ s) (hs2 : s ≤ 9223372036854775807) (hr1 : -9223372036854775808 ≤ r) (hr2 : r ≤ 9223372036854775807) (hrl : rows.length ≤ 17592186044000) (hF : FitsR rows) (hl : LstR w.heap.size w aR cR rows) (htl : t.length ≤ 17592186043904) (hft : Fits t) (hlt : Lst w.heap.size w aT cT t) :
    Calls Tryz.prog 3 #[.int .i64 p, .int .i64 n, .int .i64 s, .slice aR rows.length cR, .int .i64 r, .slice aT t.length cT] w fun e w' => e = .returned (.bool true) ∧ Below w.heap.size w w' := by
  by_cases hg : Good10 p n s
  · obtain ⟨q, k0, rfl, rfl, hg⟩ := hg
    by_cases hM : MixOk rows
    · by_cases hC : CmO (2 ^ k0) t.length
      · obtain ⟨v, hv, hvn, hvf⟩ := hC
        exact emixes_yy q k0 cR cT s r aR aT rows t w hL hT hg hs1 hs2 hr1 hr2 hrl hF hl hft hlt hM v hv hvn hvf
      · exact emixes_yn q k0 cR cT s r aR aT rows t w hL hT hg hs1 hs2 hr1 hr2 hrl hF hl htl hft hlt hM hC
    · by_cases hC : CmO (2 ^ k0) t.length
      · obtain ⟨v, hv, hvn, hvf⟩ := hC
        exact emixes_ny q k0 cR cT s r aR aT rows t w hL hT hg hs1 hs2 hr1 hr2 hrl hF hl hft hlt hM v hv hvn hvf
      · exact emixes_nn q k0 cR cT s r aR aT rows t w hL hT hg hs1 hs2 hr1 hr2 hrl hF hl htl hft hlt hM hC
  · exact emixes_no p n s r rows.length cR t.length cT aR aT w hL hg hp1 hp2 hn1 hn2 hs1 hs2

end Go.Proofs.YtpgnabmkfkcogaaGreatDoor
