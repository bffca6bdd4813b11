/- Package sums: Check. -/
import Derived.Test.YtecaifjbmfianagDoorSmgB
import Derived.Test.YtecaifjbmfianagDoorSmgC
namespace Go.Proofs.YtecaifjbmfianagDoor
open Go.RowKit

theorem cnt_unl {p n : Nat} (h0 : 0 < p) (h : n ≤ p) : Unl p (zat (cnt' n)) (cnt' n).length := fun i j hij hj e => by
  rw [cnt_len] at hj
  have hd := (Pol.emod_eq_iff h0).1 e
  refine cnt_unlike h i j hij hj ?_
  have := Int.dvd_neg.2 hd
  rwa [Int.neg_sub] at this
theorem cnt_fits (n : Nat) (h : n ≤ 1000) : Fits (cnt' n) := fun j hj => by
  rw [cnt_len] at hj
  rw [cnt_at hj]
  omega

set_option maxRecDepth 100000 in
set_option maxHeartbeats 4000000 in
theorem chk_as : ChkAs := by
  intro p b cr cf c2 ar af a2 claim d rounds finals drawn w hF hR hfn hdr hc1 hc2 hd1 hd2
  have h3 := hF.h3
  have hm := hF.hm
  have HF := hid hF
  have HR := hid hR
  have HFN := hid hfn
  have HDR := hid hdr
  obtain ⟨rl, hrl⟩ : ∃ rl, rl = rounds.length := ⟨_, rfl⟩
  obtain ⟨fl, hfl⟩ : ∃ fl, fl = finals.length := ⟨_, rfl⟩
  obtain ⟨dl, hdl⟩ : ∃ dl, dl = drawn.length := ⟨_, rfl⟩
  have hrb : rl ≤ 5864062014634 := by rw [hrl]; exact hR.len
  have hfb : fl ≤ 17592186043904 := by rw [hfl]; exact hfn.len
  have hdb : dl ≤ 17592186043904 := by rw [hdl]; exact hdr.len
  rw [← hrl, ← hfl, ← hdl]
  have HRL := hid hrl
  have HFL := hid hfl
  have HDL := hid hdl
  obtain ⟨CK, hCK⟩ : ∃ CK, CK = chkz p claim d rounds finals drawn := ⟨_, rfl⟩
  have HCK := hid hCK
  rw [← hCK]
  have HB0 : Hid (Below w.heap.size w (w.alloc (.cells #[.slice ar rl cr, .slice af fl cf] 29))) := (Below.refl _ _).alloc (Nat.le_refl _) _
  have HD0 : Hid ((w.alloc (.cells #[.slice ar rl cr, .slice af fl cf] 29)).heap[w.heap.size]? = some (.cells #[.slice ar rl cr, .slice af fl cf] 29 (0, 0))) := heap_alloc_new w _
  clear hF hR hfn hdr hrl hfl hdl hCK
  by_cases t1 : d < 1
  · have HE : CK = false := by rw [HCK.out]; exact chkz_no (fun g => by have := g.1; omega)
    subst HE
    go_enter Tryd.func20, Tryd.ntmps20
    go_wp2_with fail
    go_ret
    exact ⟨rfl, HB0.out⟩
  by_cases t2 : d > 4
  · have HE : CK = false := by rw [HCK.out]; exact chkz_no (fun g => by have := g.2.1; omega)
    subst HE
    go_enter Tryd.func20, Tryd.ntmps20
    go_wp2_with fail
    go_ret
    exact ⟨rfl, HB0.out⟩
  have HHP := hid (hasplaces_any p b d _ (HF.out.below HB0.out).cell)
  by_cases t3 : ¬ d < (p : Int)
  · have HE : CK = false := by rw [HCK.out]; exact chkz_no (fun g => t3 g.2.2.1)
    subst HE
    rw [decide_eq_false t3] at HHP
    clear t3
    go_enter Tryd.func20, Tryd.ntmps20
    go_wp2_with fail
    refine HHP.out.mono ?_
    rintro e w1 ⟨rfl, rfl⟩
    go_wp2_with fail
    go_ret
    exact ⟨rfl, HB0.out⟩
  replace t3 : d < (p : Int) := by omega
  rw [decide_eq_true t3] at HHP
  have T3 := hid t3
  clear t3
  by_cases t4 : (dl : Int) > 12
  · have HE : CK = false := by rw [HCK.out]; exact chkz_no (fun g => by have := g.2.2.2.1; rw [← HDL.out] at this; omega)
    subst HE
    go_enter Tryd.func20, Tryd.ntmps20
    go_wp2_with fail
    refine HHP.out.mono ?_
    rintro e w1 ⟨rfl, rfl⟩
    go_wp2_with fail
    go_ret
    exact ⟨rfl, HB0.out⟩
  obtain ⟨dn, rfl⟩ := Int.eq_ofNat_of_zero_le (show 0 ≤ d by omega)
  obtain ⟨W0, hW0⟩ : ∃ W0, W0 = w.alloc (.cells #[.slice ar rl cr, .slice af fl cf] 29) := ⟨_, rfl⟩
  have HSH : Hid (Calls Tryd.prog 44 #[.int .i64 (dn : Int), .agg #[.slice ar rl cr, .slice af fl cf], .int .i64 (dl : Int)] W0 fun e w' => e = .returned (.bool (decide (rl = dl ∧ fl = dn ∧ ∀ k, k < rl → (rat rounds k).length = dn + 1))) ∧ Below W0.heap.size W0 w') := by
    rw [← hW0] at HB0
    have := shown_any dn cr cf fl ar af rounds dl W0 (by omega) (by rw [← HRL.out]; omega) (HR.out.below HB0.out).lst
    rw [← HRL.out] at this
    exact this
  by_cases t5 : ¬ (rl = dl ∧ fl = dn ∧ ∀ k, k < rl → (rat rounds k).length = dn + 1)
  · have HE : CK = false := by
      rw [HCK.out]
      refine chkz_no (fun g => t5 ?_)
      obtain ⟨g1, g2, g3, g4, g5, g6, g7, _⟩ := g
      rw [← HRL.out] at g5 g7
      rw [← HDL.out] at g5
      rw [← HFL.out] at g6
      exact ⟨g5, by omega, fun k hk => by have := g7 k hk; omega⟩
    subst HE
    rw [decide_eq_false t5] at HSH
    rw [hW0] at HSH
    have d0 := dua0 HD0.out
    have d1 := dua1 HD0.out
    clear t5 hW0
    go_enter Tryd.func20, Tryd.ntmps20
    go_wp2_with fail
    refine HHP.out.mono ?_
    rintro e w1 ⟨rfl, rfl⟩
    go_wp2_with fail
    refine HSH.out.mono ?_
    rintro e w2 ⟨rfl, hb2⟩
    have HB2 : Hid (Below w.heap.size w w2) := HB0.out.trans (hb2.mono HB0.out.size)
    clear hb2
    go_wp2_with fail
    go_ret
    exact ⟨rfl, HB2.out⟩
  replace t5 := Classical.not_not.1 t5
  rw [decide_eq_true t5] at HSH
  obtain ⟨hrd, hfd, hln⟩ := t5
  subst hrd
  have HLN := hid hln
  have HFD := hid hfd
  subst hfd
  rw [hW0] at HSH
  have d0 := dua0 HD0.out
  have d1 := dua1 HD0.out
  obtain ⟨n1, hn1⟩ : ∃ n1, n1 = fl + 1 := ⟨_, rfl⟩
  have HN1 := hid hn1
  have HUP : Hid (∀ W, Calls Tryd.prog 45 #[.int .i64 (fl : Int)] W fun e w' => e = .returned (.slice (some ⟨W.heap.size, 0, none⟩) n1 n1) ∧ ArrI w' W.heap.size 3 n1 (fun i => (i : Int)) ∧ Below W.heap.size W w') := fun W => by rw [hn1]; exact upto_any fl W (by omega)
  have hn1b : n1 ≤ 5 := by omega
  have hn12 : 2 ≤ n1 := by omega
  clear hln hW0 hn1 hfb hdb
  go_enter Tryd.func20, Tryd.ntmps20
  go_wp2_with fail
  refine HHP.out.mono ?_
  rintro e w1 ⟨rfl, rfl⟩
  go_wp2_with fail
  refine HSH.out.mono ?_
  rintro e w2 ⟨rfl, hb2⟩
  have HD2 := hid ((hb2.block _ (Array.getElem?_eq_some_iff.1 HD0.out).1).trans HD0.out)
  have HB2 : Hid (Below w.heap.size w w2) := HB0.out.trans (hb2.mono HB0.out.size)
  clear hb2 HSH HHP HB0 HD0 d0 d1
  go_wp2_with fail
  refine (HUP.out w2).mono ?_
  rintro e w3 ⟨rfl, hA3, hb3⟩
  have HD3 := hid ((hb3.block _ (Array.getElem?_eq_some_iff.1 HD2.out).1).trans HD2.out)
  have HB3 : Hid (Below w.heap.size w w3) := HB2.out.trans (hb3.mono HB2.out.size)
  have HA3 := hid hA3
  have hs3 : w2.heap.size < w3.heap.size := hA3.lt
  clear hb3 HB2 HD2 HUP hA3
  have e0 := dua0 HD3.out
  generalize w2.heap.size = PL at *
  go_wp2_with fail
  clear e0
  go_loopw [1, 46] (fun cv iv wr => ∃ (i : Nat) (c : Int), i ≤ rl ∧ iv = .int .i64 i ∧ cv = .int .i64 c ∧ -9223372036854775808 ≤ c ∧ c ≤ 9223372036854775807 ∧ Hid (c % (p : Int) = nowz p claim rounds drawn i ∧ (∀ j, j < i → (zat (rat rounds j) 0 + zat (rat rounds j) 1) % (p : Int) = nowz p claim rounds drawn j) ∧ Below w3.heap.size w3 wr)) (fun _ iv _ => rl - (intOf iv).toNat)
  case atStart => exact ⟨0, claim, by omega, rfl, rfl, hc1, hc2, rfl, fun j hj => by omega, Below.refl _ _⟩
  case round =>
    obtain ⟨i, c, hi, rfl, rfl, hcc1, hcc2, hI⟩ := hrel
    by_cases hlt : i < rl
    · have hlt2 : (i : Int) < (rl : Int) := by omega
      have hks : IntKind.i64.wrap ((i : Int) + 1) = (i : Int) + 1 := by rw [IntKind.wrap_i64]; omega
      have hir : i < rounds.length := by rw [← HRL.out]; exact hlt
      have hbw : Below w.heap.size w wr := HB3.out.trans (hI.out.2.2.mono HB3.out.size)
      obtain ⟨b0, o0, ak, ck, rfl, hb0, hc0, hlk⟩ := HR.out.lst.row i hir
      have hlen := HLN.out i hlt
      rw [hlen, ← HN1.out] at hc0
      have hcr := (hbw.cell (p := ⟨b0, o0 + i, none⟩) hb0).trans hc0
      obtain ⟨bk, ok, rfl, hbk, hx0⟩ := hlk.row 0 (by rw [hlen]; omega)
      obtain ⟨_, _, e1, _, hx1⟩ := hlk.row 1 (by rw [hlen]; omega)
      cases e1
      rw [Nat.add_zero] at hx0
      have xa := (hbw.cell (p := ⟨bk, ok, none⟩) hbk).trans hx0
      have xb := (hbw.cell (p := ⟨bk, ok + 1, none⟩) hbk).trans hx1
      obtain ⟨bd, od, rfl, hbd, hxd⟩ := HDR.out.lst.row i (by rw [← HDL.out]; exact hlt)
      obtain ⟨f1, f2⟩ := (HR.out.fit i hir).all 0
      obtain ⟨f3, f4⟩ := (HR.out.fit i hir).all 1
      obtain ⟨f5, f6⟩ := HDR.out.fit.all i
      obtain ⟨u, hu⟩ : ∃ u, u = zat (rat rounds i) 0 := ⟨_, rfl⟩
      obtain ⟨v, hv⟩ : ∃ v, v = zat (rat rounds i) 1 := ⟨_, rfl⟩
      obtain ⟨dr, hdr⟩ : ∃ dr, dr = zat drawn i := ⟨_, rfl⟩
      rw [← hu] at xa f1 f2
      rw [← hv] at xb f3 f4
      rw [← hdr] at hxd f5 f6
      have hpc := (HF.out.below hbw).cell
      have HPC : Hid (∀ nn, (wr.drewN nn).cell? ⟨b, 0, none⟩ = some (.int .i64 p)) := fun nn => hpc
      have HADD := hid (fun (W : World) (h : W.cell? ⟨b, 0, none⟩ = some (.int .i64 p)) => add_any p b u v W h3 hm h f1 f2 f3 f4)
      have HOF := hid (fun (W : World) (h : W.cell? ⟨b, 0, none⟩ = some (.int .i64 p)) => of_any p b c W h3 hm h hcc1 hcc2)
      have HSU : Hid ((u + v) % (p : Int) = (zat (rat rounds i) 0 + zat (rat rounds i) 1) % (p : Int)) := by unfold Hid; rw [hu, hv]
      have HCN := hid hI.out.1
      have HSM := hid hI.out.2.1
      have HBR := hid hI.out.2.2
      have HBW := hid hbw
      generalize (u + v) % (p : Int) = sm' at *
      generalize hcm : c % (p : Int) = cm at *
      have hy0 : (0 : Int) < (n1 : Int) := by omega
      have hy1 : (1 : Int) < (n1 : Int) := by omega
      by_cases he : sm' = cm
      · have he2 : (sm' != cm) = false := by simp [he]
        have HI2 : Hid (∀ j, j < i + 1 → (zat (rat rounds j) 0 + zat (rat rounds j) 1) % (p : Int) = nowz p claim rounds drawn j) := fun j hj => by
          by_cases e : j = i
          · rw [e, ← HSU.out, he, HCN.out]
          · exact HSM.out j (by omega)
        have HFIT : Hid (∀ W, Below w3.heap.size w3 W → Calls Tryd.prog 46 #[.pointer (some ⟨b, 0, none⟩), .slice (some ⟨PL, 0, none⟩) n1 n1, .slice (some ⟨bk, ok, none⟩) n1 ck] W fun e w' => ∃ (a : Option Addr) (c m : Nat), e = .returned (.tuple #[.slice a m c, .nilIface]) ∧ (∀ W', w'.heap.size ≤ W'.heap.size → Below w'.heap.size w' W' → Calls Tryd.prog 47 #[.pointer (some ⟨b, 0, none⟩), .slice a m c, .int .i64 dr] W' fun e w'' => e = .returned (.int .i64 (atz p (rat rounds i) dr)) ∧ ∃ n, w'' = W'.drewN n) ∧ Below W.heap.size W w') := fun W h => by
          have hbW : Below w.heap.size w W := HB3.out.trans (h.mono HB3.out.size)
          have hAW := HA3.out.below h hs3
          have hxl : (cnt' n1).length = n1 := cnt_len n1
          have := fit_any p b n1 ck (some ⟨PL, 0, none⟩) (some ⟨bk, ok, none⟩) (cnt' n1) (rat rounds i) W HF.out.pr h3 hm (HF.out.below hbW).cell (by rw [hxl]; omega) (cnt_fits n1 (by omega)) (HR.out.fit i hir) (hAW.rowE hxl (fun j hj => cnt_at hj) (Nat.lt_of_lt_of_le hs3 h.size)) ((hlk.row.below hbW).mono hbW.size) (by rw [hxl, hlen, HN1.out]) (cnt_unl (by omega) (by have := T3.out; have := HN1.out; omega))
          rw [hxl, hlen, ← HN1.out] at this
          refine this.mono ?_
          rintro e w' ⟨a, c, rfl, hnew, hb'⟩
          refine ⟨a, c, _, rfl, fun W' hsz hb2 => ?_, hb'⟩
          have hpl : (pfit p (cnt' n1) (rat rounds i)).length ≤ n1 := by have := pfit_le p (cnt' n1) (rat rounds i); rw [hxl] at this; exact this
          have hev := eval_any p b c (· < W'.heap.size) a (pfit p (cnt' n1) (rat rounds i)) dr W' h3 hm (((HF.out.below hbW).below hb').below hb2).cell (by omega) (can_fits hm (pfit_can h3 _ _)) f5 f6 (((hnew.row.below hb2).mono hsz).p (fun _ h => h))
          have hat : atz p (rat rounds i) dr = evz p (pfit p (cnt' n1) (rat rounds i)) dr := by unfold atz; rw [hlen, ← HN1.out]
          rw [hat]
          exact hev
        have HNX : Hid (nowz p claim rounds drawn (i + 1) = atz p (rat rounds i) dr) := by unfold Hid; rw [hdr]; rfl
        obtain ⟨g1, g2⟩ := atz_bounds p (rat rounds i) dr h3
        have HNM : Hid (atz p (rat rounds i) dr % (p : Int) = nowz p claim rounds drawn (i + 1)) := by unfold Hid; rw [HNX.out]; exact Int.emod_eq_of_lt g1 g2
        generalize atz p (rat rounds i) dr = nx at *
        clear hI hbw hc0 hlk hlen hx0 hx1 hu hv hdr hcm HSU HCN HSM he HNX f1 f2 f3 f4
        go_wp2_with fail
        go_quiet (first
          | (go_at_call 29; exact Calls.quiet_of_same (HADD.out _ (HPC.out _)))
          | (go_at_call 38; exact Calls.quiet_of_same (HOF.out _ (HPC.out _))))
        have HBR2 : Hid (Below w3.heap.size w3 (wr.drewN nq)) := below_drewN HBR.out nq
        clear HBR HBW HADD HOF HPC hpc xa xb hcr
        generalize wr.drewN nq = W2 at *
        go_wp2_with fail
        refine (HFIT.out W2 HBR2.out).mono ?_
        rintro e w4 ⟨a4, c4, m4, rfl, hev, hb4⟩
        have HEV := hid (hev w4 (Nat.le_refl _) (Below.refl _ _))
        have HB4 : Hid (Below w3.heap.size w3 w4) := HBR2.out.trans (hb4.mono HBR2.out.size)
        have xd := ((HB3.out.trans (HB4.out.mono HB3.out.size)).cell (p := ⟨bd, od + i, none⟩) hbd).trans hxd
        clear hev hb4 HFIT HBR2 hxd
        go_wp2_with fail
        refine HEV.out.mono ?_
        rintro e w5 ⟨rfl, n5, rfl⟩
        have HE : Hid (nx % (p : Int) = nowz p claim rounds drawn (i + 1) ∧ (∀ j, j < i + 1 → (zat (rat rounds j) 0 + zat (rat rounds j) 1) % (p : Int) = nowz p claim rounds drawn j) ∧ Below w3.heap.size w3 (w4.drewN n5)) := ⟨HNM.out, HI2.out, below_drewN HB4.out n5⟩
        clear HEV HB4 xd
        go_wp2_with fail
        go_roundw
        case rel => exact ⟨i + 1, nx, by omega, by go_num, rfl, by omega, by omega, HE⟩
        case measure => simp [intOf]; omega
      · have he2 : (sm' != cm) = true := by simp [he]
        have HE : Hid (CK = false) := by
          unfold Hid
          rw [HCK.out]
          refine chkz_no (fun g => he ?_)
          rw [HSU.out, HCN.out]
          exact g.2.2.2.2.2.2.2.1 i hir
        clear hI hbw hc0 hlk hlen hx0 hx1 hu hv hdr hcm HSU HCN HSM he f1 f2 f3 f4 hxd
        go_wp2_with fail
        go_quiet (first
          | (go_at_call 29; exact Calls.quiet_of_same (HADD.out _ (HPC.out _)))
          | (go_at_call 38; exact Calls.quiet_of_same (HOF.out _ (HPC.out _))))
        go_wp2_with fail
        go_ret
        exact ⟨by rw [HE.out]; rfl, below_drewN HBW.out _⟩
    · obtain rfl : i = rl := by omega
      have hlt2 : ¬ (i : Int) < (i : Int) := by omega
      have hbw : Below w.heap.size w wr := HB3.out.trans (hI.out.2.2.mono HB3.out.size)
      have x1 := dua1 ((hI.out.2.2.block _ (Array.getElem?_eq_some_iff.1 HD3.out).1).trans HD3.out)
      have HPR : Hid (Calls Tryd.prog 48 #[.pointer (some ⟨b, 0, none⟩), .slice af fl cf] wr fun e w' => e = .returned (.int .i64 (Sum.prz (zat finals) fl % (p : Int))) ∧ w' = wr) := by
        have := product_any p b cf wr.heap.size af finals wr h3 hm (HF.out.below hbw).cell (by have := HFN.out.len; omega) HFN.out.fit (HFN.out.below hbw).lst.row
        rw [← HFL.out] at this
        exact this
      have HOF := hid (of_any p b c wr h3 hm (HF.out.below hbw).cell hcc1 hcc2)
      have HE : Hid (CK = ((Sum.prz (zat finals) fl % (p : Int)) == c % (p : Int))) := by
        unfold Hid
        rw [HCK.out]
        by_cases he : Sum.prz (zat finals) fl % (p : Int) = c % (p : Int)
        · rw [chkz_yes, he]
          · simp
          · refine ⟨by omega, by omega, T3.out, by rw [← HDL.out]; omega, by rw [← HDL.out, ← HRL.out], by rw [← HFL.out], fun k hk => ?_, fun k hk => ?_, ?_⟩
            · rw [← HRL.out] at hk
              have := HLN.out k hk
              omega
            · rw [← HRL.out] at hk
              exact hI.out.2.1 k hk
            · rw [← HFL.out, he, hI.out.1, ← HRL.out]
        · rw [chkz_no]
          · simp [he]
          · intro g
            have := g.2.2.2.2.2.2.2.2
            rw [← HFL.out, ← HRL.out, ← hI.out.1] at this
            exact he this
      have HBW := hid hbw
      generalize Sum.prz (zat finals) fl % (p : Int) = X at *
      generalize c % (p : Int) = Y at *
      clear hI hbw
      go_wp2_with fail
      refine HPR.out.mono ?_
      rintro e w4 ⟨rfl, rfl⟩
      go_wp2_with fail
      refine HOF.out.mono ?_
      rintro e w5 ⟨rfl, rfl⟩
      go_wp2_with fail
      go_ret
      exact ⟨by rw [HE.out]; rfl, HBW.out⟩

end Go.Proofs.YtecaifjbmfianagDoor
