/- attestref4: Check. -/
import Derived.Test.YtecaifjbmfianagGreatDoorSumT
namespace Go.Proofs.YtecaifjbmfianagGreatDoor
open Go.RowKit

/-- what is claimed ahead of a round -/
def nowz (p : Nat) (claim : Int) (rounds : List (List Int)) (drawn : List Int) : Nat → Int
  | 0 => claim % (p : Int)
  | i + 1 => atz p (rat rounds i) (zat drawn i)
/-- it is shown -/
def ChkP (p : Nat) (claim d : Int) (rounds : List (List Int)) (finals drawn : List Int) : Prop :=
  1 ≤ d ∧ d ≤ 4 ∧ d < (p : Int) ∧ drawn.length ≤ 12 ∧ rounds.length = drawn.length ∧ (finals.length : Int) = d ∧ (∀ i, i < rounds.length → ((rat rounds i).length : Int) = d + 1) ∧
    (∀ i, i < rounds.length → (zat (rat rounds i) 0 + zat (rat rounds i) 1) % (p : Int) = nowz p claim rounds drawn i) ∧ Sum.prz (zat finals) finals.length % (p : Int) = nowz p claim rounds drawn rounds.length
noncomputable def chkz (p : Nat) (claim d : Int) (rounds : List (List Int)) (finals drawn : List Int) : Bool := @decide (ChkP p claim d rounds finals drawn) (Classical.propDecidable _)
theorem chkz_yes {p : Nat} {claim d : Int} {rounds : List (List Int)} {finals drawn : List Int} (h : ChkP p claim d rounds finals drawn) : chkz p claim d rounds finals drawn = true := by unfold chkz; exact @decide_eq_true _ (Classical.propDecidable _) h
theorem chkz_no {p : Nat} {claim d : Int} {rounds : List (List Int)} {finals drawn : List Int} (h : ¬ ChkP p claim d rounds finals drawn) : chkz p claim d rounds finals drawn = false := by unfold chkz; exact @decide_eq_false _ (Classical.propDecidable _) h
theorem dua0 {W : World} {g : Nat} {a b : Value} {t : TypeId} (h : W.heap[g]? = some (.cells #[a, b] t (0, 0))) : W.cell? ⟨g, 0, none⟩ = some a := by simp [World.cell?, h]
theorem dua1 {W : World} {g : Nat} {a b : Value} {t : TypeId} (h : W.heap[g]? = some (.cells #[a, b] t (0, 0))) : W.cell? ⟨g, 1, none⟩ = some b := by simp [World.cell?, h]

set_option maxRecDepth 100000 in
set_option maxHeartbeats 4000000 in
theorem rcheck4_any (p cr cf cd : Nat) (ar af ad : Option Addr) (claim d : Int) (rounds : List (List Int)) (finals drawn : List Int) (w : World) (h3 : 3 ≤ p) (hm : p ≤ 2147483647) (hc1 : -9223372036854775808 ≤ claim) (hc2 : claim ≤ 9223372036854775807)
    (hrl : rounds.length ≤ 5864062014634) (hrr : ∀ k, k < rounds.length → (rat rounds k).length ≤ 17592186043904) (hfl : finals.length ≤ 17592186043904) (hdl : drawn.length ≤ 17592186043904) (hfr : ∀ k, k < rounds.length → Fits (rat rounds k)) (hff : Fits finals) (hfd : Fits drawn)
    (lr : LstR w.heap.size w ar cr rounds) (lf : Lst w.heap.size w af cf finals) (ld : Lst w.heap.size w ad cd drawn) :
    Calls Tryz.prog 7 #[.int .i64 p, .int .i64 claim, .int .i64 d, .agg #[.slice ar rounds.length cr, .slice af finals.length cf], .slice ad drawn.length cd] w fun e w' => e = .returned (.bool (chkz p claim d rounds finals drawn)) ∧ Below w.heap.size w w' := by
  have HLR := hid lr
  have HLF := hid lf
  have HLD := hid ld
  have HFR := hid hfr
  have HFF := hid hff
  have HFD := hid hfd
  have HRR := hid hrr
  obtain ⟨rl, hrl'⟩ : ∃ rl, rl = rounds.length := ⟨_, rfl⟩
  obtain ⟨fl, hfl'⟩ : ∃ fl, fl = finals.length := ⟨_, rfl⟩
  obtain ⟨dl, hdl'⟩ : ∃ dl, dl = drawn.length := ⟨_, rfl⟩
  rw [← hrl'] at hrl ⊢
  rw [← hfl'] at hfl ⊢
  rw [← hdl'] at hdl ⊢
  have HRL := hid hrl'
  have HFL := hid hfl'
  have HDL := hid hdl'
  have HB0 : Hid (Below w.heap.size w (w.alloc (.cells #[.slice ar rl cr, .slice af fl cf] 25))) := (Below.refl _ _).alloc (Nat.le_refl _) _
  have HD0 : Hid ((w.alloc (.cells #[.slice ar rl cr, .slice af fl cf] 25)).heap[w.heap.size]? = some (.cells #[.slice ar rl cr, .slice af fl cf] 25 (0, 0))) := heap_alloc_new w _
  have d0 := dua0 HD0.out
  have d1 := dua1 HD0.out
  clear lr lf ld hfr hff hfd hrr hrl' hfl' hdl'
  by_cases t1 : d < 1
  · have HE : Hid (chkz p claim d rounds finals drawn = false) := by
      refine chkz_no ?_
      rintro ⟨g1, g2, g3, g4, g5, g6, _⟩
      rw [← HDL.out] at g4 g5
      rw [← HRL.out] at g5
      rw [← HFL.out] at g6
      omega
    rw [HE.out]
    go_enter Tryz.func7, Tryz.ntmps7
    go_wp2_with fail
    go_ret
    exact ⟨rfl, HB0.out⟩
  by_cases t2 : d > 4
  · have HE : Hid (chkz p claim d rounds finals drawn = false) := by
      refine chkz_no ?_
      rintro ⟨g1, g2, g3, g4, g5, g6, _⟩
      rw [← HDL.out] at g4 g5
      rw [← HRL.out] at g5
      rw [← HFL.out] at g6
      omega
    rw [HE.out]
    go_enter Tryz.func7, Tryz.ntmps7
    go_wp2_with fail
    go_ret
    exact ⟨rfl, HB0.out⟩
  by_cases t3 : d ≥ (p : Int)
  · have HE : Hid (chkz p claim d rounds finals drawn = false) := by
      refine chkz_no ?_
      rintro ⟨g1, g2, g3, g4, g5, g6, _⟩
      rw [← HDL.out] at g4 g5
      rw [← HRL.out] at g5
      rw [← HFL.out] at g6
      omega
    rw [HE.out]
    go_enter Tryz.func7, Tryz.ntmps7
    go_wp2_with fail
    go_ret
    exact ⟨rfl, HB0.out⟩
  by_cases t4 : (dl : Int) > 12
  · have HE : Hid (chkz p claim d rounds finals drawn = false) := by
      refine chkz_no ?_
      rintro ⟨g1, g2, g3, g4, g5, g6, _⟩
      rw [← HDL.out] at g4 g5
      rw [← HRL.out] at g5
      rw [← HFL.out] at g6
      omega
    rw [HE.out]
    go_enter Tryz.func7, Tryz.ntmps7
    go_wp2_with fail
    go_ret
    exact ⟨rfl, HB0.out⟩
  by_cases t5 : rl ≠ dl
  · have HE : Hid (chkz p claim d rounds finals drawn = false) := by
      refine chkz_no ?_
      rintro ⟨g1, g2, g3, g4, g5, g6, _⟩
      rw [← HDL.out] at g4 g5
      rw [← HRL.out] at g5
      rw [← HFL.out] at g6
      omega
    have u5 : ((rl : Int) != (dl : Int)) = true := by simp; omega
    clear t5
    rw [HE.out]
    go_enter Tryz.func7, Tryz.ntmps7
    go_wp2_with fail
    go_ret
    exact ⟨rfl, HB0.out⟩
  have u5 : ((rl : Int) != (dl : Int)) = false := by simp; omega
  by_cases t6 : (fl : Int) ≠ d
  · have HE : Hid (chkz p claim d rounds finals drawn = false) := by
      refine chkz_no ?_
      rintro ⟨g1, g2, g3, g4, g5, g6, _⟩
      rw [← HDL.out] at g4 g5
      rw [← HRL.out] at g5
      rw [← HFL.out] at g6
      omega
    have u6 : ((fl : Int) != d) = true := by simp; omega
    clear t6
    rw [HE.out]
    go_enter Tryz.func7, Tryz.ntmps7
    go_wp2_with fail
    go_ret
    exact ⟨rfl, HB0.out⟩
  have u6 : ((fl : Int) != d) = false := by simp; omega
  obtain ⟨dn, rfl⟩ := Int.eq_ofNat_of_zero_le (show 0 ≤ d by omega)
  obtain rfl : fl = dn := by omega
  have HRD : Hid (rl = dl) := by unfold Hid; omega
  have hr12 : rl ≤ 12 := by omega
  have hd4 : fl ≤ 4 := by omega
  have hd1 : 1 ≤ fl := by omega
  have hdp : (fl : Int) < (p : Int) := by omega
  have HOF := hid (fun W => rof_any p claim W h3 hm hc1 hc2)
  obtain ⟨b1, b2⟩ := emod_bounds claim p h3
  obtain ⟨c0, hc0⟩ : ∃ c0, c0 = claim % (p : Int) := ⟨_, rfl⟩
  rw [← hc0] at HOF b1 b2
  have HC0 : Hid (nowz p claim rounds drawn 0 = c0) := by unfold Hid; rw [hc0]; rfl
  have HG : Hid ((∀ i, i < rl → ((rat rounds i).length : Int) = (fl : Int) + 1) → (∀ i, i < rl → (zat (rat rounds i) 0 + zat (rat rounds i) 1) % (p : Int) = nowz p claim rounds drawn i) → Sum.prz (zat finals) fl % (p : Int) = nowz p claim rounds drawn rl → chkz p claim (fl : Int) rounds finals drawn = true) := fun g1 g2 g3 => by
    refine chkz_yes ⟨by omega, by omega, hdp, by rw [← HDL.out]; omega, by rw [← HDL.out, ← HRL.out]; exact HRD.out, by rw [← HFL.out], by rw [← HRL.out]; exact g1, by rw [← HRL.out]; exact g2, by rw [← HFL.out, ← HRL.out]; exact g3⟩
  have HN : Hid (¬ ((∀ i, i < rl → ((rat rounds i).length : Int) = (fl : Int) + 1) ∧ (∀ i, i < rl → (zat (rat rounds i) 0 + zat (rat rounds i) 1) % (p : Int) = nowz p claim rounds drawn i) ∧ Sum.prz (zat finals) fl % (p : Int) = nowz p claim rounds drawn rl) → chkz p claim (fl : Int) rounds finals drawn = false) := fun g => by
    refine chkz_no ?_
    rintro ⟨_, _, _, _, _, _, g1, g2, g3⟩
    rw [← HRL.out] at g1 g2 g3
    rw [← HFL.out] at g3
    exact g ⟨g1, g2, g3⟩
  obtain ⟨CK, hCK⟩ : ∃ CK, CK = chkz p claim (fl : Int) rounds finals drawn := ⟨_, rfl⟩
  rw [← hCK] at HG HN ⊢
  clear hCK t5 t6
  go_enter Tryz.func7, Tryz.ntmps7
  go_wp2_with fail
  refine (HOF.out _).mono ?_
  rintro e w1 ⟨rfl, rfl⟩
  obtain ⟨W0, hW0⟩ : ∃ W0, W0 = w.alloc (.cells #[.slice ar rl cr, .slice af fl cf] 25) := ⟨_, rfl⟩
  rw [← hW0] at HB0 HD0 d0 d1 ⊢
  clear hW0 HOF hc0
  have hw0 := HB0.out.size
  have hsz0 : w.heap.size < W0.heap.size := heap_lt d0
  have hf1 : IntKind.i64.wrap ((fl : Int) + 1) = (fl : Int) + 1 := by rw [IntKind.wrap_i64]; omega
  go_wp2_with fail
  go_loop [12] (fun iv => ∃ k : Nat, k ≤ rl ∧ iv = .int .i64 k ∧ Hid (∀ i, i < k → ((rat rounds i).length : Int) = (fl : Int) + 1)) (fun iv => rl - (intOf iv).toNat)
  case atStart => exact ⟨0, by omega, rfl, fun i hi => by omega⟩
  case round =>
    obtain ⟨k, hk, rfl, hI⟩ := hrel
    by_cases hlt : k < rl
    · have hlt2 : (k : Int) < (rl : Int) := by omega
      have hks : IntKind.i64.wrap ((k : Int) + 1) = (k : Int) + 1 := by rw [IntKind.wrap_i64]; omega
      obtain ⟨b, o, ak, ck, rfl, hb, hc, _⟩ := HLR.out.row k (by rw [← HRL.out]; exact hlt)
      have hcc := (HB0.out.cell (p := ⟨b, o + k, none⟩) hb).trans hc
      obtain ⟨y, hy⟩ : ∃ y, y = (rat rounds k).length := ⟨_, rfl⟩
      rw [← hy] at hcc
      by_cases he : (y : Int) = (fl : Int) + 1
      · have he2 : ((y : Int) != (fl : Int) + 1) = false := by simp [he]
        have HI2 : Hid (∀ i, i < k + 1 → ((rat rounds i).length : Int) = (fl : Int) + 1) := fun i hi => by
          by_cases e : i = k
          · rw [e, ← hy, he]
          · exact hI.out i (by omega)
        clear hI hy he hc
        go_wp2_with fail
        go_round
        case rel => exact ⟨k + 1, by omega, by go_num, HI2⟩
        case measure => simp [intOf]; omega
      · have he2 : ((y : Int) != (fl : Int) + 1) = true := by simp; omega
        have HE : Hid (CK = false) := HN.out (fun g => he (by rw [hy]; exact g.1 k hlt))
        clear hI hy he hc
        go_wp2_with fail
        go_ret
        exact ⟨by rw [HE.out]; rfl, HB0.out⟩
    · obtain rfl : k = rl := by omega
      have hlt2 : ¬ (k : Int) < (k : Int) := by omega
      have HLE := hI
      clear hI
      go_wp2_with fail
      go_loopw [11, 13] (fun nv iv wr => ∃ (i : Nat) (now : Int), i ≤ k ∧ iv = .int .i64 i ∧ nv = .int .i64 now ∧ Hid (now = nowz p claim rounds drawn i ∧ (∀ j, j < i → (zat (rat rounds j) 0 + zat (rat rounds j) 1) % (p : Int) = nowz p claim rounds drawn j) ∧ Below W0.heap.size W0 wr)) (fun _ iv _ => k - (intOf iv).toNat)
      case atStart => exact ⟨0, c0, by omega, rfl, rfl, HC0.out.symm, fun j hj => by omega, Below.refl _ _⟩
      case round =>
        obtain ⟨i, now, hi, rfl, rfl, hI⟩ := hrel
        by_cases hit : i < k
        · have hit2 : (i : Int) < (k : Int) := by omega
          have hks : IntKind.i64.wrap ((i : Int) + 1) = (i : Int) + 1 := by rw [IntKind.wrap_i64]; omega
          obtain ⟨b, o, ak, ck, rfl, hb, hc, hlk⟩ := HLR.out.row i (by rw [← HRL.out]; exact hit)
          have hlen := HLE.out i hit
          obtain ⟨y, hy⟩ : ∃ y, y = (rat rounds i).length := ⟨_, rfl⟩
          have hy2 : y = fl + 1 := by omega
          rw [← hy] at hc
          obtain ⟨bk, ok, rfl, hbk, hx0⟩ := hlk.row 0 (by omega)
          obtain ⟨_, _, e1, _, hx1⟩ := hlk.row 1 (by omega)
          cases e1
          obtain ⟨bd, od, rfl, hbd, hxd⟩ := HLD.out.row i (by rw [← HDL.out]; have := HRD.out; omega)
          have hbb := HB0.out.trans (hI.out.2.2.mono hw0)
          have x0 := (hI.out.2.2.cell (p := ⟨w.heap.size, 0, none⟩) hsz0).trans d0
          have xc := (hbb.cell (p := ⟨b, o + i, none⟩) hb).trans hc
          have xa := (hbb.cell (p := ⟨bk, ok + 0, none⟩) hbk).trans hx0
          have xb := (hbb.cell (p := ⟨bk, ok + 1, none⟩) hbk).trans hx1
          have xd := (hbb.cell (p := ⟨bd, od + i, none⟩) hbd).trans hxd
          rw [Nat.add_zero] at xa
          obtain ⟨f1, f2⟩ := (HFR.out i (by rw [← HRL.out]; exact hit)).all 0
          obtain ⟨f3, f4⟩ := (HFR.out i (by rw [← HRL.out]; exact hit)).all 1
          obtain ⟨f5, f6⟩ := HFD.out.all i
          obtain ⟨u, hu⟩ : ∃ u, u = zat (rat rounds i) 0 := ⟨_, rfl⟩
          obtain ⟨v, hv⟩ : ∃ v, v = zat (rat rounds i) 1 := ⟨_, rfl⟩
          obtain ⟨dr, hdr⟩ : ∃ dr, dr = zat drawn i := ⟨_, rfl⟩
          rw [← hu] at xa f1 f2
          rw [← hv] at xb f3 f4
          rw [← hdr] at xd f5 f6
          have HADD := hid (fun W => radd_any p u v W h3 hm f1 f2 f3 f4)
          have HAT : Hid (∀ W, Below w.heap.size w W → Calls Tryz.prog 21 #[.int .i64 p, .slice (some ⟨bk, ok, none⟩) y ck, .int .i64 dr] W fun e w' => e = .returned (.int .i64 (atz p (rat rounds i) dr)) ∧ Below W.heap.size W w') := fun W h => by
            have := rat4_any p ck (some ⟨bk, ok, none⟩) (rat rounds i) dr W h3 hm (HRR.out i (by rw [← HRL.out]; exact hit)) (HFR.out i (by rw [← HRL.out]; exact hit)) f5 f6 ((hlk.row.below h).mono h.size)
            rw [← hy] at this
            exact this
          have hy0 : (0 : Int) < (y : Int) := by omega
          have hy1 : (1 : Int) < (y : Int) := by omega
          have hil : (i : Int) < (dl : Int) := by have := HRD.out; omega
          have HSU : Hid ((u + v) % (p : Int) = (zat (rat rounds i) 0 + zat (rat rounds i) 1) % (p : Int)) := by unfold Hid; rw [hu, hv]
          have HNX : Hid (nowz p claim rounds drawn (i + 1) = atz p (rat rounds i) dr) := by unfold Hid; rw [hdr]; rfl
          generalize (u + v) % (p : Int) = sm' at *
          generalize atz p (rat rounds i) dr = nx at *
          have hBW : Below w.heap.size w wr := hbb
          have HBW := hid hBW
          clear hu hv hdr hx0 hx1 hxd hc hlk hbb hlen hBW hy hy2
          by_cases he : sm' = now
          · have he2 : (sm' != now) = false := by simp [he]
            have HI2 : Hid (∀ j, j < i + 1 → (zat (rat rounds j) 0 + zat (rat rounds j) 1) % (p : Int) = nowz p claim rounds drawn j) := fun j hj => by
              by_cases e : j = i
              · rw [e, ← HSU.out, he, hI.out.1]
              · exact hI.out.2.1 j (by omega)
            have HIB := hid hI.out.2.2
            clear hI he
            go_wp2_with fail
            go_quiet (first
              | (go_at_call 20; exact Calls.quiet_of_same (HADD.out _)))
            have HQB : Hid (Below wr.heap.size wr (wr.drewN nq)) := below_drewN (Below.refl _ _) nq
            have x0' : (wr.drewN nq).cell? ⟨w.heap.size, 0, none⟩ = some (.slice (some ⟨b, o, none⟩) k cr) := x0
            have xc' : (wr.drewN nq).cell? ⟨b, o + i, none⟩ = some (.slice (some ⟨bk, ok, none⟩) y ck) := xc
            have xd' : (wr.drewN nq).cell? ⟨bd, od + i, none⟩ = some (.int .i64 dr) := xd
            have HIB2 : Hid (Below W0.heap.size W0 (wr.drewN nq)) := below_drewN HIB.out nq
            have HBW2 : Hid (Below w.heap.size w (wr.drewN nq)) := below_drewN HBW.out nq
            clear x0 xc xd xa xb HQB HIB HBW HADD
            generalize wr.drewN nq = W2 at *
            have HKe : Hid (∀ W, Below W2.heap.size W2 W → W.cell? ⟨w.heap.size, 0, none⟩ = some (.slice (some ⟨b, o, none⟩) k cr) ∧ W.cell? ⟨b, o + i, none⟩ = some (.slice (some ⟨bk, ok, none⟩) y ck) ∧ W.cell? ⟨bd, od + i, none⟩ = some (.int .i64 dr)) := fun W h =>
              ⟨(h.cell (p := ⟨w.heap.size, 0, none⟩) (World.block_lt_of_cell? _ _ x0')).trans x0', (h.cell (p := ⟨b, o + i, none⟩) (World.block_lt_of_cell? _ _ xc')).trans xc', (h.cell (p := ⟨bd, od + i, none⟩) (World.block_lt_of_cell? _ _ xd')).trans xd'⟩
            have HAT2 : Hid (∀ W, Below W2.heap.size W2 W → Calls Tryz.prog 21 #[.int .i64 p, .slice (some ⟨bk, ok, none⟩) y ck, .int .i64 dr] W fun e w' => e = .returned (.int .i64 nx) ∧ Below W2.heap.size W2 w') := fun W h => (HAT.out W (HBW2.out.trans (h.mono HBW2.out.size))).mono fun e w' h2 => ⟨h2.1, h.trans (h2.2.mono h.size)⟩
            have hdd : Below W2.heap.size W2 W2.drew := (Below.refl _ _).drew
            go_wp2_with fail
            go_region_held3 (fun W => W.cell? ⟨w.heap.size, 0, none⟩ = some (.slice (some ⟨b, o, none⟩) k cr) ∧ W.cell? ⟨b, o + i, none⟩ = some (.slice (some ⟨bk, ok, none⟩) y ck) ∧ W.cell? ⟨bd, od + i, none⟩ = some (.int .i64 dr)) (exact HKe.out _ (by assumption))
              (first
                | (go_at_call 21; refine (HAT2.out _ (by assumption)).mono ?_; rintro e w' ⟨rfl, hb'⟩))
            have HE : Hid (nx = nowz p claim rounds drawn (i + 1) ∧ (∀ j, j < i + 1 → (zat (rat rounds j) 0 + zat (rat rounds j) 1) % (p : Int) = nowz p claim rounds drawn j) ∧ Below W0.heap.size W0 w') := ⟨HNX.out.symm, HI2.out, HIB2.out.trans (hb'.mono HIB2.out.size)⟩
            clear hb' hdd HAT2 HKe x0' xc' xd'
            go_wp2_with fail
            go_roundw
            case rel => exact ⟨i + 1, nx, by omega, by go_num, rfl, HE⟩
            case measure => simp [intOf]; omega
          · have he2 : (sm' != now) = true := by simp [he]
            have HE : Hid (CK = false) := HN.out (fun g => he (by rw [HSU.out, hI.out.1]; exact g.2.1 i hit))
            clear hI he
            go_wp2_with fail
            go_quiet (first
              | (go_at_call 20; exact Calls.quiet_of_same (HADD.out _)))
            go_wp2_with fail
            go_ret
            exact ⟨by rw [HE.out]; rfl, below_drewN HBW.out _⟩
        · obtain rfl : i = k := by omega
          have hit2 : ¬ (i : Int) < (i : Int) := by omega
          have HBW : Hid (Below w.heap.size w wr) := HB0.out.trans (hI.out.2.2.mono hw0)
          have x0 := (hI.out.2.2.cell (p := ⟨w.heap.size, 0, none⟩) hsz0).trans d0
          have x1 := (hI.out.2.2.cell (p := ⟨w.heap.size, 1, none⟩) hsz0).trans d1
          have HNO := hid hI.out.1
          have HSM := hid hI.out.2.1
          obtain ⟨G, hG⟩ : ∃ G, G = zat finals := ⟨_, rfl⟩
          have HGG := hid hG
          clear hI hG
          go_wp2_with fail
          go_loop [15, 16] (fun xv jv => ∃ (j : Nat) (x : Int), j ≤ fl ∧ jv = .int .i64 j ∧ xv = .int .i64 x ∧ 0 ≤ x ∧ x < (p : Int) ∧ Hid (x = Sum.prz G j % (p : Int))) (fun _ jv => fl - (intOf jv).toNat)
          case atStart => exact ⟨0, 1, by omega, rfl, rfl, by omega, by omega, by unfold Hid; simp only [Sum.prz]; rw [Int.emod_eq_of_lt (by omega) (by omega)]⟩
          case round =>
            obtain ⟨j, x, hj, rfl, rfl, hx1, hx2, hJ⟩ := hrel
            by_cases hjt : j < fl
            · have hjt2 : (j : Int) < (fl : Int) := by omega
              have hjw : IntKind.i64.wrap ((j : Int) + 1) = (j : Int) + 1 := by rw [IntKind.wrap_i64]; omega
              obtain ⟨bf, of', rfl, hbf, hxf⟩ := HLF.out.row j (by rw [← HFL.out]; exact hjt)
              have xf := (HBW.out.cell (p := ⟨bf, of' + j, none⟩) hbf).trans hxf
              obtain ⟨f1, f2⟩ := HFF.out.all j
              obtain ⟨y, hy⟩ : ∃ y, y = zat finals j := ⟨_, rfl⟩
              rw [← hy] at xf f1 f2
              have HGk : Hid (G j = y) := by unfold Hid; rw [HGG.out, hy]
              have HMU := hid (rmul_any p x y wr h3 hm (by omega) (by omega) f1 f2)
              obtain ⟨e1, e2⟩ := emod_bounds (x * y) p h3
              have HE : Hid (x * y % (p : Int) = Sum.prz G (j + 1) % (p : Int)) := by
                unfold Hid
                rw [Sum.prz, HGk.out]
                refine mulmod (by omega) ?_ (by simp)
                rw [hJ.out]
                exact dvd_self_mod p _
              generalize x * y % (p : Int) = x' at *
              clear hJ hy hxf
              go_wp2_with fail
              refine HMU.out.mono ?_
              rintro e w2 ⟨rfl, rfl⟩
              go_wp2_with fail
              go_round
              case rel => exact ⟨j + 1, x', by omega, by go_num, rfl, e1, e2, HE⟩
              case measure => simp [intOf]; omega
            · obtain rfl : j = fl := by omega
              have hjt2 : ¬ (j : Int) < (j : Int) := by omega
              have HE : Hid (CK = (x == now)) := by
                unfold Hid
                by_cases he : x = now
                · rw [HG.out HLE.out HSM.out (by rw [← HGG.out, ← hJ.out, he]; exact HNO.out)]
                  simp [he]
                · rw [HN.out (fun g => he (by rw [hJ.out, HGG.out, g.2.2, HNO.out]))]
                  simp [he]
              clear hJ
              go_wp2_with fail
              go_ret
              exact ⟨by rw [HE.out]; rfl, HBW.out⟩

end Go.Proofs.YtecaifjbmfianagGreatDoor
