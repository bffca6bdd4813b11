/- What package poly's Divide answers, for every two lists. -/
import Derived.Test.YtbpkmhibdaafiadDoorPolDiv
namespace Go.Proofs.YtbpkmhibdaafiadDoor
open Go.RowKit

theorem mk_own {p : Nat} (f : Nat → Int) (n : Nat) (hb : ∀ j, j < n → 0 ≤ f j ∧ f j < p) : (Pol.mk p f n).length = tpn p f n ∧ ∀ j, j < (Pol.mk p f n).length → zat (Pol.mk p f n) j = f j := by
  refine ⟨Pol.mk_length _ _ _, fun j hj => ?_⟩
  rw [Pol.mk_length] at hj
  have hj2 := Pol.tp_le p f n
  rw [show zat (Pol.mk p f n) j = (Pol.mk p f n).getD j 0 from rfl, Pol.mk_at p f n j hj]
  have := hb j (by omega)
  exact Int.emod_eq_of_lt this.1 this.2

theorem ret_tup3 {aq ar : Option Addr} {n n' m m' c c' : Nat} (h1 : n = n') (h2 : m = m') : Ending.returned (.tuple #[.slice aq n c, .slice ar m c', .nilIface]) = .returned (.tuple #[.slice aq n' c, .slice ar m' c', .nilIface]) := by rw [h1, h2]

set_option maxHeartbeats 4000000 in
theorem divide_zero (p b c1 c2 : Nat) (a1 a2 : Option Addr) (xs ys : List Int) (w : World) (h3 : 3 ≤ p) (hm : p ≤ 2147483647) (hp : w.cell? ⟨b, 0, none⟩ = some (.int .i64 p))
    (hn2 : ys.length ≤ 17592186044416) (hf2 : Fits ys) (hr2 : RowB w.heap.size w a2 ys) (h0 : (Pol.trim p ys).length = 0) :
    Calls Tryd.prog 48 #[.pointer (some ⟨b, 0, none⟩), .slice a1 xs.length c1, .slice a2 ys.length c2] w fun e w' =>
      e = .returned (.tuple #[.slice none 0 0, .slice none 0 0, .iface 68 (.int .i64 3)]) ∧ Below w.heap.size w w' := by
  have HT := hid (trim_any p b c2 (· < w.heap.size) a2 ys w h3 hm hp (by omega) hf2 hr2 (fun _ h => h))
  rw [h0] at HT
  clear hf2 hr2 h0
  go_enter Tryd.func48, Tryd.ntmps48
  go_wp2_with fail
  refine HT.out.mono ?_
  rintro e w1 ⟨rfl, _, hb1, _⟩
  have HB1 := hid hb1
  clear hb1
  go_wp2_with fail
  go_ret3
  exact ⟨rfl, HB1.out⟩

set_option maxHeartbeats 4000000 in
theorem divide_full (p b c1 c2 : Nat) (a1 a2 : Option Addr) (xs ys : List Int) (w : World) (hpr : Num.Prime p) (h3 : 3 ≤ p) (hm : p ≤ 2147483647) (hp : w.cell? ⟨b, 0, none⟩ = some (.int .i64 p))
    (hn1 : xs.length ≤ 17592186044416) (hn2 : ys.length ≤ 17592186044416) (hf1 : Fits xs) (hf2 : Fits ys) (hr1 : RowB w.heap.size w a1 xs) (hr2 : RowB w.heap.size w a2 ys) (h0 : 0 < (Pol.trim p ys).length) :
    Calls Tryd.prog 48 #[.pointer (some ⟨b, 0, none⟩), .slice a1 xs.length c1, .slice a2 ys.length c2] w fun e w' => ∃ (q r : List Int) (aq ar : Option Addr) (cq cr : Nat),
      e = .returned (.tuple #[.slice aq q.length cq, .slice ar r.length cr, .nilIface]) ∧ IsD p xs (Pol.trim p ys) q r ∧ NewR w.heap.size w' aq q ∧ NewR w.heap.size w' ar r ∧ q.length ≤ xs.length + 1 - (Pol.trim p ys).length ∧ r.length ≤ xs.length ∧ Below w.heap.size w w' ∧ q.length ≤ cq ∧ (aq = none → cq = 0) := by
  have hb : b < w.heap.size := heap_lt hp
  have HT1 := hid (trim_any p b c2 (· < w.heap.size) a2 ys w h3 hm hp (by omega) hf2 hr2 (fun _ h => h))
  have HT2 : Hid (∀ w1, Below w.heap.size w w1 → Calls Tryd.prog 60 #[.pointer (some ⟨b, 0, none⟩), .slice a1 xs.length c1] w1 fun e w' => e = .returned (.slice (some ⟨w1.heap.size, 0, none⟩) (Pol.trim p xs).length (Pol.trim p xs).length) ∧
      Cells w1.heap.size 0 (Pol.trim p xs).length (zat (Pol.trim p xs)) w' ∧ Below w1.heap.size w1 w' ∧ w'.heap.size = w1.heap.size + 1) := fun w1 hb1 =>
    trim_any p b c1 (· < w1.heap.size) a1 xs w1 h3 hm ((hb1.cell (p := ⟨b, 0, none⟩) hb).trans hp) (by omega) hf1 ((hr1.below hb1).mono hb1.size) (fun _ h => h)
  have hlx := Pol.trim_le p xs
  have HCT := hid (Pol.trim_can (p := p) (by omega) ys)
  have HFT := hid (trim_fits h3 hm ys)
  have HPS : Hid (∀ m top, (Pol.trim p xs).length ≤ m + top → PD p xs (Pol.trim p ys) m (Pol.trim p xs).length top 0 (fun _ => 0) (zat (Pol.trim p xs))) := fun m top h => PD.start h3 xs (Pol.trim p ys) m top h
  have HNL := hid (rfl : (Pol.trim p xs).length = (Pol.trim p xs).length)
  have HPR := hid hpr
  clear hf1 hf2 hr1 hr2 hpr
  have hty := Pol.trim_le p ys
  generalize Pol.trim p ys = ts at *
  obtain ⟨n, hnn⟩ : ∃ n, n = (Pol.trim p xs).length := ⟨_, rfl⟩
  have HNN := hid hnn
  rw [← hnn] at HT2 hlx HPS
  clear HNL hnn
  obtain ⟨top, htop⟩ : ∃ top, ts.length = top + 1 := ⟨ts.length - 1, by omega⟩
  have HTOP := hid htop
  have htl : ts.length ≤ 17592186044416 := by omega
  have hz0 : ((ts.length : Int) == 0) = false := by rw [beq_eq_false_iff_ne]; omega
  have e0 : (ts.length : Int) - 1 = (top : Int) := by omega
  have e0' : (top : Int) < (ts.length : Int) := by omega
  have htop2 : top ≤ 17592186044416 := by omega
  obtain ⟨m, hmd⟩ : ∃ m, m = n - top := ⟨_, rfl⟩
  have HMD := hid hmd
  have hmx : max (0 : Int) ((n : Int) - (top : Int)) = (m : Int) := by omega
  have hmk := fun n h1 h2 w => run_make_row' (P := Tryd.prog) 22 3 (.int .i64 0) 8 Tryd.underlying22 Tryd.infoInt rfl .i64 .i64 n h1 h2 w
  have hmk2 := hmk m (by omega) (by omega)
  have hml : m ≤ 17592186044416 := by omega
  have hnl : n ≤ 17592186044416 := by omega
  clear hmk hmd htop hty
  go_enter Tryd.func48, Tryd.ntmps48
  go_wp2_with fail
  refine HT1.out.mono ?_
  rintro e w1 ⟨rfl, hc1, hb1, hs1⟩
  have HCB := hid hc1
  have HB1 := hid hb1
  have hs1' : w.heap.size < w1.heap.size := by omega
  clear hc1 hb1 hs1
  go_wp2_with fail
  refine (HT2.out w1 HB1.out).mono ?_
  rintro e w2 ⟨rfl, hc2, hb2, hs2⟩
  have HCR := hid hc2
  have HB2 : Hid (Below w.heap.size w w2) := HB1.out.trans (hb2.mono (by omega))
  have HCB2 := hid (HCB.out.below hb2 (by omega))
  have hs2' : w1.heap.size < w2.heap.size := by omega
  have hpc := (HB2.out.cell (p := ⟨b, 0, none⟩) hb).trans hp
  have hct := HCB2.out.cells top (by have := HTOP.out; omega)
  rw [Nat.zero_add] at hct
  have HY := HFT.out top (by have := HTOP.out; omega)
  have hinv := inv_any p b (zat ts top) w2 h3 hm hpc HY.1 HY.2
  rw [inv_ref p _ HPR.out h3] at hinv
  have HINV := hid hinv
  have hivl := invn_lt p (zat ts top) h3
  obtain ⟨iv, hiv⟩ : ∃ iv : Nat, iv = invn p (zat ts top) := ⟨_, rfl⟩
  have HIV := hid hiv
  rw [← hiv] at HINV hivl
  clear hc2 hb2 hs2 HCB HT1 HT2 HY hinv hiv
  go_wp2_with fail
  refine HINV.out.mono ?_
  rintro e w2' ⟨rfl, rfl⟩
  clear hct hpc HINV
  go_wp2_with fail
  go_loopw [40] (fun kv wr => ∃ (k : Nat) (qf rf : Nat → Int), k ≤ m ∧ kv = .int .i64 k ∧ Hid (Cells w2'.heap.size 0 m qf wr) ∧ Hid (Cells w1.heap.size 0 n rf wr) ∧ Hid (Cells w.heap.size 0 ts.length (zat ts) wr) ∧ Hid (PD p xs ts m n top k qf rf) ∧ Hid (Below w.heap.size w wr) ∧ w2'.heap.size < wr.heap.size)
    (fun kv _ => m - (intOf kv).toNat)
  case atStart =>
    refine ⟨0, fun _ => 0, zat (Pol.trim p xs), Nat.zero_le _, rfl, ⟨fun j hj => ?_, fun j hj => ?_⟩, HCR.out.below ((Below.refl w2'.heap.size w2').alloc (Nat.le_refl _) _) hs2', HCB2.out.below ((Below.refl w2'.heap.size w2').alloc (Nat.le_refl _) _) (by omega), HPS.out m top (by have := HMD.out; omega), HB2.out.trans ((Below.refl w.heap.size w2').alloc (by omega) _), by simp⟩
    · rw [World.cell?_alloc_at _ _ _ _ (by simp)]
      simp [madeCells, hj, Nat.mod_one]
    · simp
  case round =>
    obtain ⟨k, qf, rf, hk, rfl, hq, hr, hbc, hpd, hbel, hsz⟩ := hrel
    by_cases hlt : k < m
    · have hlt2 : (k : Int) < (m : Int) := by omega
      have hnm : n = m + top := by have := HMD.out; omega
      obtain ⟨pl, hpl⟩ : ∃ pl, pl = m - 1 - k := ⟨_, rfl⟩
      have e1 : (m : Int) - 1 - (k : Int) = (pl : Int) := by omega
      have hpm : pl < m := by omega
      have hpm2 : (pl : Int) < (m : Int) := by omega
      have hpn2 : (pl : Int) + (top : Int) < (n : Int) := by omega
      have e2 : ((pl : Int) + (top : Int)).toNat = pl + top := by omega
      have hpn3 : (pl : Int) ≤ (n : Int) := by omega
      have hrc := hr.out.cells (pl + top) (by omega)
      have hqc := hq.out.cells pl hpm
      have hqs := hq.out.soft pl hpm
      rw [Nat.zero_add] at hrc hqc hqs
      have hpc := (hbel.out.cell (p := ⟨b, 0, none⟩) hb).trans hp
      have hrb := hpd.out.rb (pl + top) (by omega)
      have HSTEP := hid (hpd.out.step HPR.out h3 HCT.out HTOP.out hnm HNN.out hlt)
      rw [← hpl, ← HIV.out] at HSTEP
      have HM := hid (mul_any p b (rf (pl + top)) (iv : Int) wr h3 hm hpc (by omega) (by omega) (by omega) (by omega))
      have hqb := emod_bounds (rf (pl + top) * (iv : Int)) p h3
      have hnb := emod_bounds (0 - rf (pl + top) * (iv : Int) % (p : Int)) p h3
      obtain ⟨q, hqd⟩ : ∃ q, q = rf (pl + top) * (iv : Int) % (p : Int) := ⟨_, rfl⟩
      rw [← hqd] at HM HSTEP hqb hnb
      have HQ2 := hid (hq.out.set q hpm)
      rw [Nat.zero_add] at HQ2
      have hW1 : Only w2'.heap.size wr (wr.setCell ⟨w2'.heap.size, pl, none⟩ (.int .i64 q)) := (Only.refl w2'.heap.size wr).setCell (p := ⟨w2'.heap.size, pl, none⟩) rfl _
      have HN : Hid (∀ W : World, W.cell? ⟨b, 0, none⟩ = some (.int .i64 p) → Calls Tryd.prog 66 #[.pointer (some ⟨b, 0, none⟩), .int .i64 q] W fun e w' => e = .returned (.int .i64 ((0 - q) % p)) ∧ w' = W) :=
        fun W h => neg_any p b q W h3 hm h (by omega) (by omega)
      have hpcW : (wr.setCell ⟨w2'.heap.size, pl, none⟩ (.int .i64 q)).cell? ⟨b, 0, none⟩ = some (.int .i64 p) := (hW1.cell (p := ⟨b, 0, none⟩) (by show b ≠ w2'.heap.size; omega)).trans hpc
      have HT : Hid (Calls Tryd.prog 61 #[.pointer (some ⟨b, 0, none⟩), .slice (some ⟨w1.heap.size, pl, none⟩) (n - pl) (n - pl), .slice (some ⟨w.heap.size, 0, none⟩) ts.length ts.length, .int .i64 ((0 - q) % (p : Int))] (wr.setCell ⟨w2'.heap.size, pl, none⟩ (.int .i64 q)).drew fun e w' =>
          e = .returned (.tuple #[]) ∧ Cells w1.heap.size 0 n (addf p rf (zat ts) ((0 - q) % (p : Int)) pl ts.length) w' ∧ Only w1.heap.size (wr.setCell ⟨w2'.heap.size, pl, none⟩ (.int .i64 q)).drew w') :=
        times_any p b w1.heap.size n pl (n - pl) ts.length (some ⟨w.heap.size, 0, none⟩) rf ts ((0 - q) % (p : Int)) _ h3 hm hpcW (by omega) (by omega) (by have := HTOP.out; omega) hpd.out.rb HFT.out (by omega) (by omega) ((hr.out.only hW1 (by omega)).drew)
          (fun j hj => ⟨w.heap.size, 0, rfl, by omega, ((hbc.out.only hW1 (by omega)).drew).cells j hj⟩)
      have HOQ := HQ2
      have HBC2 := hid ((hbc.out.only hW1 (by omega)).drew)
      have HB2' : Hid (Below w.heap.size w (wr.setCell ⟨w2'.heap.size, pl, none⟩ (.int .i64 q)).drew) := (hbel.out.trans (hW1.below (by omega))).drew
      have hszW : w2'.heap.size < (wr.setCell ⟨w2'.heap.size, pl, none⟩ (.int .i64 q)).heap.size := by rw [hW1.size]; exact hsz
      have HSZ := hid hszW
      have hqcW : (wr.setCell ⟨w2'.heap.size, pl, none⟩ (.int .i64 q)).cell? ⟨w2'.heap.size, pl, none⟩ = some (.int .i64 q) := World.cell?_setCell_same _ _ _ hqc
      clear hW1 hszW hqd hpl hnm
      generalize rf (pl + top) = x at *
      generalize (0 - q) % (p : Int) = ng at *
      go_wp2_with fail
      refine HM.out.mono ?_
      rintro e w3 ⟨rfl, rfl⟩
      go_wp2_with fail
      go_region_with (first
        | (go_at_call 66; refine (HN.out _ ?_).mono ?_; exact hpcW; rintro e w4 ⟨rfl, rfl⟩)
        | (go_at_call 61; refine HT.out.mono ?_; rintro e w5 ⟨rfl, hc5, ho5⟩; have HC5 := hid hc5; have HO5 := hid ho5; clear hc5 ho5))
      all_goals
        go_wp2_with fail
        go_roundw
        case rel => exact ⟨k + 1, _, _, by omega, by go_num, HOQ.out.drew.only HO5.out (by omega), HC5, HBC2.out.only HO5.out (by omega), HSTEP, HB2'.out.trans (HO5.out.below (by omega)), by rw [HO5.out.size]; exact HSZ.out⟩
        case measure => simp [intOf]; omega
    · have hlt2 : ¬ (k : Int) < (m : Int) := by omega
      obtain rfl : k = m := by omega
      have hpc := (hbel.out.cell (p := ⟨b, 0, none⟩) hb).trans hp
      have HW := hid (without_any p b w1.heap.size n n rf wr h3 hm hpc (by omega) (Nat.le_refl _) (fun j hj => by have := hpd.out.rb j hj; omega) hr.out)
      obtain ⟨r1, r2⟩ := mk_own rf n hpd.out.rb
      have HR1 := hid r1
      have HR2 := hid r2
      have HD := hid (hpd.out.done h3 HTOP.out)
      have hkx : k ≤ xs.length + 1 - ts.length := by have := HMD.out; have := HTOP.out; omega
      have htle := tpn_le p rf n
      clear r1 r2
      go_wp2_with fail
      refine HW.out.mono ?_
      rintro e w3 ⟨rfl, rfl⟩
      go_wp2_with fail
      go_ret3
      exact ⟨ls qf k, Pol.mk p rf n, _, _, _, _, ret_tup3 (ls_len _ _).symm HR1.out.symm, HD.out, hq.out.newr (by rw [ls_len]; exact Nat.le_refl _) (fun j hj => by rw [ls_len] at hj; exact ls_at _ _ _ hj) (by omega) hsz, hr.out.newr (by rw [HR1.out]; exact htle) HR2.out (by omega) (by omega), by rw [ls_len]; exact hkx, by rw [HR1.out]; omega, hbel.out, Nat.le_of_eq (ls_len _ _), fun h => by cases h⟩

theorem divide_any (p b c1 c2 : Nat) (a1 a2 : Option Addr) (xs ys : List Int) (w : World) (hpr : Num.Prime p) (h3 : 3 ≤ p) (hm : p ≤ 2147483647) (hp : w.cell? ⟨b, 0, none⟩ = some (.int .i64 p))
    (hn1 : xs.length ≤ 17592186044416) (hn2 : ys.length ≤ 17592186044416) (hf1 : Fits xs) (hf2 : Fits ys) (hr1 : RowB w.heap.size w a1 xs) (hr2 : RowB w.heap.size w a2 ys) (h0 : 0 < (Pol.trim p ys).length) :
    Calls Tryd.prog 48 #[.pointer (some ⟨b, 0, none⟩), .slice a1 xs.length c1, .slice a2 ys.length c2] w fun e w' => ∃ (q r : List Int) (aq ar : Option Addr) (cq cr : Nat),
      e = .returned (.tuple #[.slice aq q.length cq, .slice ar r.length cr, .nilIface]) ∧ IsD p xs (Pol.trim p ys) q r ∧ NewR w.heap.size w' aq q ∧ NewR w.heap.size w' ar r ∧ q.length ≤ xs.length + 1 - (Pol.trim p ys).length ∧ r.length ≤ xs.length ∧ Below w.heap.size w w' :=
  (divide_full p b c1 c2 a1 a2 xs ys w hpr h3 hm hp hn1 hn2 hf1 hf2 hr1 hr2 h0).mono fun _ _ ⟨q, r, aq, ar, cq, cr, e1, e2, e3, e4, e5, e6, e7, _⟩ => ⟨q, r, aq, ar, cq, cr, e1, e2, e3, e4, e5, e6, e7⟩

end Go.Proofs.YtbpkmhibdaafiadDoor
