/- What package poly's Fit answers. -/
import Derived.Test.YtecaifjbmfianagGreatDoorPolG
import Derived.Test.YtecaifjbmfianagGreatDoorDistinct
import Derived.Test.YtecaifjbmfianagGreatDoorInvsB
namespace Go.Proofs.YtecaifjbmfianagGreatDoor
open Go.RowKit

/-- what the i-th product is multiplied by -/
def fc (p : Nat) (xs ys : List Int) (i : Nat) : Int := zat ys i * (invn p (evz p (vskl p xs i xs.length) (zat xs i)) : Int) % (p : Int)

/-- the sum of the first i products -/
def FS (p : Nat) (xs ys : List Int) : Nat → Nat → Int
  | 0 => Pol.zero
  | i + 1 => Pol.add (FS p xs ys i) (Pol.sc (fc p xs ys i) (Pol.vsk (zat xs) i xs.length))

def fsm (p : Nat) (xs ys : List Int) (i : Nat) : Nat → Int := fun j => FS p xs ys i j % (p : Int)
theorem fsm_bounds (p : Nat) (xs ys : List Int) (i j : Nat) (h3 : 3 ≤ p) : 0 ≤ fsm p xs ys i j ∧ fsm p xs ys i j < p := emod_bounds _ p h3
theorem fsm_zero (p : Nat) (xs ys : List Int) (j : Nat) : fsm p xs ys 0 j = 0 := by simp [fsm, FS, Pol.zero]

theorem fsm_succ {p : Nat} (h3 : 3 ≤ p) (xs ys : List Int) (i : Nat) (hi : i < xs.length) (j : Nat) (hj : j < xs.length) : awf p (fsm p xs ys i) (pvan p xs) (zat xs i) (fc p xs ys i) xs.length xs.length j = fsm p xs ys (i + 1) j := by
  unfold awf
  rw [if_pos (by omega), sd_vsk h3 xs i hi (xs.length - j) (by omega), show xs.length - (xs.length - j) = j from by omega]
  unfold fsm
  rw [FS]
  simp only [Pol.add, Pol.sc]
  rw [Int.mul_emod, Int.emod_emod_of_dvd _ (Int.dvd_refl _), ← Int.mul_emod, ← Int.add_emod, Int.mul_comm]

theorem FS_zero (p : Nat) (xs ys : List Int) (i : Nat) (hi : i ≤ xs.length) (j : Nat) (hj : xs.length ≤ j) : FS p xs ys i j = 0 := by
  induction i with
  | zero => rfl
  | succ i ih =>
    rw [FS]; simp only [Pol.add, Pol.sc]
    rw [ih (by omega), Pol.vsk_zero _ _ _ _ (by omega) hj]; simp

/-- the polynomial through the points -/
def pfit (p : Nat) (xs ys : List Int) : List Int := Pol.mk p (FS p xs ys xs.length) xs.length

theorem ret_fit {a : Option Addr} {n m c : Nat} (h : n = m) : Ending.returned (.tuple #[.slice a n c, .nilIface]) = .returned (.tuple #[.slice a m c, .nilIface]) := by rw [h]

set_option maxHeartbeats 400000 in
theorem fit_size (b c1 c2 : Nat) (a1 a2 : Option Addr) (xs ys : List Int) (w : World) (hl : xs.length ≠ ys.length) :
    Calls Tryz.prog 16 #[.pointer (some ⟨b, 0, none⟩), .slice a1 xs.length c1, .slice a2 ys.length c2] w fun e w' => e = .returned (.tuple #[.slice none 0 0, .iface 49 (.int .i64 2)]) ∧ w' = w := by
  have hb : ((xs.length : Int) != (ys.length : Int)) = true := by rw [bne_iff_ne]; omega
  clear hl
  go_enter Tryz.func16, Tryz.ntmps16
  go_wp2_with fail
  go_ret2
  exact ⟨rfl, rfl⟩

set_option maxHeartbeats 400000 in
theorem fit_same (p b c1 c2 : Nat) (a1 a2 : Option Addr) (xs ys : List Int) (w : World) (h3 : 3 ≤ p) (hm : p ≤ 2147483647) (hp : w.cell? ⟨b, 0, none⟩ = some (.int .i64 p))
    (hn : xs.length ≤ 17592186044416) (hf1 : Fits xs) (hr1 : RowB w.heap.size w a1 xs) (hl : xs.length = ys.length) (hu : ¬ Unl p (zat xs) xs.length) :
    Calls Tryz.prog 16 #[.pointer (some ⟨b, 0, none⟩), .slice a1 xs.length c1, .slice a2 ys.length c2] w fun e w' => e = .returned (.tuple #[.slice none 0 0, .iface 49 (.int .i64 4)]) ∧ Below w.heap.size w w' := by
  have HA := hid (areunlike_any p b c1 a1 xs w h3 hm hp hn hf1 hr1)
  rw [unlB_no hu] at HA
  rw [← hl]
  have hb : ((xs.length : Int) != (xs.length : Int)) = false := by simp
  clear hl hu hf1 hr1
  go_enter Tryz.func16, Tryz.ntmps16
  go_wp2_with fail
  refine HA.out.mono ?_
  rintro e w1 ⟨rfl, hb1⟩
  have HB1 := hid hb1
  clear hb1
  go_wp2_with fail
  go_ret2
  exact ⟨rfl, HB1.out⟩

set_option maxHeartbeats 4000000 in
theorem fit_any (p b c1 c2 : Nat) (a1 a2 : Option Addr) (xs ys : List Int) (w : World) (hpr : Num.Prime p) (h3 : 3 ≤ p) (hm : p ≤ 2147483647) (hp : w.cell? ⟨b, 0, none⟩ = some (.int .i64 p))
    (hn : xs.length ≤ 17592186043904) (hf1 : Fits xs) (hf2 : Fits ys) (hr1 : RowB w.heap.size w a1 xs) (hr2 : RowB w.heap.size w a2 ys) (hl : xs.length = ys.length) (hu : Unl p (zat xs) xs.length) :
    Calls Tryz.prog 16 #[.pointer (some ⟨b, 0, none⟩), .slice a1 xs.length c1, .slice a2 ys.length c2] w fun e w' => ∃ (a : Option Addr) (c : Nat),
      e = .returned (.tuple #[.slice a (pfit p xs ys).length c, .nilIface]) ∧ NewR w.heap.size w' a (pfit p xs ys) ∧ Below w.heap.size w w' := by
  have hb : b < w.heap.size := heap_lt hp
  have HA := hid (areunlike_any p b c1 a1 xs w h3 hm hp (by omega) hf1 hr1)
  rw [unlB_yes hu] at HA
  have HFY : Hid (∀ j, j < xs.length → -9223372036854775808 ≤ zat ys j ∧ zat ys j ≤ 9223372036854775807) := fun j hj => hf2 j (by omega)
  have HRY : Hid (∀ k, k < xs.length → ∃ b o, a2 = some ⟨b, o, none⟩ ∧ b < w.heap.size ∧ w.cell? ⟨b, o + k, none⟩ = some (.int .i64 (zat ys k))) := fun k hk => hr2 k (by omega)
  rw [← hl]
  have hbn : ((xs.length : Int) != (xs.length : Int)) = false := by simp
  have HF := hid hf1
  have HR := hid hr1
  have HPR := hid hpr
  obtain ⟨hvl, hvz⟩ := pvan_list h3 xs
  have HVL := hid hvl
  have HVF : Hid (Fits (pvan p xs)) := can_fits hm (Pol.mk_can (by omega) _ _)
  have HSL : Hid (∀ j, j < xs.length → evz p (pdv p (pvan p xs)) (zat xs j) = evz p (vskl p xs j xs.length) (zat xs j)) := fun j hj => slope_eq h3 xs j hj
  clear hf1 hf2 hr1 hr2 hl hu hpr hvl hvz
  have hmk := fun n h1 h2 w => run_make_row' (P := Tryz.prog) 23 3 (.int .i64 0) 8 Tryz.underlying23 Tryz.infoInt rfl .i64 .i64 n h1 h2 w
  have hmk2 := hmk xs.length (by omega) (by omega)
  clear hmk
  go_enter Tryz.func16, Tryz.ntmps16
  go_wp2_with fail
  refine HA.out.mono ?_
  rintro e w1 ⟨rfl, hb1⟩
  have HB1 := hid hb1
  have hs1 := hb1.size
  have HR1 := hid ((HR.out.below hb1).mono hs1)
  have hpc1 := (hb1.cell (p := ⟨b, 0, none⟩) hb).trans hp
  clear hb1 HA
  have HV := hid (vanish_any p b c1 a1 xs w1 h3 hm hpc1 hn HF.out HR1.out)
  clear hpc1
  go_wp2_with fail
  refine HV.out.mono ?_
  rintro e w2 ⟨rfl, hcv, hb2, hs2⟩
  have HCV := hid hcv
  have HB2 : Hid (Below w.heap.size w w2) := HB1.out.trans (hb2.mono hs1)
  have HR2 := hid ((HR1.out.below hb2).mono hb2.size)
  have hs2' : w1.heap.size < w2.heap.size := by omega
  clear hcv hb2 hs2 HV HR1
  go_wp2_with fail
  have HCV3 := hid (HCV.out.below ((Below.refl w2.heap.size w2).alloc (Nat.le_refl _) (.cells (madeCells #[.int .i64 0] xs.length) 3)) hs2')
  have HB3 : Hid (Below w.heap.size w (w2.alloc (.cells (madeCells #[.int .i64 0] xs.length) 3))) := HB2.out.alloc (by omega) _
  have HO3 : Hid (Cells w2.heap.size 0 xs.length (fun _ => 0) (w2.alloc (.cells (madeCells #[.int .i64 0] xs.length) 3))) := ⟨fun j hj => by
    rw [World.cell?_alloc_at _ _ _ _ (by simp)]
    simp [madeCells, hj, Nat.mod_one], fun j hj => by simp⟩
  have HR3 := hid ((HR2.out.below ((Below.refl w2.heap.size w2).alloc (Nat.le_refl _) (.cells (madeCells #[.int .i64 0] xs.length) 3))).mono (show w2.heap.size ≤ (w2.alloc (.cells (madeCells #[.int .i64 0] xs.length) 3)).heap.size by simp))
  have hs3 : w2.heap.size < (w2.alloc (.cells (madeCells #[.int .i64 0] xs.length) 3)).heap.size := by simp
  clear HR2 HCV
  generalize hw3 : w2.alloc (.cells (madeCells #[.int .i64 0] xs.length) 3) = w3 at *
  clear hw3
  have HS := hid (slopes_any p b (pvan p xs).length c1 (some ⟨w1.heap.size, 0, none⟩) a1 (pvan p xs) xs w3 h3 hm ((HB3.out.cell (p := ⟨b, 0, none⟩) hb).trans hp) (by have := HVL.out; omega) (by omega) HVF.out HF.out (HCV3.out.row (Nat.le_refl _) (fun _ _ => rfl) (by omega)) HR3.out)
  refine HS.out.mono ?_
  rintro e w4 ⟨rfl, hcs, hb4, hs4⟩
  have hll := ls_len (fun j => evz p (pdv p (pvan p xs)) (zat xs j)) xs.length
  have hrow4 : RowB w4.heap.size w4 (some ⟨w3.heap.size + 1, 0, none⟩) (ls (fun j => evz p (pdv p (pvan p xs)) (zat xs j)) xs.length) := hcs.row (by omega) (fun j hj => ls_at _ _ _ (by omega)) hs4
  have HB4 : Hid (Below w.heap.size w w4) := HB3.out.trans (hb4.mono (by omega))
  have HI := hid (invs_any p b xs.length (some ⟨w3.heap.size + 1, 0, none⟩) (ls (fun j => evz p (pdv p (pvan p xs)) (zat xs j)) xs.length) w4 HPR.out h3 hm ((HB4.out.cell (p := ⟨b, 0, none⟩) hb).trans hp) (by omega) (fun j hj => by rw [ls_at _ _ _ (by omega)]; have := evz_bounds p (pdv p (pvan p xs)) (zat xs j) h3; omega) hrow4)
  rw [hll] at HI
  have HCV4 := hid (HCV3.out.below hb4 (by omega))
  have HO4 := hid (HO3.out.below hb4 (by omega))
  have hs4' : w3.heap.size < w4.heap.size := by omega
  clear hcs hb4 hs4 hll hrow4 HS HR3 HCV3 HO3
  go_wp2_with fail
  refine HI.out.mono ?_
  rintro e w5 ⟨o, rfl, ho, hout5, hb5⟩
  have HO : Hid (∀ j, j < xs.length → o j = invn p (evz p (vskl p xs j xs.length) (zat xs j))) := fun j hj => by rw [ho j hj, ls_at _ _ _ hj, HSL.out j hj]
  have HOUT5 : Hid (∀ j, j < xs.length → w5.cell? ⟨w4.heap.size + 1, j, none⟩ = some (.int .i64 (o j : Int))) := hout5.cells
  have HCV5 := hid (HCV4.out.below hb5 (by omega))
  have HO5 := hid (HO4.out.below hb5 (by omega))
  have HB5 : Hid (Below w.heap.size w w5) := HB4.out.trans (hb5.mono (by omega))
  have hs5 := hb5.size
  clear ho hout5 hb5 HI HCV4 HO4
  go_wp2_with fail
  go_loopw [36] (fun iv wr => ∃ (k : Nat), k ≤ xs.length ∧ iv = .int .i64 k ∧ Hid (Cells w2.heap.size 0 xs.length (fsm p xs ys k) wr) ∧ Hid (Only w2.heap.size w5 wr))
    (fun iv _ => xs.length - (intOf iv).toNat)
  case atStart => exact ⟨0, Nat.zero_le _, rfl, HO5.out.congr (fun j _ => (fsm_zero p xs ys j).symm), Only.refl _ _⟩
  case round =>
    obtain ⟨k, hk, rfl, hout, honly⟩ := hrel
    have hbw := HB5.out.trans (honly.out.below (show w.heap.size ≤ w2.heap.size by omega))
    by_cases hlt : k < xs.length
    · have hlt2 : (k : Int) < (xs.length : Int) := by omega
      obtain ⟨bx, ox, rfl, hbx, hcx⟩ := HR.out k hlt
      obtain ⟨by', oy, rfl, hby, hcy⟩ := HRY.out k hlt
      have hcx2 := (hbw.cell (p := ⟨bx, ox + k, none⟩) hbx).trans hcx
      have hcy2 := (hbw.cell (p := ⟨by', oy + k, none⟩) hby).trans hcy
      have hci := (honly.out.cell (p := ⟨w4.heap.size + 1, k, none⟩) (by show w4.heap.size + 1 ≠ w2.heap.size; omega)).trans (HOUT5.out k hlt)
      rw [HO.out k hlt] at hci
      have hpc := (hbw.cell (p := ⟨b, 0, none⟩) hb).trans hp
      obtain ⟨hx1, hx2⟩ := HF.out k hlt
      obtain ⟨hy1, hy2⟩ := HFY.out k hlt
      have hil := invn_lt p (evz p (vskl p xs k xs.length) (zat xs k)) h3
      have hcb := emod_bounds (zat ys k * (invn p (evz p (vskl p xs k xs.length) (zat xs k)) : Int)) p h3
      have HM : Hid (∀ W : World, W.cell? ⟨b, 0, none⟩ = some (.int .i64 p) → Calls Tryz.prog 34 #[.pointer (some ⟨b, 0, none⟩), .int .i64 (zat ys k), .int .i64 (invn p (evz p (vskl p xs k xs.length) (zat xs k)) : Int)] W fun e w' => e = .returned (.int .i64 (fc p xs ys k)) ∧ w' = W) :=
        fun W h => mul_any p b _ _ W h3 hm h hy1 hy2 (by omega) (by omega)
      rw [show zat ys k * (invn p (evz p (vskl p xs k xs.length) (zat xs k)) : Int) % (p : Int) = fc p xs ys k from rfl] at hcb
      have HAW : Hid (Calls Tryz.prog 33 #[.pointer (some ⟨b, 0, none⟩), .slice (some ⟨w2.heap.size, 0, none⟩) xs.length xs.length, .slice (some ⟨w1.heap.size, 0, none⟩) (pvan p xs).length (pvan p xs).length, .int .i64 (zat xs k), .int .i64 (fc p xs ys k)] wr.drew fun e w' =>
          e = .returned (.tuple #[]) ∧ Cells w2.heap.size 0 xs.length (awf p (fsm p xs ys k) (pvan p xs) (zat xs k) (fc p xs ys k) xs.length xs.length) w' ∧ Only w2.heap.size wr.drew w') :=
        awr_any p b w2.heap.size xs.length xs.length (pvan p xs).length (some ⟨w1.heap.size, 0, none⟩) (fsm p xs ys k) (pvan p xs) (zat xs k) (fc p xs ys k) wr.drew h3 hm hpc (by omega) HVL.out.symm (by omega) (fun j _ => fsm_bounds p xs ys k j h3) HVF.out hx1 hx2 (by omega) (by omega) hout.out.drew
          (fun j hj => ⟨w1.heap.size, 0, rfl, by omega, ((HCV5.out.only honly.out (by omega)).drew).cells j hj⟩)
      have HST : Hid (∀ j, j < xs.length → awf p (fsm p xs ys k) (pvan p xs) (zat xs k) (fc p xs ys k) xs.length xs.length j = fsm p xs ys (k + 1) j) := fun j hj => fsm_succ h3 xs ys k hlt j hj
      clear hcx hcy hbw
      generalize awf p (fsm p xs ys k) (pvan p xs) (zat xs k) (fc p xs ys k) xs.length xs.length = aw at *
      generalize fc p xs ys k = cc at *
      generalize invn p (evz p (vskl p xs k xs.length) (zat xs k)) = iv at *
      generalize zat ys k = y at *
      generalize zat xs k = x at *
      go_wp2_with fail
      go_region_with (first
        | (go_at_call 34; refine (HM.out _ ?_).mono ?_; exact hpc; rintro e w6 ⟨rfl, rfl⟩)
        | (go_at_call 33; refine HAW.out.mono ?_; rintro e w7 ⟨rfl, hc7, ho7⟩; have HC7 := hid hc7; have HO7 := hid ho7; clear hc7 ho7))
      all_goals
        go_wp2_with fail
        go_roundw
        case rel => exact ⟨k + 1, by omega, by go_num, HC7.out.congr HST.out, honly.out.drew.trans HO7.out⟩
        case measure => simp [intOf]; omega
    · have hlt2 : ¬ (k : Int) < (xs.length : Int) := by omega
      obtain rfl : k = xs.length := by omega
      have hpc := (hbw.cell (p := ⟨b, 0, none⟩) hb).trans hp
      have HW := hid (without_any p b w2.heap.size xs.length xs.length (fsm p xs ys xs.length) wr h3 hm hpc (by omega) (Nat.le_refl _) (fun j _ => by have := fsm_bounds p xs ys xs.length j h3; omega) hout.out)
      have HL : Hid (tpn p (fsm p xs ys xs.length) xs.length = (pfit p xs ys).length) := (Pol.tp_mod p _ _).trans (Pol.mk_length _ _ _).symm
      have htl := tpn_le p (fsm p xs ys xs.length) xs.length
      have HZ : Hid (∀ j, j < (pfit p xs ys).length → zat (pfit p xs ys) j = fsm p xs ys xs.length j) := fun j hj => by
        rw [pfit, Pol.mk_length] at hj
        exact Pol.mk_at p _ _ j hj
      have HBW := hid hbw
      have hsw : w2.heap.size < wr.heap.size := by rw [honly.out.size]; omega
      clear hbw
      go_wp2_with fail
      refine HW.out.mono ?_
      rintro e w6 ⟨rfl, rfl⟩
      go_wp2_with fail
      go_ret2
      exact ⟨_, _, ret_fit HL.out, hout.out.newr (by have := HL.out; omega) HZ.out (by omega) hsw, HBW.out⟩

end Go.Proofs.YtecaifjbmfianagGreatDoor
