/- What package poly's Fit answers. Plain facts on sums over a cube, of no program: the polynomial through some points is what it should be there; a Total with its first variable let be x; extensions. -/
import Derived.Test.YtaapbopcfpihbabGreatDoorGkAC
import Derived.Test.YtaapbopcfpihbabGreatDoorGkAD
import Derived.Test.YtaapbopcfpihbabGreatDoorInvsB
import Derived.Test.YtaapbopcfpihbabGreatDoorPlain
namespace Go.Proofs.YtaapbopcfpihbabGreatDoor
open Go.RowKit

/-- what the i-th product is multiplied by -/
def fc (p : Nat) (xs ys : List Int) (i : Nat) : Int := zat ys i * (invn p (evz p (vskl p xs i xs.length) (zat xs i)) : Int) % (p : Int)

/-- the sum of the first i products -/
def FS (p : Nat) (xs ys : List Int) : Nat → Nat → Int
  | 0 => Pol.zero
  | i + 1 => Pol.add (FS p xs ys i) (Pol.sc (fc p xs ys i) (Pol.vsk (zat xs) i xs.length))

def fsm (p : Nat) (xs ys : List Int) (i : Nat) : Nat → Int := fun j => FS p xs ys i j % (p : Int)
theorem fsm_bounds (p : Nat) (xs ys : List Int) (i j : Nat) (h3 : 3 ≤ p) : 0 ≤ fsm p xs ys i j ∧ fsm p xs ys i j < p := emod_bounds _ p h3
theorem fsm_zero (p : Nat) (xs ys : List Int) (j : Nat) : fsm p xs ys 0 j = 0 := by simp [fsm, FS, Pol.zero]

theorem fsm_succ {p : Nat} (h3 : 3 ≤ p) (xs ys : List Int) (i : Nat) (hi : i < xs.length) (j : Nat) (hj : j < xs.length) : awf p (fsm p xs ys i) (pvan p xs) (zat xs i) (fc p xs ys i) xs.length xs.length j = fsm p xs ys (i + 1) j := by
  unfold awf
  rw [if_pos (by omega), sd_vsk h3 xs i hi (xs.length - j) (by omega), show xs.length - (xs.length - j) = j from by omega]
  unfold fsm
  rw [FS]
  simp only [Pol.add, Pol.sc]
  rw [Int.mul_emod, Int.emod_emod_of_dvd _ (Int.dvd_refl _), ← Int.mul_emod, ← Int.add_emod, Int.mul_comm]

theorem FS_zero (p : Nat) (xs ys : List Int) (i : Nat) (hi : i ≤ xs.length) (j : Nat) (hj : xs.length ≤ j) : FS p xs ys i j = 0 := by
  induction i with
  | zero => rfl
  | succ i ih =>
    rw [FS]; simp only [Pol.add, Pol.sc]
    rw [ih (by omega), Pol.vsk_zero _ _ _ _ (by omega) hj]; simp

/-- the polynomial through the points -/
def pfit (p : Nat) (xs ys : List Int) : List Int := Pol.mk p (FS p xs ys xs.length) xs.length

theorem ret_fit {a : Option Addr} {n m c : Nat} (h : n = m) : Ending.returned (.tuple #[.slice a n c, .nilIface]) = .returned (.tuple #[.slice a m c, .nilIface]) := by rw [h]

set_option maxHeartbeats 4000000 in
theorem fit_any (p b c1 c2 : Nat) (a1 a2 : Option Addr) (xs ys : List Int) (w : World) (hpr : Num.Prime p) (h3 : 3 ≤ p) (hm : p ≤ 2147483647) (hp : w.cell? ⟨b, 0, none⟩ = some (.int .i64 p))
    (hn : xs.length ≤ 17592186043904) (hf1 : Fits xs) (hf2 : Fits ys) (hr1 : RowB w.heap.size w a1 xs) (hr2 : RowB w.heap.size w a2 ys) (hl : xs.length = ys.length) (hu : Unl p (zat xs) xs.length) :
    Calls Tryz.prog 90 #[.pointer (some ⟨b, 0, none⟩), .slice a1 xs.length c1, .slice a2 ys.length c2] w fun e w' => ∃ (a : Option Addr) (c : Nat),
      e = .returned (.tuple #[.slice a (pfit p xs ys).length c, .nilIface]) ∧ NewR w.heap.size w' a (pfit p xs ys) ∧ Below w.heap.size w w' := by
  have hb : b < w.heap.size := heap_lt hp
  have HA := hid (areunlike_any p b c1 a1 xs w h3 hm hp (by omega) hf1 hr1)
  rw [unlB_yes hu] at HA
  have HFY : Hid (∀ j, j < xs.length → -9223372036854775808 ≤ zat ys j ∧ zat ys j ≤ 9223372036854775807) := fun j hj => hf2 j (by omega)
  have HRY : Hid (∀ k, k < xs.length → ∃ b o, a2 = some ⟨b, o, none⟩ ∧ b < w.heap.size ∧ w.cell? ⟨b, o + k, none⟩ = some (.int .i64 (zat ys k))) := fun k hk => hr2 k (by omega)
  rw [← hl]
  have hbn : ((xs.length : Int) != (xs.length : Int)) = false := by simp
  have HF := hid hf1
  have HR := hid hr1
  have HPR := hid hpr
  obtain ⟨hvl, hvz⟩ := pvan_list h3 xs
  have HVL := hid hvl
  have HVF : Hid (Fits (pvan p xs)) := can_fits hm (Pol.mk_can (by omega) _ _)
  have HSL : Hid (∀ j, j < xs.length → evz p (pdv p (pvan p xs)) (zat xs j) = evz p (vskl p xs j xs.length) (zat xs j)) := fun j hj => slope_eq h3 xs j hj
  clear hf1 hf2 hr1 hr2 hl hu hpr hvl hvz
  have hmk := fun n h1 h2 w => run_make_row' (P := Tryz.prog) 25 3 (.int .i64 0) 8 Tryz.underlying25 Tryz.infoInt rfl .i64 .i64 n h1 h2 w
  have hmk2 := hmk xs.length (by omega) (by omega)
  clear hmk
  go_enter Tryz.func90, Tryz.ntmps90
  go_wp2_with fail
  refine HA.out.mono ?_
  rintro e w1 ⟨rfl, hb1⟩
  have HB1 := hid hb1
  have hs1 := hb1.size
  have HR1 := hid ((HR.out.below hb1).mono hs1)
  have hpc1 := (hb1.cell (p := ⟨b, 0, none⟩) hb).trans hp
  clear hb1 HA
  have HV := hid (vanish_any p b c1 a1 xs w1 h3 hm hpc1 hn HF.out HR1.out)
  clear hpc1
  go_wp2_with fail
  refine HV.out.mono ?_
  rintro e w2 ⟨rfl, hcv, hb2, hs2⟩
  have HCV := hid hcv
  have HB2 : Hid (Below w.heap.size w w2) := HB1.out.trans (hb2.mono hs1)
  have HR2 := hid ((HR1.out.below hb2).mono hb2.size)
  have hs2' : w1.heap.size < w2.heap.size := by omega
  clear hcv hb2 hs2 HV HR1
  go_wp2_with fail
  have HCV3 := hid (HCV.out.below ((Below.refl w2.heap.size w2).alloc (Nat.le_refl _) (.cells (madeCells #[.int .i64 0] xs.length) 3)) hs2')
  have HB3 : Hid (Below w.heap.size w (w2.alloc (.cells (madeCells #[.int .i64 0] xs.length) 3))) := HB2.out.alloc (by omega) _
  have HO3 : Hid (Cells w2.heap.size 0 xs.length (fun _ => 0) (w2.alloc (.cells (madeCells #[.int .i64 0] xs.length) 3))) := ⟨fun j hj => by
    rw [World.cell?_alloc_at _ _ _ _ (by simp)]
    simp [madeCells, hj, Nat.mod_one], fun j hj => by simp⟩
  have HR3 := hid ((HR2.out.below ((Below.refl w2.heap.size w2).alloc (Nat.le_refl _) (.cells (madeCells #[.int .i64 0] xs.length) 3))).mono (show w2.heap.size ≤ (w2.alloc (.cells (madeCells #[.int .i64 0] xs.length) 3)).heap.size by simp))
  have hs3 : w2.heap.size < (w2.alloc (.cells (madeCells #[.int .i64 0] xs.length) 3)).heap.size := by simp
  clear HR2 HCV
  generalize hw3 : w2.alloc (.cells (madeCells #[.int .i64 0] xs.length) 3) = w3 at *
  clear hw3
  have HS := hid (slopes_any p b (pvan p xs).length c1 (some ⟨w1.heap.size, 0, none⟩) a1 (pvan p xs) xs w3 h3 hm ((HB3.out.cell (p := ⟨b, 0, none⟩) hb).trans hp) (by have := HVL.out; omega) (by omega) HVF.out HF.out (HCV3.out.row (Nat.le_refl _) (fun _ _ => rfl) (by omega)) HR3.out)
  refine HS.out.mono ?_
  rintro e w4 ⟨rfl, hcs, hb4, hs4⟩
  have hll := ls_len (fun j => evz p (pdv p (pvan p xs)) (zat xs j)) xs.length
  have hrow4 : RowB w4.heap.size w4 (some ⟨w3.heap.size + 1, 0, none⟩) (ls (fun j => evz p (pdv p (pvan p xs)) (zat xs j)) xs.length) := hcs.row (by omega) (fun j hj => ls_at _ _ _ (by omega)) hs4
  have HB4 : Hid (Below w.heap.size w w4) := HB3.out.trans (hb4.mono (by omega))
  have HI := hid (invs_any p b xs.length (some ⟨w3.heap.size + 1, 0, none⟩) (ls (fun j => evz p (pdv p (pvan p xs)) (zat xs j)) xs.length) w4 HPR.out h3 hm ((HB4.out.cell (p := ⟨b, 0, none⟩) hb).trans hp) (by omega) (fun j hj => by rw [ls_at _ _ _ (by omega)]; have := evz_bounds p (pdv p (pvan p xs)) (zat xs j) h3; omega) hrow4)
  rw [hll] at HI
  have HCV4 := hid (HCV3.out.below hb4 (by omega))
  have HO4 := hid (HO3.out.below hb4 (by omega))
  have hs4' : w3.heap.size < w4.heap.size := by omega
  clear hcs hb4 hs4 hll hrow4 HS HR3 HCV3 HO3
  go_wp2_with fail
  refine HI.out.mono ?_
  rintro e w5 ⟨o, rfl, ho, hout5, hb5⟩
  have HO : Hid (∀ j, j < xs.length → o j = invn p (evz p (vskl p xs j xs.length) (zat xs j))) := fun j hj => by rw [ho j hj, ls_at _ _ _ hj, HSL.out j hj]
  have HOUT5 : Hid (∀ j, j < xs.length → w5.cell? ⟨w4.heap.size + 1, j, none⟩ = some (.int .i64 (o j : Int))) := hout5.cells
  have HCV5 := hid (HCV4.out.below hb5 (by omega))
  have HO5 := hid (HO4.out.below hb5 (by omega))
  have HB5 : Hid (Below w.heap.size w w5) := HB4.out.trans (hb5.mono (by omega))
  have hs5 := hb5.size
  clear ho hout5 hb5 HI HCV4 HO4
  go_wp2_with fail
  go_loopw [36] (fun iv wr => ∃ (k : Nat), k ≤ xs.length ∧ iv = .int .i64 k ∧ Hid (Cells w2.heap.size 0 xs.length (fsm p xs ys k) wr) ∧ Hid (Only w2.heap.size w5 wr))
    (fun iv _ => xs.length - (intOf iv).toNat)
  case atStart => exact ⟨0, Nat.zero_le _, rfl, HO5.out.congr (fun j _ => (fsm_zero p xs ys j).symm), Only.refl _ _⟩
  case round =>
    obtain ⟨k, hk, rfl, hout, honly⟩ := hrel
    have hbw := HB5.out.trans (honly.out.below (show w.heap.size ≤ w2.heap.size by omega))
    by_cases hlt : k < xs.length
    · have hlt2 : (k : Int) < (xs.length : Int) := by omega
      obtain ⟨bx, ox, rfl, hbx, hcx⟩ := HR.out k hlt
      obtain ⟨by', oy, rfl, hby, hcy⟩ := HRY.out k hlt
      have hcx2 := (hbw.cell (p := ⟨bx, ox + k, none⟩) hbx).trans hcx
      have hcy2 := (hbw.cell (p := ⟨by', oy + k, none⟩) hby).trans hcy
      have hci := (honly.out.cell (p := ⟨w4.heap.size + 1, k, none⟩) (by show w4.heap.size + 1 ≠ w2.heap.size; omega)).trans (HOUT5.out k hlt)
      rw [HO.out k hlt] at hci
      have hpc := (hbw.cell (p := ⟨b, 0, none⟩) hb).trans hp
      obtain ⟨hx1, hx2⟩ := HF.out k hlt
      obtain ⟨hy1, hy2⟩ := HFY.out k hlt
      have hil := invn_lt p (evz p (vskl p xs k xs.length) (zat xs k)) h3
      have hcb := emod_bounds (zat ys k * (invn p (evz p (vskl p xs k xs.length) (zat xs k)) : Int)) p h3
      have HM : Hid (∀ W : World, W.cell? ⟨b, 0, none⟩ = some (.int .i64 p) → Calls Tryz.prog 72 #[.pointer (some ⟨b, 0, none⟩), .int .i64 (zat ys k), .int .i64 (invn p (evz p (vskl p xs k xs.length) (zat xs k)) : Int)] W fun e w' => e = .returned (.int .i64 (fc p xs ys k)) ∧ w' = W) :=
        fun W h => mul_any p b _ _ W h3 hm h hy1 hy2 (by omega) (by omega)
      rw [show zat ys k * (invn p (evz p (vskl p xs k xs.length) (zat xs k)) : Int) % (p : Int) = fc p xs ys k from rfl] at hcb
      have HAW : Hid (Calls Tryz.prog 118 #[.pointer (some ⟨b, 0, none⟩), .slice (some ⟨w2.heap.size, 0, none⟩) xs.length xs.length, .slice (some ⟨w1.heap.size, 0, none⟩) (pvan p xs).length (pvan p xs).length, .int .i64 (zat xs k), .int .i64 (fc p xs ys k)] wr.drew fun e w' =>
          e = .returned (.tuple #[]) ∧ Cells w2.heap.size 0 xs.length (awf p (fsm p xs ys k) (pvan p xs) (zat xs k) (fc p xs ys k) xs.length xs.length) w' ∧ Only w2.heap.size wr.drew w') :=
        awr_any p b w2.heap.size xs.length xs.length (pvan p xs).length (some ⟨w1.heap.size, 0, none⟩) (fsm p xs ys k) (pvan p xs) (zat xs k) (fc p xs ys k) wr.drew h3 hm hpc (by omega) HVL.out.symm (by omega) (fun j _ => fsm_bounds p xs ys k j h3) HVF.out hx1 hx2 (by omega) (by omega) hout.out.drew
          (fun j hj => ⟨w1.heap.size, 0, rfl, by omega, ((HCV5.out.only honly.out (by omega)).drew).cells j hj⟩)
      have HST : Hid (∀ j, j < xs.length → awf p (fsm p xs ys k) (pvan p xs) (zat xs k) (fc p xs ys k) xs.length xs.length j = fsm p xs ys (k + 1) j) := fun j hj => fsm_succ h3 xs ys k hlt j hj
      clear hcx hcy hbw
      generalize awf p (fsm p xs ys k) (pvan p xs) (zat xs k) (fc p xs ys k) xs.length xs.length = aw at *
      generalize fc p xs ys k = cc at *
      generalize invn p (evz p (vskl p xs k xs.length) (zat xs k)) = iv at *
      generalize zat ys k = y at *
      generalize zat xs k = x at *
      go_wp2_with fail
      go_region_with (first
        | (go_at_call 72; refine (HM.out _ ?_).mono ?_; exact hpc; rintro e w6 ⟨rfl, rfl⟩)
        | (go_at_call 118; refine HAW.out.mono ?_; rintro e w7 ⟨rfl, hc7, ho7⟩; have HC7 := hid hc7; have HO7 := hid ho7; clear hc7 ho7))
      all_goals
        go_wp2_with fail
        go_roundw
        case rel => exact ⟨k + 1, by omega, by go_num, HC7.out.congr HST.out, honly.out.drew.trans HO7.out⟩
        case measure => simp [intOf]; omega
    · have hlt2 : ¬ (k : Int) < (xs.length : Int) := by omega
      obtain rfl : k = xs.length := by omega
      have hpc := (hbw.cell (p := ⟨b, 0, none⟩) hb).trans hp
      have HW := hid (without_any p b w2.heap.size xs.length xs.length (fsm p xs ys xs.length) wr h3 hm hpc (by omega) (Nat.le_refl _) (fun j _ => by have := fsm_bounds p xs ys xs.length j h3; omega) hout.out)
      have HL : Hid (tpn p (fsm p xs ys xs.length) xs.length = (pfit p xs ys).length) := (Pol.tp_mod p _ _).trans (Pol.mk_length _ _ _).symm
      have htl := tpn_le p (fsm p xs ys xs.length) xs.length
      have HZ : Hid (∀ j, j < (pfit p xs ys).length → zat (pfit p xs ys) j = fsm p xs ys xs.length j) := fun j hj => by
        rw [pfit, Pol.mk_length] at hj
        exact Pol.mk_at p _ _ j hj
      have HBW := hid hbw
      have hsw : w2.heap.size < wr.heap.size := by rw [honly.out.size]; omega
      clear hbw
      go_wp2_with fail
      refine HW.out.mono ?_
      rintro e w6 ⟨rfl, rfl⟩
      go_wp2_with fail
      go_ret2
      exact ⟨_, _, ret_fit HL.out, hout.out.newr (by have := HL.out; omega) HZ.out (by omega) hsw, HBW.out⟩

end Go.Proofs.YtaapbopcfpihbabGreatDoor

namespace Go.Proofs.YtaapbopcfpihbabGreatDoor.Sum
open Pol Dom

/-- a product of the first n -/
def prz (f : Nat → Int) : Nat → Int
  | 0 => 1
  | n + 1 => prz f n * f n
theorem prz_same {f g : Nat → Int} {n : Nat} (h : ∀ i, i < n → f i = g i) : prz f n = prz g n := by
  induction n with
  | zero => rfl
  | succ n ih => simp only [prz]; rw [ih (fun i hi => h i (by omega)), h n (by omega)]
theorem dvd_mul_sub {p : Nat} {a b c d : Int} (h : (p : Int) ∣ a - b) (k : (p : Int) ∣ c - d) : (p : Int) ∣ a * c - b * d := by
  have h1 := Int.dvd_mul_of_dvd_left (c := c) h
  have h2 := Int.dvd_mul_of_dvd_right (b := b) k
  have := Int.dvd_add h1 h2
  rwa [show (a - b) * c + b * (c - d) = a * c - b * d from by grind] at this
theorem dvd_add_sub {p : Nat} {a b c d : Int} (h : (p : Int) ∣ a - b) (k : (p : Int) ∣ c - d) : (p : Int) ∣ (a + c) - (b + d) := by
  have := Int.dvd_add h k
  rwa [show (a - b) + (c - d) = (a + c) - (b + d) from by omega] at this
theorem prz_congr {p : Nat} {f g : Nat → Int} {n : Nat} (h : ∀ i, i < n → (p : Int) ∣ f i - g i) : (p : Int) ∣ prz f n - prz g n := by
  induction n with
  | zero => simp [prz]
  | succ n ih => simp only [prz]; exact dvd_mul_sub (ih (fun i hi => h i (by omega))) (h n (by omega))
theorem prz_zero {f : Nat → Int} {n k : Nat} (hk : k < n) (h : f k = 0) : prz f n = 0 := by
  induction n with
  | zero => omega
  | succ n ih =>
    simp only [prz]
    by_cases e : k = n
    · subst e; rw [h]; simp
    · rw [ih (by omega)]; simp
theorem prz_prime {p : Nat} (hp : Num.Prime p) {f : Nat → Int} {n : Nat} (h : ∀ i, i < n → ¬ (p : Int) ∣ f i) (h1 : ¬ (p : Int) ∣ 1) : ¬ (p : Int) ∣ prz f n := by
  induction n with
  | zero => exact h1
  | succ n ih =>
    simp only [prz]
    intro hd
    rcases prime_mul hp hd with g | g
    · exact ih (fun i hi => h i (by omega)) g
    · exact h n (by omega) g

/-- y less all points but the k-th, multiplied -/
def pvk (xs : Nat → Int) (k : Nat) (y : Int) (n : Nat) : Int := prz (fun i => if i = k then 1 else y - xs i) n
theorem lin_b (x : Int) : ∀ j, 2 ≤ j → lin x j = 0 := fun j hj => by
  unfold lin
  simp only [Pol.sub, Pol.sh, Pol.sc, Pol.one]
  rw [if_neg (by omega), if_neg (by omega), if_neg (by omega)]
  simp
theorem ps_lin (x y : Int) : ps (lin x) y 2 = y - x := by
  unfold lin
  simp [ps, Pol.sub, Pol.sh, Pol.sc, Pol.one, Int.pow_succ]
  omega
theorem vsk_far (xs : Nat → Int) (k n j : Nat) (h : n < j) : vsk xs k n j = 0 := by
  induction n generalizing j with
  | zero => rw [vsk]; unfold Pol.one; rw [if_neg (by omega)]
  | succ n ih =>
    rw [vsk]
    split
    · exact ih j (by omega)
    · rw [mul_lin]
      unfold Pol.sub Pol.sh Pol.sc
      rw [if_neg (by omega), ih (j - 1) (by omega), ih j (by omega)]
      simp
theorem ps_vsk (xs : Nat → Int) (k : Nat) (y : Int) (n : Nat) : ps (vsk xs k n) y (n + 1) = pvk xs k y n := by
  induction n with
  | zero => simp [vsk, pvk, prz, ps, Pol.one]
  | succ n ih =>
    rw [vsk]
    unfold pvk prz
    split
    · rename_i e
      rw [ps_stay _ _ (n + 1) (n + 1 + 1) (by omega) (fun j hj => vsk_far _ _ _ _ (by omega)), ih]
      simp [pvk]
    · have h := ps_mul (vsk xs k n) (lin (xs n)) y (n + 1) 2 (fun j hj => vsk_far _ _ _ _ (by omega)) (lin_b _)
      have h2 : ps (mul (vsk xs k n) (lin (xs n))) y (n + 1 + 2) = ps (mul (vsk xs k n) (lin (xs n))) y (n + 1 + 1) := ps_stay _ _ (n + 1 + 1) (n + 1 + 2) (by omega) (fun j hj => by
        rw [mul_lin]
        unfold Pol.sub Pol.sh Pol.sc
        rw [if_neg (by omega), vsk_far _ _ _ _ (show n < j - 1 by omega), vsk_far _ _ _ _ (show n < j by omega)]
        simp)
      rw [← h2, h, ih, ps_lin]
      rfl
theorem ps_vsk' (xs : Nat → Int) (k : Nat) (y : Int) (n : Nat) (hk : k < n) : ps (vsk xs k n) y n = pvk xs k y n := by
  rw [← ps_vsk, ps_stay _ _ n (n + 1) (by omega) (fun j hj => vsk_zero _ _ _ _ hk hj)]
theorem pvk_other {xs : Nat → Int} {k j n : Nat} (hj : j < n) (h : j ≠ k) : pvk xs k (xs j) n = 0 := by
  unfold pvk
  refine prz_zero hj ?_
  simp [h]

theorem fs_at {p : Nat} (xs ys : List Int) (j i : Nat) (hj : j < xs.length) (hi : i ≤ xs.length) : ps (FS p xs ys i) (zat xs j) xs.length = if j < i then fc p xs ys j * pvk (zat xs) j (zat xs j) xs.length else 0 := by
  induction i with
  | zero => rw [FS, ps_zero]; simp
  | succ i ih =>
    rw [FS, ps_add, ps_sc, ih (by omega), ps_vsk' _ _ _ _ (by omega)]
    by_cases e : j = i
    · subst e
      rw [if_neg (by omega), if_pos (by omega)]
      omega
    · rw [pvk_other hj e]
      by_cases h : j < i
      · rw [if_pos h, if_pos (by omega)]; simp
      · rw [if_neg h, if_neg (by omega)]; simp

/-- the polynomial through the points is there what it should be -/
theorem pfit_at {p : Nat} (hp : Num.Prime p) (h3 : 3 ≤ p) (xs ys : List Int) (hu : ∀ i j, i < j → j < xs.length → ¬ (p : Int) ∣ zat xs j - zat xs i) (j : Nat) (hj : j < xs.length) : (p : Int) ∣ ps (FS p xs ys xs.length) (zat xs j) xs.length - zat ys j := by
  rw [fs_at xs ys j xs.length hj (Nat.le_refl _), if_pos hj]
  obtain ⟨P, hP⟩ : ∃ P, P = pvk (zat xs) j (zat xs j) xs.length := ⟨_, rfl⟩
  rw [← hP]
  have hev : (p : Int) ∣ evz p (vskl p xs j xs.length) (zat xs j) - P := by
    unfold vskl
    rw [evz_mk h3, ps_vsk, ← hP]
    exact emod_dvd p P
  have hnd : ¬ (p : Int) ∣ P := by
    rw [hP]
    refine prz_prime hp (fun i hi => ?_) ?_
    · split
      · intro h
        have := Int.le_of_dvd (by omega) h
        omega
      · rename_i hne
        rcases Nat.lt_or_gt_of_ne hne with g | g
        · exact hu i j g hj
        · intro h
          apply hu j i g hi
          have := Int.dvd_neg.2 h
          rwa [show -(zat xs j - zat xs i) = zat xs i - zat xs j from by omega] at this
    · intro h
      have := Int.le_of_dvd (by omega) h
      omega
  have hne : ¬ (p : Int) ∣ evz p (vskl p xs j xs.length) (zat xs j) := fun h => hnd (by
    have := Int.dvd_sub h hev
    rwa [show evz p (vskl p xs j xs.length) (zat xs j) - (evz p (vskl p xs j xs.length) (zat xs j) - P) = P from by omega] at this)
  have hinv := invn_dvd hp h3 hne
  obtain ⟨V, hV⟩ : ∃ V, V = evz p (vskl p xs j xs.length) (zat xs j) := ⟨_, rfl⟩
  rw [← hV] at hev hinv
  have hfc : (p : Int) ∣ fc p xs ys j - zat ys j * (invn p V : Int) := by
    unfold fc
    rw [← hV]
    exact emod_dvd p _
  generalize (invn p V : Int) = I at *
  generalize fc p xs ys j = C at *
  generalize zat ys j = Y at *
  obtain ⟨a, ha⟩ := hev
  obtain ⟨b, hb⟩ := hinv
  obtain ⟨c, hc⟩ := hfc
  refine ⟨c * P + Y * b - Y * I * a, ?_⟩
  have e1 : C = (p : Int) * c + Y * I := by omega
  have e2 : V = (p : Int) * a + P := by omega
  rw [e2] at hb
  have e3 : I * P = (p : Int) * b + 1 - I * ((p : Int) * a) := by
    have : I * ((p : Int) * a + P) = I * ((p : Int) * a) + I * P := Int.mul_add _ _ _
    omega
  rw [e1]
  have k1 : ((p : Int) * c + Y * I) * P - Y = (p : Int) * c * P + Y * (I * P) - Y := by grind
  rw [k1, e3]
  grind

/-- two of few places that agree at as many unlike elements agree everywhere -/
theorem agree {p : Nat} (hp : Num.Prime p) (n : Nat) (f g : S) (xs : Nat → Int) (hu : ∀ i j, i < j → j < n → ¬ (p : Int) ∣ xs j - xs i) (h : ∀ i, i < n → (p : Int) ∣ ps f (xs i) n - ps g (xs i) n) (x : Int) : (p : Int) ∣ ps f x n - ps g x n := by
  have hz := roots hp n (Pol.sub f g) xs hu (fun i hi => by
    have := h i hi
    rw [ps_sm, ps_sm] at this
    rw [ps_sm]
    have e : sm (fun j => Pol.sub f g j * xs i ^ j) n = sm (fun j => f j * xs i ^ j) n - sm (fun j => g j * xs i ^ j) n := by
      have h1 := sm_add (fun j => Pol.sub f g j * xs i ^ j) (fun j => g j * xs i ^ j) n
      rw [show (fun j => Pol.sub f g j * xs i ^ j + g j * xs i ^ j) = (fun j => f j * xs i ^ j) from funext fun j => by unfold Pol.sub; grind] at h1
      omega
    rw [e]
    exact this)
  exact ps_congr x n (fun j hj => hz j hj)

/-- a straight one -/
def str (a b : Int) : S := fun j => if j = 0 then a else if j = 1 then b - a else 0
theorem str_b (a b : Int) : ∀ j, 2 ≤ j → str a b j = 0 := fun j hj => by unfold str; rw [if_neg (by omega), if_neg (by omega)]
theorem ps_str (a b x : Int) : ps (str a b) x 2 = a * (1 - x) + b * x := by
  simp [ps, str]
  grind
/-- the product of d straight ones -/
def strs (a b : Nat → Int) : Nat → S
  | 0 => Pol.one
  | d + 1 => Pol.mul (strs a b d) (str (a d) (b d))
theorem strs_b (a b : Nat → Int) (d : Nat) : ∀ j, d + 1 ≤ j → strs a b d j = 0 := by
  induction d with
  | zero => intro j hj; unfold strs Pol.one; rw [if_neg (by omega)]
  | succ d ih => intro j hj; exact ml_zero_beyond _ _ (d + 1) 2 ih (str_b _ _) j (by omega)
theorem ps_strs (a b : Nat → Int) (x : Int) (d : Nat) : ps (strs a b d) x (d + 1) = prz (fun k => a k * (1 - x) + b k * x) d := by
  induction d with
  | zero => simp [strs, prz, ps, Pol.one]
  | succ d ih =>
    rw [strs, prz, ← ih, ← ps_str, ← ps_mul _ _ _ (d + 1) 2 (strs_b a b d) (str_b _ _), ← ps_stay (Pol.mul (strs a b d) (str (a d) (b d))) x (d + 1 + 1) (d + 1 + 2) (by omega) (strs_b a b (d + 1))]
/-- their sum over h places -/
def sstrs (a b : Nat → Nat → Int) (d : Nat) : Nat → S
  | 0 => Pol.zero
  | h + 1 => Pol.add (sstrs a b d h) (strs (fun k => a k h) (fun k => b k h) d)
theorem ps_sstrs (a b : Nat → Nat → Int) (x : Int) (d h : Nat) : ps (sstrs a b d h) x (d + 1) = sm (fun i => prz (fun k => a k i * (1 - x) + b k i * x) d) h := by
  induction h with
  | zero => rw [sstrs, ps_zero]; rfl
  | succ h ih => rw [sstrs, ps_add, ih, ps_strs]; rfl

/-- what the sum is, its first variable being x -/
def tqx (t : Nat → Nat → Int) (d h : Nat) (x : Int) : Int := sm (fun i => prz (fun k => t k i * (1 - x) + t k (i + h) * x) d) h
theorem sm_split (f : Nat → Int) (m n : Nat) : sm f (m + n) = sm f m + sm (fun i => f (m + i)) n := by
  induction n with
  | zero => simp [sm]
  | succ n ih => rw [← Nat.add_assoc, sm, ih, sm]; omega
/-- at 0 and at 1 it has the whole sum -/
theorem tqx_ends (t : Nat → Nat → Int) (d h : Nat) : tqx t d h 0 + tqx t d h 1 = sm (fun i => prz (fun k => t k i) d) (h + h) := by
  rw [sm_split]
  unfold tqx
  congr 1
  · apply sm_same; intro i _; apply prz_same; intro k _; simp
  · apply sm_same; intro i _; apply prz_same; intro k _; simp [Nat.add_comm]
/-- whatever of few places agrees with it at as many unlike elements agrees with it everywhere -/
theorem tqx_agree {p : Nat} (hp : Num.Prime p) (t : Nat → Nat → Int) (d h : Nat) (f : S) (xs : Nat → Int) (hu : ∀ i j, i < j → j < d + 1 → ¬ (p : Int) ∣ xs j - xs i) (hf : ∀ i, i < d + 1 → (p : Int) ∣ ps f (xs i) (d + 1) - tqx t d h (xs i)) (x : Int) : (p : Int) ∣ ps f x (d + 1) - tqx t d h x := by
  have h1 := agree hp (d + 1) f (sstrs (fun k i => t k i) (fun k i => t k (i + h)) d h) xs hu (fun i hi => by rw [ps_sstrs]; exact hf i hi) x
  rw [ps_sstrs] at h1
  exact h1

/-! ## extensions -/
/-- a place's bits, each by its factor -/
def wgt (at' : Nat → Int) (v i : Nat) : Int := prz (fun k => if (i / 2 ^ k) % 2 = 0 then 1 - at' (v - 1 - k) else at' (v - 1 - k)) v
/-- what a table is at a point -/
def ext (t at' : Nat → Int) (v : Nat) : Int := sm (fun i => t i * wgt at' v i) (2 ^ v)
theorem hi_bit {v i k : Nat} (hk : k < v) : (i + 2 ^ v) / 2 ^ k % 2 = i / 2 ^ k % 2 := by
  obtain ⟨d, rfl⟩ : ∃ d, v = k + 1 + d := ⟨v - k - 1, by omega⟩
  have e : 2 ^ (k + 1 + d) = 2 ^ k * (2 * 2 ^ d) := by rw [Nat.pow_add, Nat.pow_succ, Nat.mul_assoc]
  rw [e, Nat.add_mul_div_left _ _ (Nat.two_pow_pos k)]
  omega
theorem wgt_low (at' : Nat → Int) (v i : Nat) : prz (fun k => if (i / 2 ^ k) % 2 = 0 then 1 - at' (v + 1 - 1 - k) else at' (v + 1 - 1 - k)) v = wgt (fun j => at' (j + 1)) v i := by
  unfold wgt
  refine prz_same (fun k hk => ?_)
  rw [show v + 1 - 1 - k = v - 1 - k + 1 from by omega]
theorem wgt_lo (at' : Nat → Int) {v i : Nat} (h : i < 2 ^ v) : wgt at' (v + 1) i = wgt (fun j => at' (j + 1)) v i * (1 - at' 0) := by
  unfold wgt
  rw [prz, wgt_low]
  rw [show v + 1 - 1 - v = 0 from by omega, Nat.div_eq_of_lt h]
  rfl
theorem wgt_hi (at' : Nat → Int) {v i : Nat} (h : i < 2 ^ v) : wgt at' (v + 1) (2 ^ v + i) = wgt (fun j => at' (j + 1)) v i * at' 0 := by
  unfold wgt
  rw [prz, wgt_low]
  have e : (2 ^ v + i) / 2 ^ v % 2 = 1 := by
    rw [Nat.add_div_left _ (Nat.two_pow_pos v), Nat.div_eq_of_lt h]
  rw [show v + 1 - 1 - v = 0 from by omega, e]
  congr 1
  unfold wgt
  refine prz_same (fun k hk => ?_)
  rw [Nat.add_comm, hi_bit hk]
/-- the first variable let be what it is -/
theorem ext_succ (t at' : Nat → Int) (v : Nat) : ext t at' (v + 1) = ext (fun i => t i * (1 - at' 0) + t (i + 2 ^ v) * at' 0) (fun j => at' (j + 1)) v := by
  unfold ext
  rw [show 2 ^ (v + 1) = 2 ^ v + 2 ^ v from by rw [Nat.pow_succ]; omega, sm_split]
  have h1 : sm (fun i => t i * wgt at' (v + 1) i) (2 ^ v) = sm (fun i => t i * (1 - at' 0) * wgt (fun j => at' (j + 1)) v i) (2 ^ v) := sm_same (fun i hi => by rw [wgt_lo at' hi]; grind)
  have h2 : sm (fun i => t (2 ^ v + i) * wgt at' (v + 1) (2 ^ v + i)) (2 ^ v) = sm (fun i => t (i + 2 ^ v) * at' 0 * wgt (fun j => at' (j + 1)) v i) (2 ^ v) := sm_same (fun i hi => by rw [wgt_hi at' hi, Nat.add_comm]; grind)
  rw [h1, h2, ← sm_add]
  exact sm_same (fun i _ => by grind)
theorem ext_zero (t at' : Nat → Int) : ext t at' 0 = t 0 := by simp [ext, sm, wgt, prz]
theorem ext_congr {p : Nat} {t u at' bt : Nat → Int} {v : Nat} (h : ∀ i, i < 2 ^ v → (p : Int) ∣ t i - u i) (k : ∀ j, j < v → (p : Int) ∣ at' j - bt j) : (p : Int) ∣ ext t at' v - ext u bt v := by
  unfold ext
  refine sm_congr (fun i hi => dvd_mul_sub (h i hi) (prz_congr (fun b hb => ?_)))
  have := k (v - 1 - b) (by omega)
  split
  · rwa [show 1 - at' (v - 1 - b) - (1 - bt (v - 1 - b)) = -(at' (v - 1 - b) - bt (v - 1 - b)) from by omega, Int.dvd_neg]
  · exact this
theorem ext_same {t u at' bt : Nat → Int} {v : Nat} (h : ∀ i, i < 2 ^ v → t i = u i) (k : ∀ j, j < v → at' j = bt j) : ext t at' v = ext u bt v := by
  unfold ext
  refine sm_same (fun i hi => ?_)
  rw [h i hi]
  congr 1
  exact prz_same (fun b hb => by rw [k (v - 1 - b) (by omega)])
end Go.Proofs.YtaapbopcfpihbabGreatDoor.Sum
