/- What package poly's Eval and Derive answer, and attestref1's Eval. -/
import Derived.Test.YtfombbbiilalpabDoorPolB
import Derived.Deep.QuietTactic
import Derived.BigQuiet
namespace Go.Proofs.YtfombbbiilalpabDoor
open Go.RowKit

/-- what a polynomial is at an element -/
def evz (p : Nat) (zs : List Int) (x : Int) : Int := Pol.ps (zat zs) x zs.length % (p : Int)
theorem evz_bounds (p : Nat) (zs : List Int) (x : Int) (h3 : 3 ≤ p) : 0 ≤ evz p zs x ∧ evz p zs x < p := emod_bounds _ p h3

def hzm (p : Nat) (f : Nat → Int) (x : Int) (n k : Nat) : Int := Pol.hz f x n k % (p : Int)
theorem hzm_succ (p : Nat) (f : Nat → Int) (x : Int) (n k : Nat) : (hzm p f x n k * x % (p : Int) + f (n - 1 - k)) % (p : Int) = hzm p f x n (k + 1) := by
  unfold hzm
  rw [Pol.hz, Int.mul_emod, Int.emod_emod_of_dvd _ (Int.dvd_refl _), ← Int.mul_emod, Int.add_emod, Int.emod_emod_of_dvd _ (Int.dvd_refl _), ← Int.add_emod]

set_option maxHeartbeats 1000000 in
theorem eval_any (p b cap : Nat) (P : Nat → Prop) (a : Option Addr) (zs : List Int) (x : Int) (w : World) (h3 : 3 ≤ p) (hm : p ≤ 2147483647) (hp : w.cell? ⟨b, 0, none⟩ = some (.int .i64 p))
    (hn : zs.length ≤ 281474976710656) (hfit : Fits zs) (hx1 : -9223372036854775808 ≤ x) (hx2 : x ≤ 9223372036854775807) (hrow : RowP P w a zs) :
    Calls Tryd.prog 27 #[.pointer (some ⟨b, 0, none⟩), .slice a zs.length cap, .int .i64 x] w fun e w' => e = .returned (.int .i64 (evz p zs x)) ∧ ∃ n, w' = w.drewN n := by
  have HF := hid hfit
  have HR := hid hrow
  have HE : Hid (hzm p (zat zs) x zs.length zs.length = evz p zs x) := by unfold Hid hzm evz; rw [Pol.hz_ps]
  clear hfit hrow
  go_enter Tryd.func27, Tryd.ntmps27
  go_wp2_with fail
  go_loopw [7, 11] (fun sv iv wr => ∃ k n : Nat, k ≤ zs.length ∧ iv = .int .i64 k ∧ sv = .int .i64 (hzm p (zat zs) x zs.length k) ∧ Hid (wr = w.drewN n)) (fun _ iv _ => zs.length - (intOf iv).toNat)
  case atStart => exact ⟨0, 0, Nat.zero_le _, rfl, by simp [hzm, Pol.hz], rfl⟩
  case round =>
    obtain ⟨k, n, hk, rfl, rfl, HW⟩ := hrel
    have hpc : wr.cell? ⟨b, 0, none⟩ = some (.int .i64 p) := by rw [HW.out]; exact hp
    by_cases hlt : k < zs.length
    · have hlt2 : (k : Int) < (zs.length : Int) := by omega
      have e1 : (zs.length : Int) - 1 - (k : Int) = ((zs.length - 1 - k : Nat) : Int) := by omega
      have hlt3 : ((zs.length - 1 - k : Nat) : Int) < (zs.length : Int) := by omega
      obtain ⟨bl, ol, rfl, hbl, hcl⟩ := HR.out (zs.length - 1 - k) (by omega)
      have hcl2 : wr.cell? ⟨bl, ol + (zs.length - 1 - k), none⟩ = some (.int .i64 (zat zs (zs.length - 1 - k))) := by rw [HW.out]; exact hcl
      have HY := HF.out (zs.length - 1 - k) (by omega)
      have HS := hid (hzm_succ p (zat zs) x zs.length k)
      have hb1 := emod_bounds (Pol.hz (zat zs) x zs.length k) p h3
      have hb2 := emod_bounds (hzm p (zat zs) x zs.length k * x) p h3
      rw [show Pol.hz (zat zs) x zs.length k % (p : Int) = hzm p (zat zs) x zs.length k from rfl] at hb1
      have HM : Hid (∀ w1 : World, w1.cell? ⟨b, 0, none⟩ = some (.int .i64 p) → Calls Tryd.prog 40 #[.pointer (some ⟨b, 0, none⟩), .int .i64 (hzm p (zat zs) x zs.length k), .int .i64 x] w1 fun e w' => e = .returned (.int .i64 (hzm p (zat zs) x zs.length k * x % p)) ∧ w' = w1) :=
        fun w1 h => mul_any p b _ _ w1 h3 hm h (by omega) (by omega) hx1 hx2
      have HA : Hid (∀ w1 : World, w1.cell? ⟨b, 0, none⟩ = some (.int .i64 p) → Calls Tryd.prog 45 #[.pointer (some ⟨b, 0, none⟩), .int .i64 (hzm p (zat zs) x zs.length k * x % (p : Int)), .int .i64 (zat zs (zs.length - 1 - k))] w1 fun e w' => e = .returned (.int .i64 ((hzm p (zat zs) x zs.length k * x % (p : Int) + zat zs (zs.length - 1 - k)) % p)) ∧ w' = w1) :=
        fun w1 h => add_any p b _ _ w1 h3 hm h (by omega) (by omega) HY.1 HY.2
      rw [HS.out] at HA
      generalize hzm p (zat zs) x zs.length k * x % (p : Int) = hx at *
      generalize zat zs (zs.length - 1 - k) = y at *
      generalize hzm p (zat zs) x zs.length k = h0 at *
      generalize zs.length - 1 - k = j at *
      clear HS hcl
      go_wp2_with fail
      go_quiet (first
        | (go_at_call 40; exact Calls.quiet_of_same (HM.out _ hpc))
        | (go_at_call 45; exact Calls.quiet_of_same (HA.out _ hpc)))
      go_wp2_with fail
      go_roundw
      case rel => exact ⟨k + 1, _, by omega, by go_num, rfl, by unfold Hid; rw [HW.out, World.drewN_drewN]⟩
      case measure => simp [intOf]; omega
    · have hlt2 : ¬ (k : Int) < (zs.length : Int) := by omega
      obtain rfl : k = zs.length := by omega
      go_wp2_with fail
      go_ret
      exact ⟨ret_int HE.out, n, HW.out⟩

def psm (p : Nat) (f : Nat → Int) (x : Int) (k : Nat) : Int := Pol.ps f x k % (p : Int)
def pwz (p : Nat) (x : Int) (k : Nat) : Int := x ^ k % (p : Int)
theorem psm_succ (p : Nat) (f : Nat → Int) (x : Int) (k : Nat) : (psm p f x k + f k * pwz p x k % (p : Int)) % (p : Int) = psm p f x (k + 1) := by
  unfold psm pwz
  rw [Pol.ps, Int.mul_emod (f k), Int.emod_emod_of_dvd _ (Int.dvd_refl _), ← Int.mul_emod, Int.add_emod, Int.emod_emod_of_dvd _ (Int.dvd_refl _), Int.emod_emod_of_dvd _ (Int.dvd_refl _), ← Int.add_emod]
theorem pwz_succ (p : Nat) (x : Int) (k : Nat) : pwz p x k * x % (p : Int) = pwz p x (k + 1) := by
  unfold pwz
  rw [Int.pow_succ, Int.mul_emod, Int.emod_emod_of_dvd _ (Int.dvd_refl _), ← Int.mul_emod]

set_option maxHeartbeats 1000000 in
theorem reval_any (p cap : Nat) (P : Nat → Prop) (a : Option Addr) (zs : List Int) (x : Int) (w : World) (h3 : 3 ≤ p) (hm : p ≤ 2147483647)
    (hn : zs.length ≤ 281474976710656) (hfit : Fits zs) (hx1 : -9223372036854775808 ≤ x) (hx2 : x ≤ 9223372036854775807) (hrow : RowP P w a zs) :
    Calls Tryd.prog 28 #[.int .i64 p, .slice a zs.length cap, .int .i64 x] w fun e w' => e = .returned (.int .i64 (evz p zs x)) ∧ w' = w := by
  have HF := hid hfit
  have HR := hid hrow
  clear hfit hrow
  go_enter Tryd.func28, Tryd.ntmps28
  go_wp2_with fail
  go_loop [7, 8, 9] (fun sv pv iv => ∃ k : Nat, k ≤ zs.length ∧ iv = .int .i64 k ∧ sv = .int .i64 (psm p (zat zs) x k) ∧ pv = .int .i64 (pwz p x k)) (fun _ _ iv => zs.length - (intOf iv).toNat)
  case atStart => exact ⟨0, Nat.zero_le _, rfl, by simp [psm, Pol.ps], by
    have : pwz p x 0 = 1 := by unfold pwz; rw [Int.pow_zero]; exact Int.emod_eq_of_lt (by omega) (by omega)
    rw [this]⟩
  case round =>
    obtain ⟨k, hk, rfl, rfl, rfl⟩ := hrel
    by_cases hlt : k < zs.length
    · have hlt2 : (k : Int) < (zs.length : Int) := by omega
      obtain ⟨bl, ol, rfl, hbl, hcl⟩ := HR.out k hlt
      have HY := HF.out k hlt
      have HS := hid (psm_succ p (zat zs) x k)
      have HQ := hid (pwz_succ p x k)
      obtain ⟨hs1, hs2⟩ := emod_bounds (Pol.ps (zat zs) x k) p h3
      rw [show Pol.ps (zat zs) x k % (p : Int) = psm p (zat zs) x k from rfl] at hs1 hs2
      obtain ⟨hq1, hq2⟩ := emod_bounds (x ^ k) p h3
      rw [show x ^ k % (p : Int) = pwz p x k from rfl] at hq1 hq2
      obtain ⟨hm1, hm2⟩ := emod_bounds (zat zs k * pwz p x k) p h3
      have HM1 := hid (rmul_any p (zat zs k) (pwz p x k) w h3 hm HY.1 HY.2 (by omega) (by omega))
      have HM2 := hid (rmul_any p (pwz p x k) x w h3 hm (by omega) (by omega) hx1 hx2)
      generalize zat zs k * pwz p x k % (p : Int) = yq at *
      generalize zat zs k = y at *
      generalize pwz p x k * x % (p : Int) = qx at *
      generalize pwz p x k = qk at *
      generalize psm p (zat zs) x k = sk at *
      go_wp2_with fail
      refine HM1.out.mono ?_
      rintro e w1 ⟨rfl, rfl⟩
      go_wp2_with fail
      refine HM2.out.mono ?_
      rintro e w1 ⟨rfl, rfl⟩
      go_wp2_with fail
      go_round
      case rel => exact ⟨k + 1, by omega, by go_num, by rw [← HS.out], by rw [← HQ.out]⟩
      case measure => simp [intOf]; omega
    · have hlt2 : ¬ (k : Int) < (zs.length : Int) := by omega
      obtain rfl : k = zs.length := by omega
      go_wp2_with fail
      go_ret
      exact ⟨rfl, rfl⟩

/-- the slope's list -/
def pdv (p : Nat) (zs : List Int) : List Int := Pol.mk p (Pol.dv (Pol.cf zs)) (zs.length - 1)

theorem pdv_list (p : Nat) (zs : List Int) : (pdv p zs).length = tpn p (fun j => zat zs (j + 1) * ((j : Int) + 1)) (zs.length - 1) ∧ ∀ j, j < (pdv p zs).length → zat (pdv p zs) j = zat zs (j + 1) * ((j : Int) + 1) % (p : Int) :=
  ⟨Pol.mk_length _ _ _, fun j hj => by rw [pdv, Pol.mk_length] at hj; exact Pol.mk_at p _ _ j hj⟩

set_option maxHeartbeats 1000000 in
theorem derive_any (p b cap : Nat) (P : Nat → Prop) (a : Option Addr) (zs : List Int) (w : World) (h3 : 3 ≤ p) (hm : p ≤ 2147483647) (hp : w.cell? ⟨b, 0, none⟩ = some (.int .i64 p))
    (hn : zs.length ≤ 17592186044416) (hfit : Fits zs) (hrow : RowP P w a zs) (hP : ∀ k, P k → k < w.heap.size) :
    Calls Tryd.prog 29 #[.pointer (some ⟨b, 0, none⟩), .slice a zs.length cap] w fun e w' => ∃ cap,
      e = .returned (.slice (some ⟨w.heap.size, 0, none⟩) (pdv p zs).length cap) ∧ (pdv p zs).length ≤ cap ∧
      Cells w.heap.size 0 (pdv p zs).length (zat (pdv p zs)) w' ∧ Below w.heap.size w w' ∧ w'.heap.size = w.heap.size + 1 := by
  have hb : b < w.heap.size := by
    rcases Nat.lt_or_ge b w.heap.size with g | g
    · exact g
    · simp [World.cell?, Array.getElem?_eq_none g] at hp
  have HF := hid hfit
  have HR := hid hrow
  have HPP := hid hP
  obtain ⟨hl, hz⟩ := pdv_list p zs
  have hle := tpn_le p (fun j => zat zs (j + 1) * ((j : Int) + 1)) (zs.length - 1)
  rw [← hl] at hle
  have HZ := hid hz
  have HLN := hid hl
  have hmx : max (0 : Int) ((zs.length : Int) - 1) = ((zs.length - 1 : Nat) : Int) := by omega
  clear hfit hrow hP hz hl
  have hmk := fun n h1 h2 w => run_make_row' (P := Tryd.prog) 22 3 (.int .i64 0) 8 Tryd.underlying22 Tryd.infoInt rfl .i64 .i64 n h1 h2 w
  have hmk2 := hmk (zs.length - 1) (by omega) (by omega)
  clear hmk
  have hmm : zs.length - 1 < zs.length ∨ zs.length - 1 = 0 := by omega
  obtain ⟨m, hmd⟩ : ∃ m, m = zs.length - 1 := ⟨_, rfl⟩
  have HMD := hid hmd
  rw [← hmd] at hmx hmk2 hle HLN
  clear hmd hmm
  go_enter Tryd.func29, Tryd.ntmps29
  go_wp2_with fail
  go_loopw [14] (fun iv wr => ∃ (k : Nat) (o : Nat → Int), k ≤ m ∧ iv = .int .i64 k ∧ Hid (Cells w.heap.size 0 m o wr) ∧ Hid (∀ j, j < k → o j = zat zs (j + 1) * ((j : Int) + 1) % (p : Int)) ∧ Hid (Below w.heap.size w wr) ∧ wr.heap.size = w.heap.size + 1)
    (fun iv _ => m - (intOf iv).toNat)
  case atStart =>
    refine ⟨0, fun _ => 0, Nat.zero_le _, rfl, ⟨fun j hj => ?_, fun j hj => ?_⟩, fun j hj => by omega, ?_, by simp⟩
    · rw [World.cell?_alloc_at _ _ _ _ (by simp)]
      simp [madeCells, hj, Nat.mod_one]
    · simp
    · exact (Below.refl _ _).alloc (Nat.le_refl _) _
  case round =>
    obtain ⟨k, o, hk, rfl, hout, hoj, hbel, hsz⟩ := hrel
    have hml : m ≤ 17592186044416 := by have := HMD.out; omega
    by_cases hlt : k < m
    · have hlt2 : (k : Int) < (m : Int) := by omega
      have hk1 : k + 1 < zs.length := by have := HMD.out; omega
      have hlt3 : (k : Int) + 1 < (zs.length : Int) := by omega
      have e1 : ((k : Int) + 1).toNat = k + 1 := by omega
      obtain ⟨bl, ol, rfl, hbl, hcl⟩ := HR.out (k + 1) hk1
      have hcl2 := (hbel.out.cell (p := ⟨bl, ol + (k + 1), none⟩) (HPP.out _ hbl)).trans hcl
      have hok := hout.out.cells k hlt
      have hos := hout.out.soft k hlt
      rw [Nat.zero_add] at hok hos
      have hpc := (hbel.out.cell (p := ⟨b, 0, none⟩) hb).trans hp
      obtain ⟨hx1, hx2⟩ := HF.out (k + 1) hk1
      have HC := hid (hout.out.set (zat zs (k + 1) * ((k : Int) + 1) % (p : Int)) hlt)
      have HB := hid (hbel.out.setCell (p := ⟨w.heap.size, 0 + k, none⟩) (by simp) (.int .i64 (zat zs (k + 1) * ((k : Int) + 1) % (p : Int))))
      have HJ : Hid (∀ j, j < k + 1 → up o k (zat zs (k + 1) * ((k : Int) + 1) % (p : Int)) j = zat zs (j + 1) * ((j : Int) + 1) % (p : Int)) := fun j hj => by
        unfold up
        by_cases hjk : j = k
        · rw [if_pos hjk, hjk]
        · rw [if_neg hjk]; exact hoj.out j (by omega)
      rw [Nat.zero_add] at HC HB
      have HM := hid (mul_any p b (zat zs (k + 1)) ((k : Int) + 1) wr h3 hm hpc hx1 hx2 (by omega) (by omega))
      generalize zat zs (k + 1) * ((k : Int) + 1) % (p : Int) = z at *
      generalize zat zs (k + 1) = x at *
      clear hcl
      go_wp2_with fail
      refine HM.out.mono ?_
      rintro e w2 ⟨rfl, rfl⟩
      go_wp2_with fail
      go_roundw
      case rel => exact ⟨k + 1, _, by omega, by go_num, HC, HJ, HB, by simp [World.setCell]; exact hsz⟩
      case measure => simp [intOf]; omega
    · have hlt2 : ¬ (k : Int) < (m : Int) := by omega
      have hpc := (hbel.out.cell (p := ⟨b, 0, none⟩) hb).trans hp
      have HC := hid (hout.out.congr (fun j hj => hoj.out j (by omega)))
      have HW := hid (without_any p b w.heap.size m m (fun j => zat zs (j + 1) * ((j : Int) + 1) % (p : Int)) wr h3 hm hpc (by omega) (Nat.le_refl _)
        (fun j _ => by have := emod_bounds (zat zs (j + 1) * ((j : Int) + 1)) p h3; show -9223372036854775808 ≤ zat zs (j + 1) * ((j : Int) + 1) % (p : Int) ∧ zat zs (j + 1) * ((j : Int) + 1) % (p : Int) ≤ 9223372036854775807; omega) HC.out)
      have HE : Hid (tpn p (fun j => zat zs (j + 1) * ((j : Int) + 1) % (p : Int)) m = (pdv p zs).length) := (Pol.tp_mod p _ m).trans HLN.out.symm
      go_wp2_with fail
      refine HW.out.mono ?_
      rintro e w2 ⟨rfl, rfl⟩
      go_wp2_with fail
      go_ret
      exact ⟨m, ret_slice HE.out, hle, (HC.out.less hle).congr (fun j hj => (HZ.out j hj).symm), hbel.out, hsz⟩

end Go.Proofs.YtfombbbiilalpabDoor
