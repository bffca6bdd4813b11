/- What package poly's Eval and Derive answer, and attestref1's Eval. -/
import Derived.Test.YtidkhgplejglaacPolB
import Derived.Deep.QuietTactic
import Derived.BigQuiet
namespace Go.Proofs.Ytidkhgplejglaac
open Go.RowKit

/-- what a polynomial is at an element -/
def evz (p : Nat) (zs : List Int) (x : Int) : Int := Pol.ps (zat zs) x zs.length % (p : Int)
theorem evz_bounds (p : Nat) (zs : List Int) (x : Int) (h3 : 3 ≤ p) : 0 ≤ evz p zs x ∧ evz p zs x < p := emod_bounds _ p h3

def hzm (p : Nat) (f : Nat → Int) (x : Int) (n k : Nat) : Int := Pol.hz f x n k % (p : Int)
theorem hzm_succ (p : Nat) (f : Nat → Int) (x : Int) (n k : Nat) : (hzm p f x n k * x % (p : Int) + f (n - 1 - k)) % (p : Int) = hzm p f x n (k + 1) := by
  unfold hzm
  rw [Pol.hz, Int.mul_emod, Int.emod_emod_of_dvd _ (Int.dvd_refl _), ← Int.mul_emod, Int.add_emod, Int.emod_emod_of_dvd _ (Int.dvd_refl _), ← Int.add_emod]

set_option maxHeartbeats 1000000 in
theorem eval_any (p b cap : Nat) (P : Nat → Prop) (a : Option Addr) (zs : List Int) (x : Int) (w : World) (h3 : 3 ≤ p) (hm : p ≤ 2147483647) (hp : w.cell? ⟨b, 0, none⟩ = some (.int .i64 p))
    (hn : zs.length ≤ 281474976710656) (hfit : Fits zs) (hx1 : -9223372036854775808 ≤ x) (hx2 : x ≤ 9223372036854775807) (hrow : RowP P w a zs) :
    Calls Try.prog 6 #[.pointer (some ⟨b, 0, none⟩), .slice a zs.length cap, .int .i64 x] w fun e w' => e = .returned (.int .i64 (evz p zs x)) ∧ ∃ n, w' = w.drewN n := by
  have HF := hid hfit
  have HR := hid hrow
  have HE : Hid (hzm p (zat zs) x zs.length zs.length = evz p zs x) := by unfold Hid hzm evz; rw [Pol.hz_ps]
  clear hfit hrow
  go_enter Try.func6, Try.ntmps6
  go_wp2_with fail
  go_loopw [7, 11] (fun sv iv wr => ∃ k n : Nat, k ≤ zs.length ∧ iv = .int .i64 k ∧ sv = .int .i64 (hzm p (zat zs) x zs.length k) ∧ Hid (wr = w.drewN n)) (fun _ iv _ => zs.length - (intOf iv).toNat)
  case atStart => exact ⟨0, 0, Nat.zero_le _, rfl, by simp [hzm, Pol.hz], rfl⟩
  case round =>
    obtain ⟨k, n, hk, rfl, rfl, HW⟩ := hrel
    have hpc : wr.cell? ⟨b, 0, none⟩ = some (.int .i64 p) := by rw [HW.out]; exact hp
    by_cases hlt : k < zs.length
    · have hlt2 : (k : Int) < (zs.length : Int) := by omega
      have e1 : (zs.length : Int) - 1 - (k : Int) = ((zs.length - 1 - k : Nat) : Int) := by omega
      have hlt3 : ((zs.length - 1 - k : Nat) : Int) < (zs.length : Int) := by omega
      obtain ⟨bl, ol, rfl, hbl, hcl⟩ := HR.out (zs.length - 1 - k) (by omega)
      have hcl2 : wr.cell? ⟨bl, ol + (zs.length - 1 - k), none⟩ = some (.int .i64 (zat zs (zs.length - 1 - k))) := by rw [HW.out]; exact hcl
      have HY := HF.out (zs.length - 1 - k) (by omega)
      have HS := hid (hzm_succ p (zat zs) x zs.length k)
      have hb1 := emod_bounds (Pol.hz (zat zs) x zs.length k) p h3
      have hb2 := emod_bounds (hzm p (zat zs) x zs.length k * x) p h3
      rw [show Pol.hz (zat zs) x zs.length k % (p : Int) = hzm p (zat zs) x zs.length k from rfl] at hb1
      have HM : Hid (∀ w1 : World, w1.cell? ⟨b, 0, none⟩ = some (.int .i64 p) → Calls Try.prog 14 #[.pointer (some ⟨b, 0, none⟩), .int .i64 (hzm p (zat zs) x zs.length k), .int .i64 x] w1 fun e w' => e = .returned (.int .i64 (hzm p (zat zs) x zs.length k * x % p)) ∧ w' = w1) :=
        fun w1 h => mul_any p b _ _ w1 h3 hm h (by omega) (by omega) hx1 hx2
      have HA : Hid (∀ w1 : World, w1.cell? ⟨b, 0, none⟩ = some (.int .i64 p) → Calls Try.prog 15 #[.pointer (some ⟨b, 0, none⟩), .int .i64 (hzm p (zat zs) x zs.length k * x % (p : Int)), .int .i64 (zat zs (zs.length - 1 - k))] w1 fun e w' => e = .returned (.int .i64 ((hzm p (zat zs) x zs.length k * x % (p : Int) + zat zs (zs.length - 1 - k)) % p)) ∧ w' = w1) :=
        fun w1 h => add_any p b _ _ w1 h3 hm h (by omega) (by omega) HY.1 HY.2
      rw [HS.out] at HA
      generalize hzm p (zat zs) x zs.length k * x % (p : Int) = hx at *
      generalize zat zs (zs.length - 1 - k) = y at *
      generalize hzm p (zat zs) x zs.length k = h0 at *
      generalize zs.length - 1 - k = j at *
      clear HS hcl
      go_wp2_with fail
      go_quiet (first
        | (go_at_call 14; exact Calls.quiet_of_same (HM.out _ hpc))
        | (go_at_call 15; exact Calls.quiet_of_same (HA.out _ hpc)))
      go_wp2_with fail
      go_roundw
      case rel => exact ⟨k + 1, _, by omega, by go_num, rfl, by unfold Hid; rw [HW.out, World.drewN_drewN]⟩
      case measure => simp [intOf]; omega
    · have hlt2 : ¬ (k : Int) < (zs.length : Int) := by omega
      obtain rfl : k = zs.length := by omega
      go_wp2_with fail
      go_ret
      exact ⟨ret_int HE.out, n, HW.out⟩

def psm (p : Nat) (f : Nat → Int) (x : Int) (k : Nat) : Int := Pol.ps f x k % (p : Int)
def pwz (p : Nat) (x : Int) (k : Nat) : Int := x ^ k % (p : Int)
theorem psm_succ (p : Nat) (f : Nat → Int) (x : Int) (k : Nat) : (psm p f x k + f k * pwz p x k % (p : Int)) % (p : Int) = psm p f x (k + 1) := by
  unfold psm pwz
  rw [Pol.ps, Int.mul_emod (f k), Int.emod_emod_of_dvd _ (Int.dvd_refl _), ← Int.mul_emod, Int.add_emod, Int.emod_emod_of_dvd _ (Int.dvd_refl _), Int.emod_emod_of_dvd _ (Int.dvd_refl _), ← Int.add_emod]
theorem pwz_succ (p : Nat) (x : Int) (k : Nat) : pwz p x k * x % (p : Int) = pwz p x (k + 1) := by
  unfold pwz
  rw [Int.pow_succ, Int.mul_emod, Int.emod_emod_of_dvd _ (Int.dvd_refl _), ← Int.mul_emod]

/-- the slope's list -/
def pdv (p : Nat) (zs : List Int) : List Int := Pol.mk p (Pol.dv (Pol.cf zs)) (zs.length - 1)

theorem pdv_list (p : Nat) (zs : List Int) : (pdv p zs).length = tpn p (fun j => zat zs (j + 1) * ((j : Int) + 1)) (zs.length - 1) ∧ ∀ j, j < (pdv p zs).length → zat (pdv p zs) j = zat zs (j + 1) * ((j : Int) + 1) % (p : Int) :=
  ⟨Pol.mk_length _ _ _, fun j hj => by rw [pdv, Pol.mk_length] at hj; exact Pol.mk_at p _ _ j hj⟩

end Go.Proofs.Ytidkhgplejglaac
