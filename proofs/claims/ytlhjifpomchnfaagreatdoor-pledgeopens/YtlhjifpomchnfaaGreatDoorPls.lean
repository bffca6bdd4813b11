
import Derived.Test.YtlhjifpomchnfaaGreatDoorFld
import Derived.Test.YtlhjifpomchnfaaGreatDoorPlain
import Derived.Deep.OwnRows
import Derived.RegionTactic
import Derived.Deep.RegionWith
import Derived.BigRegion
import Derived.Deep.QuietTactic
import Derived.BigQuiet
import Derived.Laws.AppendOwnNone
set_option maxRecDepth 1000000
set_option maxHeartbeats 8000000
namespace Go.Proofs.YtlhjifpomchnfaaGreatDoor
open Go.RowKit
def RowF (P : Nat -> Prop) (w : World) (a : Option Addr) (n : Nat) (f : Nat -> Int) : Prop :=
 ∀ k, k < n -> ∃ b o, a = some ⟨b, o, none⟩ /\ P b /\ w.cell? ⟨b, o + k, none⟩ = some (.int .i64 (f k))
def FitsF (n : Nat) (f : Nat -> Int) : Prop := ∀ j, j < n -> -9223372036854775808 <= f j /\ f j <= 9223372036854775807
theorem RowB.f {n0 : Nat} {w : World} {a : Option Addr} {zs : List Int} (h : RowB n0 w a zs) : RowF (· < n0) w a zs.length (zat zs) := h
def evz (p : Nat) (zs : List Int) (x : Int) : Int := Pol.ps (zat zs) x zs.length % (p : Int)
theorem evz_bounds (p : Nat) (zs : List Int) (x : Int) (h3 : 3 <= p) : 0 <= evz p zs x /\ evz p zs x < p := emod_bounds _ p h3
def hzm (p : Nat) (f : Nat -> Int) (x : Int) (n k : Nat) : Int := Pol.hz f x n k % (p : Int)
theorem hzm_succ (p : Nat) (f : Nat -> Int) (x : Int) (n k : Nat) : (hzm p f x n k * x % (p : Int) + f (n - 1 - k)) % (p : Int) = hzm p f x n (k + 1) := by
 unfold hzm
 rw [Pol.hz, Int.mul_emod, Int.emod_emod_of_dvd _ (Int.dvd_refl _), <- Int.mul_emod, Int.add_emod, Int.emod_emod_of_dvd _ (Int.dvd_refl _), <- Int.add_emod]
theorem eval_any (p b cap : Nat) (P : Nat -> Prop) (a : Option Addr) (zs : List Int) (x : Int) (w : World) (h3 : 3 <= p) (hm : p <= 2147483647) (hp : w.cell? ⟨b, 0, none⟩ = some (.int .i64 p))
  (hn : zs.length <= 281474976710656) (hfit : Fits zs) (hx1 : -9223372036854775808 <= x) (hx2 : x <= 9223372036854775807) (hrow : RowP P w a zs) :
  Calls Tryz.prog 108 #[.pointer (some ⟨b, 0, none⟩), .slice a zs.length cap, .int .i64 x] w fun e w' => e = .returned (.int .i64 (evz p zs x)) /\ ∃ n, w' = w.drewN n := by
 have HF := hid hfit
 have HR := hid hrow
 have HE : Hid (hzm p (zat zs) x zs.length zs.length = evz p zs x) := by unfold Hid hzm evz; rw [Pol.hz_ps]
 clear hfit hrow
 go_enter Tryz.func108, Tryz.ntmps108
 go_wp2_with fail
 go_loopw [7, 11] (fun sv iv wr => ∃ k n : Nat, k <= zs.length /\ iv = .int .i64 k /\ sv = .int .i64 (hzm p (zat zs) x zs.length k) /\ Hid (wr = w.drewN n)) (fun _ iv _ => zs.length - (intOf iv).toNat)
 case atStart => exact ⟨0, 0, Nat.zero_le _, rfl, by simp [hzm, Pol.hz], rfl⟩
 case round =>
  obtain ⟨k, n, hk, rfl, rfl, HW⟩ := hrel
  have hpc : wr.cell? ⟨b, 0, none⟩ = some (.int .i64 p) := by rw [HW.out]; exact hp
  by_cases hlt : k < zs.length
  ·have hlt2 : (k : Int) < (zs.length : Int) := by omega
   have e1 : (zs.length : Int) - 1 - (k : Int) = ((zs.length - 1 - k : Nat) : Int) := by omega
   have hlt3 : ((zs.length - 1 - k : Nat) : Int) < (zs.length : Int) := by omega
   obtain ⟨bl, ol, rfl, hbl, hcl⟩ := HR.out (zs.length - 1 - k) (by omega)
   have hcl2 : wr.cell? ⟨bl, ol + (zs.length - 1 - k), none⟩ = some (.int .i64 (zat zs (zs.length - 1 - k))) := by rw [HW.out]; exact hcl
   have HY := HF.out (zs.length - 1 - k) (by omega)
   have HS := hid (hzm_succ p (zat zs) x zs.length k)
   have hb1 := emod_bounds (Pol.hz (zat zs) x zs.length k) p h3
   have hb2 := emod_bounds (hzm p (zat zs) x zs.length k * x) p h3
   rw [show Pol.hz (zat zs) x zs.length k % (p : Int) = hzm p (zat zs) x zs.length k from rfl] at hb1
   have HM : Hid (∀ w1 : World, w1.cell? ⟨b, 0, none⟩ = some (.int .i64 p) -> Calls Tryz.prog 87 #[.pointer (some ⟨b, 0, none⟩), .int .i64 (hzm p (zat zs) x zs.length k), .int .i64 x] w1 fun e w' => e = .returned (.int .i64 (hzm p (zat zs) x zs.length k * x % p)) /\ w' = w1) :=
    fun w1 h => mul_any p b _ _ w1 h3 hm h (by omega) (by omega) hx1 hx2
   have HA : Hid (∀ w1 : World, w1.cell? ⟨b, 0, none⟩ = some (.int .i64 p) -> Calls Tryz.prog 86 #[.pointer (some ⟨b, 0, none⟩), .int .i64 (hzm p (zat zs) x zs.length k * x % (p : Int)), .int .i64 (zat zs (zs.length - 1 - k))] w1 fun e w' => e = .returned (.int .i64 ((hzm p (zat zs) x zs.length k * x % (p : Int) + zat zs (zs.length - 1 - k)) % p)) /\ w' = w1) :=
    fun w1 h => add_any p b _ _ w1 h3 hm h (by omega) (by omega) HY.1 HY.2
   rw [HS.out] at HA
   generalize hzm p (zat zs) x zs.length k * x % (p : Int) = hx at *
   generalize zat zs (zs.length - 1 - k) = y at *
   generalize hzm p (zat zs) x zs.length k = h0 at *
   generalize zs.length - 1 - k = j at *
   clear HS hcl
   go_wp2_with fail
   go_quiet (first
    | (go_at_call 87; exact Calls.quiet_of_same (HM.out _ hpc))
    | (go_at_call 86; exact Calls.quiet_of_same (HA.out _ hpc)))
   go_wp2_with fail
   go_roundw
   case rel => exact ⟨k + 1, _, by omega, by go_num, rfl, by unfold Hid; rw [HW.out, World.drewN_drewN]⟩
   case measure => simp [intOf]; omega
  ·have hlt2 : ¬ (k : Int) < (zs.length : Int) := by omega
   obtain rfl : k = zs.length := by omega
   go_wp2_with fail
   go_ret
   exact ⟨ret_int HE.out, n, HW.out⟩
def psm (p : Nat) (f : Nat -> Int) (x : Int) (k : Nat) : Int := Pol.ps f x k % (p : Int)
def pwz (p : Nat) (x : Int) (k : Nat) : Int := x ^ k % (p : Int)
theorem psm_succ (p : Nat) (f : Nat -> Int) (x : Int) (k : Nat) : (psm p f x k + f k * pwz p x k % (p : Int)) % (p : Int) = psm p f x (k + 1) := by
 unfold psm pwz
 rw [Pol.ps, Int.mul_emod (f k), Int.emod_emod_of_dvd _ (Int.dvd_refl _), <- Int.mul_emod, Int.add_emod, Int.emod_emod_of_dvd _ (Int.dvd_refl _), Int.emod_emod_of_dvd _ (Int.dvd_refl _), <- Int.add_emod]
theorem pwz_succ (p : Nat) (x : Int) (k : Nat) : pwz p x k * x % (p : Int) = pwz p x (k + 1) := by
 unfold pwz
 rw [Int.pow_succ, Int.mul_emod, Int.emod_emod_of_dvd _ (Int.dvd_refl _), <- Int.mul_emod]
theorem reval_any (p cap : Nat) (P : Nat -> Prop) (a : Option Addr) (zs : List Int) (x : Int) (w : World) (h3 : 3 <= p) (hm : p <= 2147483647)
  (hn : zs.length <= 281474976710656) (hfit : Fits zs) (hx1 : -9223372036854775808 <= x) (hx2 : x <= 9223372036854775807) (hrow : RowP P w a zs) :
  Calls Tryz.prog 173 #[.int .i64 p, .slice a zs.length cap, .int .i64 x] w fun e w' => e = .returned (.int .i64 (evz p zs x)) /\ w' = w := by
 have HF := hid hfit
 have HR := hid hrow
 clear hfit hrow
 go_enter Tryz.func173, Tryz.ntmps173
 go_wp2_with fail
 go_loop [7, 8, 9] (fun sv pv iv => ∃ k : Nat, k <= zs.length /\ iv = .int .i64 k /\ sv = .int .i64 (psm p (zat zs) x k) /\ pv = .int .i64 (pwz p x k)) (fun _ _ iv => zs.length - (intOf iv).toNat)
 case atStart => exact ⟨0, Nat.zero_le _, rfl, by simp [psm, Pol.ps], by
  have : pwz p x 0 = 1 := by unfold pwz; rw [Int.pow_zero]; exact Int.emod_eq_of_lt (by omega) (by omega)
  rw [this]⟩
 case round =>
  obtain ⟨k, hk, rfl, rfl, rfl⟩ := hrel
  by_cases hlt : k < zs.length
  ·have hlt2 : (k : Int) < (zs.length : Int) := by omega
   obtain ⟨bl, ol, rfl, hbl, hcl⟩ := HR.out k hlt
   have HY := HF.out k hlt
   have HS := hid (psm_succ p (zat zs) x k)
   have HQ := hid (pwz_succ p x k)
   obtain ⟨hs1, hs2⟩ := emod_bounds (Pol.ps (zat zs) x k) p h3
   rw [show Pol.ps (zat zs) x k % (p : Int) = psm p (zat zs) x k from rfl] at hs1 hs2
   obtain ⟨hq1, hq2⟩ := emod_bounds (x ^ k) p h3
   rw [show x ^ k % (p : Int) = pwz p x k from rfl] at hq1 hq2
   obtain ⟨hm1, hm2⟩ := emod_bounds (zat zs k * pwz p x k) p h3
   have HM1 := hid (rmul_any p (zat zs k) (pwz p x k) w h3 hm HY.1 HY.2 (by omega) (by omega))
   have HM2 := hid (rmul_any p (pwz p x k) x w h3 hm (by omega) (by omega) hx1 hx2)
   generalize zat zs k * pwz p x k % (p : Int) = yq at *
   generalize zat zs k = y at *
   generalize pwz p x k * x % (p : Int) = qx at *
   generalize pwz p x k = qk at *
   generalize psm p (zat zs) x k = sk at *
   go_wp2_with fail
   refine HM1.out.mono ?_
   rintro e w1 ⟨rfl, rfl⟩
   go_wp2_with fail
   refine HM2.out.mono ?_
   rintro e w1 ⟨rfl, rfl⟩
   go_wp2_with fail
   go_round
   case rel => exact ⟨k + 1, by omega, by go_num, by rw [<- HS.out], by rw [<- HQ.out]⟩
   case measure => simp [intOf]; omega
  ·have hlt2 : ¬ (k : Int) < (zs.length : Int) := by omega
   obtain rfl : k = zs.length := by omega
   go_wp2_with fail
   go_ret
   exact ⟨rfl, rfl⟩
theorem heap_lt {w : World} {b : Nat} {v : Value} (hp : w.cell? ⟨b, 0, none⟩ = some v) : b < w.heap.size := by
 rcases Nat.lt_or_ge b w.heap.size with g | g
 ·exact g
 ·simp [World.cell?, Array.getElem?_eq_none g] at hp
theorem ints_same (n0 n1 : Nat) (zs : List Int) (a b : Option Addr) (ca cb : Nat) (w : World) (ha : RowB n0 w a zs) (hb : RowB n1 w b zs) (hx : zs.length <= 9223372036854775807) :
  Calls Tryz.prog 16 #[.slice a zs.length ca, .slice b zs.length cb] w fun e w' => e = .returned (.bool true) /\ ∃ n, w' = w.drewN n :=
 (ints_any zs zs _ _ w (rowZ_of_B ca ha) (rowZ_of_B cb hb) hx hx).mono fun _ _ h => ⟨by rw [h.1, decide_eq_true rfl], h.2⟩
end Go.Proofs.YtlhjifpomchnfaaGreatDoor
