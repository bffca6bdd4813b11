
import Derived.Test.YtjlngcmkgkiplaaGreatDoorFld
import Derived.Test.YtjlngcmkgkiplaaGreatDoorPlain
import Derived.Deep.OwnRows
import Derived.RegionTactic
import Derived.Deep.RegionWith
import Derived.BigRegion
import Derived.Deep.QuietTactic
import Derived.BigQuiet
import Derived.Laws.AppendOwnNone
set_option maxRecDepth 1000000
set_option maxHeartbeats 8000000
namespace Go.Proofs.YtjlngcmkgkiplaaGreatDoor
open Go.RowKit
def RowF (P : Nat -> Prop) (w : World) (a : Option Addr) (n : Nat) (f : Nat -> Int) : Prop :=
 ∀ k, k < n -> ∃ b o, a = some ⟨b, o, none⟩ /\ P b /\ w.cell? ⟨b, o + k, none⟩ = some (.int .i64 (f k))
def FitsF (n : Nat) (f : Nat -> Int) : Prop := ∀ j, j < n -> -9223372036854775808 <= f j /\ f j <= 9223372036854775807
def tpn (p : Nat) (f : Nat -> Int) (n : Nat) : Nat := Pol.tp p f n
theorem tpn_le (p : Nat) (f : Nat -> Int) (n : Nat) : tpn p f n <= n := Pol.tp_le p f n
theorem deg_any (p b n cap : Nat) (P : Nat -> Prop) (a : Option Addr) (f : Nat -> Int) (w : World) (h3 : 3 <= p) (hm : p <= 2147483647) (hp : w.cell? ⟨b, 0, none⟩ = some (.int .i64 p))
  (hn : n <= 9223372036854775807) (hfit : FitsF n f) (hrow : RowF P w a n f) :
  Calls Tryz.prog 112 #[.pointer (some ⟨b, 0, none⟩), .slice a n cap] w fun e w' => e = .returned (.int .i64 ((tpn p f n : Int) - 1)) /\ w' = w := by
 have HF := hid hfit
 have HR := hid hrow
 clear hfit hrow
 go_enter Tryz.func112, Tryz.ntmps112
 go_wp2_with fail
 go_loop [5] (fun iv => ∃ k : Nat, k <= n /\ iv = .int .i64 ((k : Int) - 1) /\ Hid (tpn p f n = tpn p f k)) (fun iv => (intOf iv + 1).toNat)
 case atStart => exact ⟨n, Nat.le_refl _, rfl, rfl⟩
 case round =>
  obtain ⟨k, hk, rfl, hT⟩ := hrel
  cases k with
  | zero =>
   have e0 : Hid ((tpn p f n : Int) - 1 = ((0 : Nat) : Int) - 1) := by unfold Hid; rw [hT.out]; rfl
   go_wp2_with fail
   go_ret
   exact ⟨ret_int (by rw [e0.out]; rfl), rfl⟩
  | succ j =>
   have hj : j < n := by omega
   have e1 : (((j + 1 : Nat) : Int) - 1) = (j : Int) := by omega
   rw [e1]
   have hj0 : (0 : Int) <= (j : Int) := by omega
   have hjn : (j : Int) < (n : Int) := by omega
   obtain ⟨bl, ol, rfl, _, hcl⟩ := HR.out j hj
   obtain ⟨hx1, hx2⟩ := HF.out j hj
   have HS : Hid (f j % (p : Int) = 0 -> tpn p f (j + 1) = tpn p f j) := fun h => by unfold tpn; rw [Pol.tp, if_pos h]
   have HE : Hid (f j % (p : Int) ≠ 0 -> tpn p f (j + 1) = j + 1) := fun h => by unfold tpn; rw [Pol.tp, if_neg h]
   generalize f j = x at *
   clear e1
   go_wp2_with fail
   refine (of_any p b x w h3 hm hp hx1 hx2).mono ?_
   rintro e w1 ⟨rfl, rfl⟩
   by_cases hz : x % (p : Int) = 0
   ·have hzb : (x % (p : Int) == 0) = true := by rw [hz]; rfl
    have HS2 := hid (hT.out.trans (HS.out hz))
    clear hz HS HE
    go_wp2_with fail
    go_round
    case rel => exact ⟨j, by omega, rfl, HS2⟩
    case measure => simp [intOf]
   ·have hzb : (x % (p : Int) == 0) = false := by rw [beq_eq_false_iff_ne]; exact hz
    have HS2 := hid (hT.out.trans (HE.out hz))
    clear hz HS HE
    go_wp2_with fail
    go_ret
    exact ⟨ret_int (by rw [HS2.out]; omega), rfl⟩
theorem trim_full (p b cap : Nat) (P : Nat -> Prop) (a : Option Addr) (zs : List Int) (w : World) (h3 : 3 <= p) (hm : p <= 2147483647) (hp : w.cell? ⟨b, 0, none⟩ = some (.int .i64 p))
  (hn : zs.length <= 35184372088832) (hfit : Fits zs) (hrow : RowP P w a zs) (hP : ∀ k, P k -> k < w.heap.size) :
  Calls Tryz.prog 86 #[.pointer (some ⟨b, 0, none⟩), .slice a zs.length cap] w fun e w' => e = .returned (.slice (some ⟨w.heap.size, 0, none⟩) (Pol.trim p zs).length (Pol.trim p zs).length) /\
   Cells w.heap.size 0 (Pol.trim p zs).length (zat (Pol.trim p zs)) w' /\ Below w.heap.size w w' /\ w'.heap.size = w.heap.size + 1 /\ w'.rowIs w.heap.size 3 (Pol.trim p zs).length (fun j => .int .i64 (zat (Pol.trim p zs) j)) := by
 have hb : b < w.heap.size := by
  rcases Nat.lt_or_ge b w.heap.size with g | g
  ·exact g
  ·simp [World.cell?, Array.getElem?_eq_none g] at hp
 have hd := hid (deg_any p b zs.length cap P a (zat zs) w h3 hm hp (by omega) hfit hrow)
 have HT : Hid (∀ j, j < (Pol.trim p zs).length -> zat (Pol.trim p zs) j = zat zs j % (p : Int)) := fun j hj => by
  rw [Pol.trim, Pol.mk_length] at hj
  exact Pol.mk_at p (Pol.cf zs) zs.length j hj
 have hlen : (Pol.trim p zs).length = tpn p (zat zs) zs.length := Pol.mk_length _ _ _
 have hle := tpn_le p (zat zs) zs.length
 rw [<- hlen] at hd hle
 have HF := hid hfit
 have HR := hid hrow
 have HPP := hid hP
 clear hfit hrow hlen hP
 have hmk := fun n h1 h2 w => run_make_row' (P := Tryz.prog) 26 3 (.int .i64 0) 8 Tryz.underlying26 Tryz.infoInt rfl .i64 .i64 n h1 h2 w
 have hmk2 := hmk (Pol.trim p zs).length (by omega) (by omega)
 clear hmk
 generalize (Pol.trim p zs).length = t at *
 generalize Pol.trim p zs = ts at *
 have e1 : (t : Int) - 1 + 1 = (t : Int) := by omega
 go_enter Tryz.func86, Tryz.ntmps86
 go_wp2_with fail
 refine hd.out.mono ?_
 rintro e w1 ⟨rfl, rfl⟩
 go_wp2_with fail
 go_loopw [14] (fun iv wr => ∃ (k : Nat) (o : Nat -> Int), k <= t /\ iv = .int .i64 k /\ Hid (Cells w1.heap.size 0 t o wr) /\ Hid (∀ j, j < k -> o j = zat ts j) /\ Hid (Below w1.heap.size w1 wr) /\ wr.heap.size = w1.heap.size + 1 /\ Hid (wr.rowIs w1.heap.size 3 t (fun j => .int .i64 (o j))))
  (fun iv _ => t - (intOf iv).toNat)
 case atStart =>
  refine ⟨0, fun _ => 0, Nat.zero_le _, rfl, ⟨fun j hj => ?_, fun j hj => ?_⟩, fun j hj => by omega, ?_, by simp, World.rowIs_made _ _ _ _⟩
  ·rw [World.cell?_alloc_at _ _ _ _ (by simp)]
   simp [madeCells, hj, Nat.mod_one]
  ·simp
  ·exact (Below.refl _ _).alloc (Nat.le_refl _) _
 case round =>
  obtain ⟨k, o, hk, rfl, hout, hoj, hbel, hsz, hri⟩ := hrel
  by_cases hlt : k < t
  ·have hlt2 : (k : Int) < (t : Int) := by omega
   have hlt3 : (k : Int) < (zs.length : Int) := by omega
   obtain ⟨bl, ol, rfl, hbl, hcl⟩ := HR.out k (by omega)
   have hbl2 := HPP.out _ hbl
   have hcl2 := (hbel.out.cell (p := ⟨bl, ol + k, none⟩) hbl2).trans hcl
   have hok := hout.out.cells k hlt
   have hos := hout.out.soft k hlt
   rw [Nat.zero_add] at hok hos
   have hpc := (hbel.out.cell (p := ⟨b, 0, none⟩) hb).trans hp
   obtain ⟨hx1, hx2⟩ := HF.out k (by omega)
   have HS := hid (HT.out k hlt)
   have HC := hid (hout.out.set (zat zs k % (p : Int)) hlt)
   have HB := hid (hbel.out.setCell (p := ⟨w1.heap.size, 0 + k, none⟩) (by simp) (.int .i64 (zat zs k % (p : Int))))
   have HJ : Hid (∀ j, j < k + 1 -> up o k (zat zs k % (p : Int)) j = zat ts j) := fun j hj => by
    unfold up
    by_cases hjk : j = k
    ·rw [if_pos hjk, hjk]; exact HS.out.symm
    ·rw [if_neg hjk]; exact hoj.out j (by omega)
   have HRI : Hid ((wr.setCell ⟨w1.heap.size, k, none⟩ (.int .i64 (zat zs k % (p : Int)))).rowIs w1.heap.size 3 t (fun j => .int .i64 (up o k (zat zs k % (p : Int)) j))) :=
    (hri.out.set k (.int .i64 (zat zs k % (p : Int)))).congr (fun j _ => by show (if j = k then _ else _) = Value.int .i64 (up o k _ j); unfold up; split <;> rfl)
   rw [Nat.zero_add] at HC HB
   generalize zat zs k = x at *
   clear hcl HS
   go_wp2_with fail
   refine (of_any p b x _ h3 hm hpc hx1 hx2).mono ?_
   rintro e w2 ⟨rfl, rfl⟩
   go_wp2_with fail
   go_roundw
   case rel => exact ⟨k + 1, _, by omega, by go_num, HC, HJ, HB, by simp [World.setCell]; exact hsz, HRI⟩
   case measure => simp [intOf]; omega
  ·have hlt2 : ¬ (k : Int) < (t : Int) := by omega
   go_wp2_with fail
   go_ret
   exact ⟨rfl, hout.out.congr (fun j hj => hoj.out j (by omega)), hbel.out, hsz, hri.out.congr (fun j hj => by rw [hoj.out j (by omega)])⟩
theorem ret_slice {a : Option Addr} {n m c : Nat} (h : n = m) : Ending.returned (.slice a n c) = .returned (.slice a m c) := by rw [h]
theorem can_fits {p : Nat} (hm : p <= 2147483647) {zs : List Int} (h : Pol.Can p zs) : Fits zs := fun j hj => by
 have := h.elem j hj
 have e : zat zs j = zs.getD j 0 := rfl
 omega
def evz (p : Nat) (zs : List Int) (x : Int) : Int := Pol.ps (zat zs) x zs.length % (p : Int)
theorem evz_bounds (p : Nat) (zs : List Int) (x : Int) (h3 : 3 <= p) : 0 <= evz p zs x /\ evz p zs x < p := emod_bounds _ p h3
def hzm (p : Nat) (f : Nat -> Int) (x : Int) (n k : Nat) : Int := Pol.hz f x n k % (p : Int)
theorem hzm_succ (p : Nat) (f : Nat -> Int) (x : Int) (n k : Nat) : (hzm p f x n k * x % (p : Int) + f (n - 1 - k)) % (p : Int) = hzm p f x n (k + 1) := by
 unfold hzm
 rw [Pol.hz, Int.mul_emod, Int.emod_emod_of_dvd _ (Int.dvd_refl _), <- Int.mul_emod, Int.add_emod, Int.emod_emod_of_dvd _ (Int.dvd_refl _), <- Int.add_emod]
theorem eval_any (p b cap : Nat) (P : Nat -> Prop) (a : Option Addr) (zs : List Int) (x : Int) (w : World) (h3 : 3 <= p) (hm : p <= 2147483647) (hp : w.cell? ⟨b, 0, none⟩ = some (.int .i64 p))
  (hn : zs.length <= 281474976710656) (hfit : Fits zs) (hx1 : -9223372036854775808 <= x) (hx2 : x <= 9223372036854775807) (hrow : RowP P w a zs) :
  Calls Tryz.prog 53 #[.pointer (some ⟨b, 0, none⟩), .slice a zs.length cap, .int .i64 x] w fun e w' => e = .returned (.int .i64 (evz p zs x)) /\ ∃ n, w' = w.drewN n := by
 have HF := hid hfit
 have HR := hid hrow
 have HE : Hid (hzm p (zat zs) x zs.length zs.length = evz p zs x) := by unfold Hid hzm evz; rw [Pol.hz_ps]
 clear hfit hrow
 go_enter Tryz.func53, Tryz.ntmps53
 go_wp2_with fail
 go_loopw [7, 11] (fun sv iv wr => ∃ k n : Nat, k <= zs.length /\ iv = .int .i64 k /\ sv = .int .i64 (hzm p (zat zs) x zs.length k) /\ Hid (wr = w.drewN n)) (fun _ iv _ => zs.length - (intOf iv).toNat)
 case atStart => exact ⟨0, 0, Nat.zero_le _, rfl, by simp [hzm, Pol.hz], rfl⟩
 case round =>
  obtain ⟨k, n, hk, rfl, rfl, HW⟩ := hrel
  have hpc : wr.cell? ⟨b, 0, none⟩ = some (.int .i64 p) := by rw [HW.out]; exact hp
  by_cases hlt : k < zs.length
  ·have hlt2 : (k : Int) < (zs.length : Int) := by omega
   have e1 : (zs.length : Int) - 1 - (k : Int) = ((zs.length - 1 - k : Nat) : Int) := by omega
   have hlt3 : ((zs.length - 1 - k : Nat) : Int) < (zs.length : Int) := by omega
   obtain ⟨bl, ol, rfl, hbl, hcl⟩ := HR.out (zs.length - 1 - k) (by omega)
   have hcl2 : wr.cell? ⟨bl, ol + (zs.length - 1 - k), none⟩ = some (.int .i64 (zat zs (zs.length - 1 - k))) := by rw [HW.out]; exact hcl
   have HY := HF.out (zs.length - 1 - k) (by omega)
   have HS := hid (hzm_succ p (zat zs) x zs.length k)
   have hb1 := emod_bounds (Pol.hz (zat zs) x zs.length k) p h3
   have hb2 := emod_bounds (hzm p (zat zs) x zs.length k * x) p h3
   rw [show Pol.hz (zat zs) x zs.length k % (p : Int) = hzm p (zat zs) x zs.length k from rfl] at hb1
   have HM : Hid (∀ w1 : World, w1.cell? ⟨b, 0, none⟩ = some (.int .i64 p) -> Calls Tryz.prog 49 #[.pointer (some ⟨b, 0, none⟩), .int .i64 (hzm p (zat zs) x zs.length k), .int .i64 x] w1 fun e w' => e = .returned (.int .i64 (hzm p (zat zs) x zs.length k * x % p)) /\ w' = w1) :=
    fun w1 h => mul_any p b _ _ w1 h3 hm h (by omega) (by omega) hx1 hx2
   have HA : Hid (∀ w1 : World, w1.cell? ⟨b, 0, none⟩ = some (.int .i64 p) -> Calls Tryz.prog 92 #[.pointer (some ⟨b, 0, none⟩), .int .i64 (hzm p (zat zs) x zs.length k * x % (p : Int)), .int .i64 (zat zs (zs.length - 1 - k))] w1 fun e w' => e = .returned (.int .i64 ((hzm p (zat zs) x zs.length k * x % (p : Int) + zat zs (zs.length - 1 - k)) % p)) /\ w' = w1) :=
    fun w1 h => add_any p b _ _ w1 h3 hm h (by omega) (by omega) HY.1 HY.2
   rw [HS.out] at HA
   generalize hzm p (zat zs) x zs.length k * x % (p : Int) = hx at *
   generalize zat zs (zs.length - 1 - k) = y at *
   generalize hzm p (zat zs) x zs.length k = h0 at *
   generalize zs.length - 1 - k = j at *
   clear HS hcl
   go_wp2_with fail
   go_quiet (first
    | (go_at_call 49; exact Calls.quiet_of_same (HM.out _ hpc))
    | (go_at_call 92; exact Calls.quiet_of_same (HA.out _ hpc)))
   go_wp2_with fail
   go_roundw
   case rel => exact ⟨k + 1, _, by omega, by go_num, rfl, by unfold Hid; rw [HW.out, World.drewN_drewN]⟩
   case measure => simp [intOf]; omega
  ·have hlt2 : ¬ (k : Int) < (zs.length : Int) := by omega
   obtain rfl : k = zs.length := by omega
   go_wp2_with fail
   go_ret
   exact ⟨ret_int HE.out, n, HW.out⟩
def psm (p : Nat) (f : Nat -> Int) (x : Int) (k : Nat) : Int := Pol.ps f x k % (p : Int)
def pwz (p : Nat) (x : Int) (k : Nat) : Int := x ^ k % (p : Int)
theorem psm_succ (p : Nat) (f : Nat -> Int) (x : Int) (k : Nat) : (psm p f x k + f k * pwz p x k % (p : Int)) % (p : Int) = psm p f x (k + 1) := by
 unfold psm pwz
 rw [Pol.ps, Int.mul_emod (f k), Int.emod_emod_of_dvd _ (Int.dvd_refl _), <- Int.mul_emod, Int.add_emod, Int.emod_emod_of_dvd _ (Int.dvd_refl _), Int.emod_emod_of_dvd _ (Int.dvd_refl _), <- Int.add_emod]
theorem pwz_succ (p : Nat) (x : Int) (k : Nat) : pwz p x k * x % (p : Int) = pwz p x (k + 1) := by
 unfold pwz
 rw [Int.pow_succ, Int.mul_emod, Int.emod_emod_of_dvd _ (Int.dvd_refl _), <- Int.mul_emod]
theorem reval_any (p cap : Nat) (P : Nat -> Prop) (a : Option Addr) (zs : List Int) (x : Int) (w : World) (h3 : 3 <= p) (hm : p <= 2147483647)
  (hn : zs.length <= 281474976710656) (hfit : Fits zs) (hx1 : -9223372036854775808 <= x) (hx2 : x <= 9223372036854775807) (hrow : RowP P w a zs) :
  Calls Tryz.prog 61 #[.int .i64 p, .slice a zs.length cap, .int .i64 x] w fun e w' => e = .returned (.int .i64 (evz p zs x)) /\ w' = w := by
 have HF := hid hfit
 have HR := hid hrow
 clear hfit hrow
 go_enter Tryz.func61, Tryz.ntmps61
 go_wp2_with fail
 go_loop [7, 8, 9] (fun sv pv iv => ∃ k : Nat, k <= zs.length /\ iv = .int .i64 k /\ sv = .int .i64 (psm p (zat zs) x k) /\ pv = .int .i64 (pwz p x k)) (fun _ _ iv => zs.length - (intOf iv).toNat)
 case atStart => exact ⟨0, Nat.zero_le _, rfl, by simp [psm, Pol.ps], by
  have : pwz p x 0 = 1 := by unfold pwz; rw [Int.pow_zero]; exact Int.emod_eq_of_lt (by omega) (by omega)
  rw [this]⟩
 case round =>
  obtain ⟨k, hk, rfl, rfl, rfl⟩ := hrel
  by_cases hlt : k < zs.length
  ·have hlt2 : (k : Int) < (zs.length : Int) := by omega
   obtain ⟨bl, ol, rfl, hbl, hcl⟩ := HR.out k hlt
   have HY := HF.out k hlt
   have HS := hid (psm_succ p (zat zs) x k)
   have HQ := hid (pwz_succ p x k)
   obtain ⟨hs1, hs2⟩ := emod_bounds (Pol.ps (zat zs) x k) p h3
   rw [show Pol.ps (zat zs) x k % (p : Int) = psm p (zat zs) x k from rfl] at hs1 hs2
   obtain ⟨hq1, hq2⟩ := emod_bounds (x ^ k) p h3
   rw [show x ^ k % (p : Int) = pwz p x k from rfl] at hq1 hq2
   obtain ⟨hm1, hm2⟩ := emod_bounds (zat zs k * pwz p x k) p h3
   have HM1 := hid (rmul_any p (zat zs k) (pwz p x k) w h3 hm HY.1 HY.2 (by omega) (by omega))
   have HM2 := hid (rmul_any p (pwz p x k) x w h3 hm (by omega) (by omega) hx1 hx2)
   generalize zat zs k * pwz p x k % (p : Int) = yq at *
   generalize zat zs k = y at *
   generalize pwz p x k * x % (p : Int) = qx at *
   generalize pwz p x k = qk at *
   generalize psm p (zat zs) x k = sk at *
   go_wp2_with fail
   refine HM1.out.mono ?_
   rintro e w1 ⟨rfl, rfl⟩
   go_wp2_with fail
   refine HM2.out.mono ?_
   rintro e w1 ⟨rfl, rfl⟩
   go_wp2_with fail
   go_round
   case rel => exact ⟨k + 1, by omega, by go_num, by rw [<- HS.out], by rw [<- HQ.out]⟩
   case measure => simp [intOf]; omega
  ·have hlt2 : ¬ (k : Int) < (zs.length : Int) := by omega
   obtain rfl : k = zs.length := by omega
   go_wp2_with fail
   go_ret
   exact ⟨rfl, rfl⟩
theorem heap_lt {w : World} {b : Nat} {v : Value} (hp : w.cell? ⟨b, 0, none⟩ = some v) : b < w.heap.size := by
 rcases Nat.lt_or_ge b w.heap.size with g | g
 ·exact g
 ·simp [World.cell?, Array.getElem?_eq_none g] at hp
theorem rdeg_any (p n cap : Nat) (P : Nat -> Prop) (a : Option Addr) (f : Nat -> Int) (w : World) (h3 : 3 <= p) (hm : p <= 2147483647)
  (hn : n <= 9223372036854775807) (hfit : FitsF n f) (hrow : RowF P w a n f) :
  Calls Tryz.prog 94 #[.int .i64 p, .slice a n cap] w fun e w' => e = .returned (.int .i64 ((tpn p f n : Int) - 1)) /\ w' = w := by
 have HF := hid hfit
 have HR := hid hrow
 clear hfit hrow
 go_enter Tryz.func94, Tryz.ntmps94
 go_wp2_with fail
 go_loop [5] (fun iv => ∃ k : Nat, k <= n /\ iv = .int .i64 ((k : Int) - 1) /\ Hid (tpn p f n = tpn p f k)) (fun iv => (intOf iv + 1).toNat)
 case atStart => exact ⟨n, Nat.le_refl _, rfl, rfl⟩
 case round =>
  obtain ⟨k, hk, rfl, hT⟩ := hrel
  cases k with
  | zero =>
   have e0 : Hid ((tpn p f n : Int) - 1 = -1) := by unfold Hid; rw [hT.out]; rfl
   go_wp2_with fail
   go_ret
   exact ⟨ret_int e0.out.symm, rfl⟩
  | succ j =>
   have hj : j < n := by omega
   have e1 : (((j + 1 : Nat) : Int) - 1) = (j : Int) := by omega
   rw [e1]
   have hj0 : (0 : Int) <= (j : Int) := by omega
   have hjn : (j : Int) < (n : Int) := by omega
   obtain ⟨bl, ol, rfl, _, hcl⟩ := HR.out j hj
   obtain ⟨hx1, hx2⟩ := HF.out j hj
   have HS : Hid (f j % (p : Int) = 0 -> tpn p f (j + 1) = tpn p f j) := fun h => by unfold tpn; rw [Pol.tp, if_pos h]
   have HE : Hid (f j % (p : Int) ≠ 0 -> tpn p f (j + 1) = j + 1) := fun h => by unfold tpn; rw [Pol.tp, if_neg h]
   generalize f j = x at *
   clear e1
   go_wp2_with fail
   refine (rof_any p x w h3 hm hx1 hx2).mono ?_
   rintro e w1 ⟨rfl, rfl⟩
   by_cases hz : x % (p : Int) = 0
   ·have hzb : (x % (p : Int) != 0) = false := by rw [hz]; rfl
    have HS2 := hid (hT.out.trans (HS.out hz))
    clear hz HS HE
    go_wp2_with fail
    go_round
    case rel => exact ⟨j, by omega, rfl, HS2⟩
    case measure => simp [intOf]
   ·have hzb : (x % (p : Int) != 0) = true := by rw [bne_iff_ne]; exact hz
    have HS2 := hid (hT.out.trans (HE.out hz))
    clear hz HS HE
    go_wp2_with fail
    go_ret
    exact ⟨ret_int (by rw [HS2.out]; omega), rfl⟩
theorem rall_any (p n cap : Nat) (a : Option Addr) (f : Nat -> Int) (w : World) (h3 : 3 <= p) (hm : p <= 2147483647)
  (hn : n <= 17592186044416) (hfit : FitsF n f) (hrow : RowF (· < w.heap.size) w a n f) :
  Calls Tryz.prog 95 #[.int .i64 p, .slice a n cap] w fun e w' => ∃ a' c', e = .returned (.slice a' n c') /\ Lst w'.heap.size w' a' c' (ls (fun j => f j % (p : Int)) n) /\ Below w.heap.size w w' := by
 obtain ⟨i0, hi, hz0, hz1, hz2⟩ := info_parts Tryz.infoInt
 have HF := hid hfit
 have HR := hid hrow
 clear hfit hrow
 go_enter Tryz.func95, Tryz.ntmps95
 go_wp2_with fail
 go_loopw [5, 6] (fun v iv wr => ∃ k : Nat, k <= n /\ iv = .int .i64 k /\ wr.ownsRow w.heap.size 3 1 v (ls (fun j => f j % (p : Int)) k).length ((ls (fun j => f j % (p : Int)) k).map (Value.int .i64)) /\ Below w.heap.size w wr)
  (fun _ iv _ => n - (intOf iv).toNat)
 case atStart => exact ⟨0, Nat.zero_le _, rfl, World.ownsRow_nil _ _ _ _, Below.refl _ _⟩
 case round =>
  obtain ⟨k, hk, rfl, hown, hbel⟩ := hrel
  have hsz := hbel.size
  by_cases hlt : k < n
  ·have hlt2 : (k : Int) < (n : Int) := by omega
   obtain ⟨bl, ol, rfl, hbl, hcl⟩ := HR.out k hlt
   have hcl2 := (hbel.cell (p := ⟨bl, ol + k, none⟩) hbl).trans hcl
   obtain ⟨hx1, hx2⟩ := HF.out k hlt
   have HLS := hid (ls_succ (fun j => f j % (p : Int)) k)
   have HLL := hid (ls_len (fun j => f j % (p : Int)) k)
   generalize f k = x at *
   clear hcl
   go_wp2_with fail
   refine (rof_any p x _ h3 hm hx1 hx2).mono ?_
   rintro e w1 ⟨rfl, rfl⟩
   generalize ls (fun j => f j % (p : Int)) k = lk at *
   go_wp2_with (at_builtin; refine wpList_append_own _ rfl _ _ 26 rfl w.heap.size 3 i0 (.int .i64 0) 1 8 Tryz.underlying26 hi hz0 hz1 hz2 rfl (by decide) _ _ _ rfl (hown.alloc _) ⟨w1.heap.size, 0, none⟩ 1 1 [.int .i64 (x % (p : Int))] rfl rfl ?c1 ?c2 ?c3 ?c4 ?c5 ?_)
   case c1 =>
    intro j u hj
    match j, hj with
    | 0, hj => simp at hj; subst hj; simp [Addr.add]
   case c2 => intro u hu; simp at hu; subst hu; rfl
   case c3 => have := HLL.out; unfold maxLen; omega
   case c4 => have := HLL.out; omega
   case c5 => simp; omega
   intro v' w2 hown2 hgrow _
   have hown3 := owns_succ hown2
   have HB : Hid (Below w.heap.size w w2) := (hbel.alloc hsz _).grown hgrow (by simp; omega) (fun k hk => (hown.lt k hk).1)
   have HO := hid hown3
   clear hown2 hown3 hgrow hown hbel
   go_wp2_with fail
   go_roundw
   case rel => exact ⟨k + 1, by omega, by go_num, by rw [HLS.out]; exact HO.out, HB.out⟩
   case measure => simp [intOf]; omega
  ·have hlt2 : ¬ (k : Int) < (n : Int) := by omega
   obtain rfl : k = n := by omega
   obtain ⟨a', c', rfl, hl⟩ := lst_of_owns hown
   have HL := hid hl
   have HLL := hid (ls_len (fun j => f j % (p : Int)) k)
   clear hown hl
   go_wp2_with fail
   go_ret
   exact ⟨a', c', ret_slice HLL.out, HL.out, hbel⟩
theorem rtrim_any (p cap : Nat) (a : Option Addr) (zs : List Int) (w : World) (h3 : 3 <= p) (hm : p <= 2147483647)
  (hn : zs.length <= 17592186044416) (hfit : Fits zs) (hl : Lst w.heap.size w a cap zs) :
  Calls Tryz.prog 59 #[.int .i64 p, .slice a zs.length cap] w fun e w' => ∃ a' c', e = .returned (.slice a' (Pol.trim p zs).length c') /\ Lst w'.heap.size w' a' c' (Pol.trim p zs) /\ Below w.heap.size w w' := by
 have HD := hid (rdeg_any p zs.length cap (· < w.heap.size) a (zat zs) w h3 hm (by omega) hfit hl.row)
 have hle := tpn_le p (zat zs) zs.length
 have HA := hid (rall_any p (tpn p (zat zs) zs.length) cap a (zat zs) w h3 hm (by omega) (fun j hj => hfit j (by omega)) (fun j hj => hl.row j (by omega)))
 have HE : Hid (ls (fun j => zat zs j % (p : Int)) (tpn p (zat zs) zs.length) = Pol.trim p zs) := rfl
 have HL : Hid ((Pol.trim p zs).length = tpn p (zat zs) zs.length) := Pol.mk_length _ _ _
 rw [HE.out] at HA
 have hroom := hl.room
 have hnil := hl.nil
 have HN := hid hnil
 clear hfit hl hnil HE
 generalize tpn p (zat zs) zs.length = t at *
 generalize Pol.trim p zs = ts at *
 have e1 : (t : Int) - 1 + 1 = (t : Int) := by omega
 have ht : (t : Int) <= (cap : Int) := by omega
 cases a with
 | none =>
  obtain rfl : cap = 0 := HN.out rfl
  obtain rfl : t = 0 := by omega
  go_enter Tryz.func59, Tryz.ntmps59
  go_wp2_with fail
  refine HD.out.mono ?_
  rintro e w1 ⟨rfl, rfl⟩
  go_wp2_with fail
  refine HA.out.mono ?_
  rintro e w1 ⟨a', c', rfl, hl, hb⟩
  have HLL := hid hl
  have HB := hid hb
  clear hl hb
  go_wp2_with fail
  go_ret
  exact ⟨_, _, ret_slice HL.out.symm, HLL.out, HB.out⟩
 | some ad =>
  go_enter Tryz.func59, Tryz.ntmps59
  go_wp2_with fail
  refine HD.out.mono ?_
  rintro e w1 ⟨rfl, rfl⟩
  go_wp2_with fail
  refine HA.out.mono ?_
  rintro e w1 ⟨a', c', rfl, hl, hb⟩
  have HLL := hid hl
  have HB := hid hb
  clear hl hb
  go_wp2_with fail
  go_ret
  exact ⟨_, _, ret_slice HL.out.symm, HLL.out, HB.out⟩
end Go.Proofs.YtjlngcmkgkiplaaGreatDoor
