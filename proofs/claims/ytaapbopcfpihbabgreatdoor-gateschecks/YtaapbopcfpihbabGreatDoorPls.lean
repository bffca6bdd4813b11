/- lives gives a field, and the law FieldFermat answers true for every input, its calls by their contracts. What package poly's Degree, Trim, Add, Sub and their helpers answer, for every list: new lists without zeros at their end; nothing that was there has turned. What package poly's Add and Sub answer, for every two lists. What package poly's addTimes and Mul answer. What package poly's Eval and Derive answer, and attestref1's Eval. What package attestref1 answers of polynomials: Degree, All, Trim, At, Plus, Scaled, Minus, Times, for every list. attestsame.Spoil writes to its own list alone; and lists that stay alive while a law goes on. append([]int{}, l...): a list copied, a nil one too. -/
import Derived.Test.YtaapbopcfpihbabGreatDoorFld
import Derived.Test.YtaapbopcfpihbabGreatDoorPlain
import Derived.Deep.OwnRows
import Derived.RegionTactic
import Derived.Deep.RegionWith
import Derived.BigRegion
import Derived.Deep.QuietTactic
import Derived.BigQuiet
import Derived.Laws.AppendOwnNone
namespace Go.Proofs.YtaapbopcfpihbabGreatDoor
open Go.RowKit

end Go.Proofs.YtaapbopcfpihbabGreatDoor

namespace Go.Proofs.YtaapbopcfpihbabGreatDoor
open Go.RowKit

/-- n numbers that can be read, in a block of which P holds -/
def RowF (P : Nat → Prop) (w : World) (a : Option Addr) (n : Nat) (f : Nat → Int) : Prop :=
  ∀ k, k < n → ∃ b o, a = some ⟨b, o, none⟩ ∧ P b ∧ w.cell? ⟨b, o + k, none⟩ = some (.int .i64 (f k))
def FitsF (n : Nat) (f : Nat → Int) : Prop := ∀ j, j < n → -9223372036854775808 ≤ f j ∧ f j ≤ 9223372036854775807
theorem RowP.f {P : Nat → Prop} {w : World} {a : Option Addr} {zs : List Int} (h : RowP P w a zs) : RowF P w a zs.length (zat zs) := h
theorem RowB.f {n0 : Nat} {w : World} {a : Option Addr} {zs : List Int} (h : RowB n0 w a zs) : RowF (· < n0) w a zs.length (zat zs) := h
theorem Cells.f {g n : Nat} {f : Nat → Int} {w : World} (h : Cells g 0 n f w) : RowF (· = g) w (some ⟨g, 0, none⟩) n f := fun k hk => ⟨g, 0, rfl, rfl, h.cells k hk⟩

/-- how many are left without the zeros at the end -/
def tpn (p : Nat) (f : Nat → Int) (n : Nat) : Nat := Pol.tp p f n
theorem tpn_le (p : Nat) (f : Nat → Int) (n : Nat) : tpn p f n ≤ n := Pol.tp_le p f n

set_option maxHeartbeats 400000 in
theorem deg_any (p b n cap : Nat) (P : Nat → Prop) (a : Option Addr) (f : Nat → Int) (w : World) (h3 : 3 ≤ p) (hm : p ≤ 2147483647) (hp : w.cell? ⟨b, 0, none⟩ = some (.int .i64 p))
    (hn : n ≤ 9223372036854775807) (hfit : FitsF n f) (hrow : RowF P w a n f) :
    Calls Tryz.prog 148 #[.pointer (some ⟨b, 0, none⟩), .slice a n cap] w fun e w' => e = .returned (.int .i64 ((tpn p f n : Int) - 1)) ∧ w' = w := by
  have HF := hid hfit
  have HR := hid hrow
  clear hfit hrow
  go_enter Tryz.func148, Tryz.ntmps148
  go_wp2_with fail
  go_loop [5] (fun iv => ∃ k : Nat, k ≤ n ∧ iv = .int .i64 ((k : Int) - 1) ∧ Hid (tpn p f n = tpn p f k)) (fun iv => (intOf iv + 1).toNat)
  case atStart => exact ⟨n, Nat.le_refl _, rfl, rfl⟩
  case round =>
    obtain ⟨k, hk, rfl, hT⟩ := hrel
    cases k with
    | zero =>
      have e0 : Hid ((tpn p f n : Int) - 1 = ((0 : Nat) : Int) - 1) := by unfold Hid; rw [hT.out]; rfl
      go_wp2_with fail
      go_ret
      exact ⟨ret_int (by rw [e0.out]; rfl), rfl⟩
    | succ j =>
      have hj : j < n := by omega
      have e1 : (((j + 1 : Nat) : Int) - 1) = (j : Int) := by omega
      rw [e1]
      have hj0 : (0 : Int) ≤ (j : Int) := by omega
      have hjn : (j : Int) < (n : Int) := by omega
      obtain ⟨bl, ol, rfl, _, hcl⟩ := HR.out j hj
      obtain ⟨hx1, hx2⟩ := HF.out j hj
      have HS : Hid (f j % (p : Int) = 0 → tpn p f (j + 1) = tpn p f j) := fun h => by unfold tpn; rw [Pol.tp, if_pos h]
      have HE : Hid (f j % (p : Int) ≠ 0 → tpn p f (j + 1) = j + 1) := fun h => by unfold tpn; rw [Pol.tp, if_neg h]
      generalize f j = x at *
      clear e1
      go_wp2_with fail
      refine (of_any p b x w h3 hm hp hx1 hx2).mono ?_
      rintro e w1 ⟨rfl, rfl⟩
      by_cases hz : x % (p : Int) = 0
      · have hzb : (x % (p : Int) == 0) = true := by rw [hz]; rfl
        have HS2 := hid (hT.out.trans (HS.out hz))
        clear hz HS HE
        go_wp2_with fail
        go_round
        case rel => exact ⟨j, by omega, rfl, HS2⟩
        case measure => simp [intOf]
      · have hzb : (x % (p : Int) == 0) = false := by rw [beq_eq_false_iff_ne]; exact hz
        have HS2 := hid (hT.out.trans (HE.out hz))
        clear hz HS HE
        go_wp2_with fail
        go_ret
        exact ⟨ret_int (by rw [HS2.out]; omega), rfl⟩

/-- what is left of the call's own list without the zeros at its end -/
theorem without_any (p b g n cap : Nat) (f : Nat → Int) (w : World) (h3 : 3 ≤ p) (hm : p ≤ 2147483647) (hp : w.cell? ⟨b, 0, none⟩ = some (.int .i64 p))
    (hn : n ≤ 281474976710656) (hcap : n ≤ cap) (hfit : FitsF n f) (hrow : Cells g 0 n f w) :
    Calls Tryz.prog 119 #[.pointer (some ⟨b, 0, none⟩), .slice (some ⟨g, 0, none⟩) n cap] w fun e w' => e = .returned (.slice (some ⟨g, 0, none⟩) (tpn p f n) cap) ∧ w' = w := by
  have hd := hid (deg_any p b n cap (· = g) (some ⟨g, 0, none⟩) f w h3 hm hp (by omega) hfit hrow.f)
  have hle := tpn_le p f n
  clear hfit hrow
  generalize tpn p f n = t at *
  have e1 : (t : Int) - 1 + 1 = (t : Int) := by omega
  go_enter Tryz.func119, Tryz.ntmps119
  go_wp2_with fail
  refine hd.out.mono ?_
  rintro e w1 ⟨rfl, rfl⟩
  go_wp2_with fail
  go_ret
  exact ⟨rfl, rfl⟩

end Go.Proofs.YtaapbopcfpihbabGreatDoor

namespace Go.Proofs.YtaapbopcfpihbabGreatDoor
open Go.RowKit

theorem ret_slice {a : Option Addr} {n m c : Nat} (h : n = m) : Ending.returned (.slice a n c) = .returned (.slice a m c) := by rw [h]

/-- the longer length -/
def mxn (n m : Nat) : Nat := max n m

end Go.Proofs.YtaapbopcfpihbabGreatDoor

namespace Go.Proofs.YtaapbopcfpihbabGreatDoor
open Go.RowKit

/-- so many times y added from place i on, the first k places of it -/
def addf (p : Nat) (f y : Nat → Int) (x : Int) (i k : Nat) : Nat → Int := fun j => if i ≤ j ∧ j < i + k then (f j + y (j - i) * x) % (p : Int) else f j

/-! ## Mul -/
theorem can_fits {p : Nat} (hm : p ≤ 2147483647) {zs : List Int} (h : Pol.Can p zs) : Fits zs := fun j hj => by
  have := h.elem j hj
  have e : zat zs j = zs.getD j 0 := rfl
  omega
end Go.Proofs.YtaapbopcfpihbabGreatDoor

namespace Go.Proofs.YtaapbopcfpihbabGreatDoor
open Go.RowKit

/-- what a polynomial is at an element -/
def evz (p : Nat) (zs : List Int) (x : Int) : Int := Pol.ps (zat zs) x zs.length % (p : Int)
theorem evz_bounds (p : Nat) (zs : List Int) (x : Int) (h3 : 3 ≤ p) : 0 ≤ evz p zs x ∧ evz p zs x < p := emod_bounds _ p h3

def hzm (p : Nat) (f : Nat → Int) (x : Int) (n k : Nat) : Int := Pol.hz f x n k % (p : Int)
theorem hzm_succ (p : Nat) (f : Nat → Int) (x : Int) (n k : Nat) : (hzm p f x n k * x % (p : Int) + f (n - 1 - k)) % (p : Int) = hzm p f x n (k + 1) := by
  unfold hzm
  rw [Pol.hz, Int.mul_emod, Int.emod_emod_of_dvd _ (Int.dvd_refl _), ← Int.mul_emod, Int.add_emod, Int.emod_emod_of_dvd _ (Int.dvd_refl _), ← Int.add_emod]

set_option maxHeartbeats 1000000 in
theorem eval_any (p b cap : Nat) (P : Nat → Prop) (a : Option Addr) (zs : List Int) (x : Int) (w : World) (h3 : 3 ≤ p) (hm : p ≤ 2147483647) (hp : w.cell? ⟨b, 0, none⟩ = some (.int .i64 p))
    (hn : zs.length ≤ 281474976710656) (hfit : Fits zs) (hx1 : -9223372036854775808 ≤ x) (hx2 : x ≤ 9223372036854775807) (hrow : RowP P w a zs) :
    Calls Tryz.prog 91 #[.pointer (some ⟨b, 0, none⟩), .slice a zs.length cap, .int .i64 x] w fun e w' => e = .returned (.int .i64 (evz p zs x)) ∧ ∃ n, w' = w.drewN n := by
  have HF := hid hfit
  have HR := hid hrow
  have HE : Hid (hzm p (zat zs) x zs.length zs.length = evz p zs x) := by unfold Hid hzm evz; rw [Pol.hz_ps]
  clear hfit hrow
  go_enter Tryz.func91, Tryz.ntmps91
  go_wp2_with fail
  go_loopw [7, 11] (fun sv iv wr => ∃ k n : Nat, k ≤ zs.length ∧ iv = .int .i64 k ∧ sv = .int .i64 (hzm p (zat zs) x zs.length k) ∧ Hid (wr = w.drewN n)) (fun _ iv _ => zs.length - (intOf iv).toNat)
  case atStart => exact ⟨0, 0, Nat.zero_le _, rfl, by simp [hzm, Pol.hz], rfl⟩
  case round =>
    obtain ⟨k, n, hk, rfl, rfl, HW⟩ := hrel
    have hpc : wr.cell? ⟨b, 0, none⟩ = some (.int .i64 p) := by rw [HW.out]; exact hp
    by_cases hlt : k < zs.length
    · have hlt2 : (k : Int) < (zs.length : Int) := by omega
      have e1 : (zs.length : Int) - 1 - (k : Int) = ((zs.length - 1 - k : Nat) : Int) := by omega
      have hlt3 : ((zs.length - 1 - k : Nat) : Int) < (zs.length : Int) := by omega
      obtain ⟨bl, ol, rfl, hbl, hcl⟩ := HR.out (zs.length - 1 - k) (by omega)
      have hcl2 : wr.cell? ⟨bl, ol + (zs.length - 1 - k), none⟩ = some (.int .i64 (zat zs (zs.length - 1 - k))) := by rw [HW.out]; exact hcl
      have HY := HF.out (zs.length - 1 - k) (by omega)
      have HS := hid (hzm_succ p (zat zs) x zs.length k)
      have hb1 := emod_bounds (Pol.hz (zat zs) x zs.length k) p h3
      have hb2 := emod_bounds (hzm p (zat zs) x zs.length k * x) p h3
      rw [show Pol.hz (zat zs) x zs.length k % (p : Int) = hzm p (zat zs) x zs.length k from rfl] at hb1
      have HM : Hid (∀ w1 : World, w1.cell? ⟨b, 0, none⟩ = some (.int .i64 p) → Calls Tryz.prog 72 #[.pointer (some ⟨b, 0, none⟩), .int .i64 (hzm p (zat zs) x zs.length k), .int .i64 x] w1 fun e w' => e = .returned (.int .i64 (hzm p (zat zs) x zs.length k * x % p)) ∧ w' = w1) :=
        fun w1 h => mul_any p b _ _ w1 h3 hm h (by omega) (by omega) hx1 hx2
      have HA : Hid (∀ w1 : World, w1.cell? ⟨b, 0, none⟩ = some (.int .i64 p) → Calls Tryz.prog 53 #[.pointer (some ⟨b, 0, none⟩), .int .i64 (hzm p (zat zs) x zs.length k * x % (p : Int)), .int .i64 (zat zs (zs.length - 1 - k))] w1 fun e w' => e = .returned (.int .i64 ((hzm p (zat zs) x zs.length k * x % (p : Int) + zat zs (zs.length - 1 - k)) % p)) ∧ w' = w1) :=
        fun w1 h => add_any p b _ _ w1 h3 hm h (by omega) (by omega) HY.1 HY.2
      rw [HS.out] at HA
      generalize hzm p (zat zs) x zs.length k * x % (p : Int) = hx at *
      generalize zat zs (zs.length - 1 - k) = y at *
      generalize hzm p (zat zs) x zs.length k = h0 at *
      generalize zs.length - 1 - k = j at *
      clear HS hcl
      go_wp2_with fail
      go_quiet (first
        | (go_at_call 72; exact Calls.quiet_of_same (HM.out _ hpc))
        | (go_at_call 53; exact Calls.quiet_of_same (HA.out _ hpc)))
      go_wp2_with fail
      go_roundw
      case rel => exact ⟨k + 1, _, by omega, by go_num, rfl, by unfold Hid; rw [HW.out, World.drewN_drewN]⟩
      case measure => simp [intOf]; omega
    · have hlt2 : ¬ (k : Int) < (zs.length : Int) := by omega
      obtain rfl : k = zs.length := by omega
      go_wp2_with fail
      go_ret
      exact ⟨ret_int HE.out, n, HW.out⟩

def psm (p : Nat) (f : Nat → Int) (x : Int) (k : Nat) : Int := Pol.ps f x k % (p : Int)
def pwz (p : Nat) (x : Int) (k : Nat) : Int := x ^ k % (p : Int)
theorem psm_succ (p : Nat) (f : Nat → Int) (x : Int) (k : Nat) : (psm p f x k + f k * pwz p x k % (p : Int)) % (p : Int) = psm p f x (k + 1) := by
  unfold psm pwz
  rw [Pol.ps, Int.mul_emod (f k), Int.emod_emod_of_dvd _ (Int.dvd_refl _), ← Int.mul_emod, Int.add_emod, Int.emod_emod_of_dvd _ (Int.dvd_refl _), Int.emod_emod_of_dvd _ (Int.dvd_refl _), ← Int.add_emod]
theorem pwz_succ (p : Nat) (x : Int) (k : Nat) : pwz p x k * x % (p : Int) = pwz p x (k + 1) := by
  unfold pwz
  rw [Int.pow_succ, Int.mul_emod, Int.emod_emod_of_dvd _ (Int.dvd_refl _), ← Int.mul_emod]

set_option maxHeartbeats 1000000 in
theorem reval_any (p cap : Nat) (P : Nat → Prop) (a : Option Addr) (zs : List Int) (x : Int) (w : World) (h3 : 3 ≤ p) (hm : p ≤ 2147483647)
    (hn : zs.length ≤ 281474976710656) (hfit : Fits zs) (hx1 : -9223372036854775808 ≤ x) (hx2 : x ≤ 9223372036854775807) (hrow : RowP P w a zs) :
    Calls Tryz.prog 64 #[.int .i64 p, .slice a zs.length cap, .int .i64 x] w fun e w' => e = .returned (.int .i64 (evz p zs x)) ∧ w' = w := by
  have HF := hid hfit
  have HR := hid hrow
  clear hfit hrow
  go_enter Tryz.func64, Tryz.ntmps64
  go_wp2_with fail
  go_loop [7, 8, 9] (fun sv pv iv => ∃ k : Nat, k ≤ zs.length ∧ iv = .int .i64 k ∧ sv = .int .i64 (psm p (zat zs) x k) ∧ pv = .int .i64 (pwz p x k)) (fun _ _ iv => zs.length - (intOf iv).toNat)
  case atStart => exact ⟨0, Nat.zero_le _, rfl, by simp [psm, Pol.ps], by
    have : pwz p x 0 = 1 := by unfold pwz; rw [Int.pow_zero]; exact Int.emod_eq_of_lt (by omega) (by omega)
    rw [this]⟩
  case round =>
    obtain ⟨k, hk, rfl, rfl, rfl⟩ := hrel
    by_cases hlt : k < zs.length
    · have hlt2 : (k : Int) < (zs.length : Int) := by omega
      obtain ⟨bl, ol, rfl, hbl, hcl⟩ := HR.out k hlt
      have HY := HF.out k hlt
      have HS := hid (psm_succ p (zat zs) x k)
      have HQ := hid (pwz_succ p x k)
      obtain ⟨hs1, hs2⟩ := emod_bounds (Pol.ps (zat zs) x k) p h3
      rw [show Pol.ps (zat zs) x k % (p : Int) = psm p (zat zs) x k from rfl] at hs1 hs2
      obtain ⟨hq1, hq2⟩ := emod_bounds (x ^ k) p h3
      rw [show x ^ k % (p : Int) = pwz p x k from rfl] at hq1 hq2
      obtain ⟨hm1, hm2⟩ := emod_bounds (zat zs k * pwz p x k) p h3
      have HM1 := hid (rmul_any p (zat zs k) (pwz p x k) w h3 hm HY.1 HY.2 (by omega) (by omega))
      have HM2 := hid (rmul_any p (pwz p x k) x w h3 hm (by omega) (by omega) hx1 hx2)
      generalize zat zs k * pwz p x k % (p : Int) = yq at *
      generalize zat zs k = y at *
      generalize pwz p x k * x % (p : Int) = qx at *
      generalize pwz p x k = qk at *
      generalize psm p (zat zs) x k = sk at *
      go_wp2_with fail
      refine HM1.out.mono ?_
      rintro e w1 ⟨rfl, rfl⟩
      go_wp2_with fail
      refine HM2.out.mono ?_
      rintro e w1 ⟨rfl, rfl⟩
      go_wp2_with fail
      go_round
      case rel => exact ⟨k + 1, by omega, by go_num, by rw [← HS.out], by rw [← HQ.out]⟩
      case measure => simp [intOf]; omega
    · have hlt2 : ¬ (k : Int) < (zs.length : Int) := by omega
      obtain rfl : k = zs.length := by omega
      go_wp2_with fail
      go_ret
      exact ⟨rfl, rfl⟩

/-- the slope's list -/
def pdv (p : Nat) (zs : List Int) : List Int := Pol.mk p (Pol.dv (Pol.cf zs)) (zs.length - 1)

theorem pdv_list (p : Nat) (zs : List Int) : (pdv p zs).length = tpn p (fun j => zat zs (j + 1) * ((j : Int) + 1)) (zs.length - 1) ∧ ∀ j, j < (pdv p zs).length → zat (pdv p zs) j = zat zs (j + 1) * ((j : Int) + 1) % (p : Int) :=
  ⟨Pol.mk_length _ _ _, fun j hj => by rw [pdv, Pol.mk_length] at hj; exact Pol.mk_at p _ _ j hj⟩

set_option maxHeartbeats 1000000 in
theorem derive_any (p b cap : Nat) (P : Nat → Prop) (a : Option Addr) (zs : List Int) (w : World) (h3 : 3 ≤ p) (hm : p ≤ 2147483647) (hp : w.cell? ⟨b, 0, none⟩ = some (.int .i64 p))
    (hn : zs.length ≤ 17592186044416) (hfit : Fits zs) (hrow : RowP P w a zs) (hP : ∀ k, P k → k < w.heap.size) :
    Calls Tryz.prog 147 #[.pointer (some ⟨b, 0, none⟩), .slice a zs.length cap] w fun e w' => ∃ cap,
      e = .returned (.slice (some ⟨w.heap.size, 0, none⟩) (pdv p zs).length cap) ∧ (pdv p zs).length ≤ cap ∧
      Cells w.heap.size 0 (pdv p zs).length (zat (pdv p zs)) w' ∧ Below w.heap.size w w' ∧ w'.heap.size = w.heap.size + 1 := by
  have hb : b < w.heap.size := by
    rcases Nat.lt_or_ge b w.heap.size with g | g
    · exact g
    · simp [World.cell?, Array.getElem?_eq_none g] at hp
  have HF := hid hfit
  have HR := hid hrow
  have HPP := hid hP
  obtain ⟨hl, hz⟩ := pdv_list p zs
  have hle := tpn_le p (fun j => zat zs (j + 1) * ((j : Int) + 1)) (zs.length - 1)
  rw [← hl] at hle
  have HZ := hid hz
  have HLN := hid hl
  have hmx : max (0 : Int) ((zs.length : Int) - 1) = ((zs.length - 1 : Nat) : Int) := by omega
  clear hfit hrow hP hz hl
  have hmk := fun n h1 h2 w => run_make_row' (P := Tryz.prog) 25 3 (.int .i64 0) 8 Tryz.underlying25 Tryz.infoInt rfl .i64 .i64 n h1 h2 w
  have hmk2 := hmk (zs.length - 1) (by omega) (by omega)
  clear hmk
  have hmm : zs.length - 1 < zs.length ∨ zs.length - 1 = 0 := by omega
  obtain ⟨m, hmd⟩ : ∃ m, m = zs.length - 1 := ⟨_, rfl⟩
  have HMD := hid hmd
  rw [← hmd] at hmx hmk2 hle HLN
  clear hmd hmm
  go_enter Tryz.func147, Tryz.ntmps147
  go_wp2_with fail
  go_loopw [14] (fun iv wr => ∃ (k : Nat) (o : Nat → Int), k ≤ m ∧ iv = .int .i64 k ∧ Hid (Cells w.heap.size 0 m o wr) ∧ Hid (∀ j, j < k → o j = zat zs (j + 1) * ((j : Int) + 1) % (p : Int)) ∧ Hid (Below w.heap.size w wr) ∧ wr.heap.size = w.heap.size + 1)
    (fun iv _ => m - (intOf iv).toNat)
  case atStart =>
    refine ⟨0, fun _ => 0, Nat.zero_le _, rfl, ⟨fun j hj => ?_, fun j hj => ?_⟩, fun j hj => by omega, ?_, by simp⟩
    · rw [World.cell?_alloc_at _ _ _ _ (by simp)]
      simp [madeCells, hj, Nat.mod_one]
    · simp
    · exact (Below.refl _ _).alloc (Nat.le_refl _) _
  case round =>
    obtain ⟨k, o, hk, rfl, hout, hoj, hbel, hsz⟩ := hrel
    have hml : m ≤ 17592186044416 := by have := HMD.out; omega
    by_cases hlt : k < m
    · have hlt2 : (k : Int) < (m : Int) := by omega
      have hk1 : k + 1 < zs.length := by have := HMD.out; omega
      have hlt3 : (k : Int) + 1 < (zs.length : Int) := by omega
      have e1 : ((k : Int) + 1).toNat = k + 1 := by omega
      obtain ⟨bl, ol, rfl, hbl, hcl⟩ := HR.out (k + 1) hk1
      have hcl2 := (hbel.out.cell (p := ⟨bl, ol + (k + 1), none⟩) (HPP.out _ hbl)).trans hcl
      have hok := hout.out.cells k hlt
      have hos := hout.out.soft k hlt
      rw [Nat.zero_add] at hok hos
      have hpc := (hbel.out.cell (p := ⟨b, 0, none⟩) hb).trans hp
      obtain ⟨hx1, hx2⟩ := HF.out (k + 1) hk1
      have HC := hid (hout.out.set (zat zs (k + 1) * ((k : Int) + 1) % (p : Int)) hlt)
      have HB := hid (hbel.out.setCell (p := ⟨w.heap.size, 0 + k, none⟩) (by simp) (.int .i64 (zat zs (k + 1) * ((k : Int) + 1) % (p : Int))))
      have HJ : Hid (∀ j, j < k + 1 → up o k (zat zs (k + 1) * ((k : Int) + 1) % (p : Int)) j = zat zs (j + 1) * ((j : Int) + 1) % (p : Int)) := fun j hj => by
        unfold up
        by_cases hjk : j = k
        · rw [if_pos hjk, hjk]
        · rw [if_neg hjk]; exact hoj.out j (by omega)
      rw [Nat.zero_add] at HC HB
      have HM := hid (mul_any p b (zat zs (k + 1)) ((k : Int) + 1) wr h3 hm hpc hx1 hx2 (by omega) (by omega))
      generalize zat zs (k + 1) * ((k : Int) + 1) % (p : Int) = z at *
      generalize zat zs (k + 1) = x at *
      clear hcl
      go_wp2_with fail
      refine HM.out.mono ?_
      rintro e w2 ⟨rfl, rfl⟩
      go_wp2_with fail
      go_roundw
      case rel => exact ⟨k + 1, _, by omega, by go_num, HC, HJ, HB, by simp [World.setCell]; exact hsz⟩
      case measure => simp [intOf]; omega
    · have hlt2 : ¬ (k : Int) < (m : Int) := by omega
      have hpc := (hbel.out.cell (p := ⟨b, 0, none⟩) hb).trans hp
      have HC := hid (hout.out.congr (fun j hj => hoj.out j (by omega)))
      have HW := hid (without_any p b w.heap.size m m (fun j => zat zs (j + 1) * ((j : Int) + 1) % (p : Int)) wr h3 hm hpc (by omega) (Nat.le_refl _)
        (fun j _ => by have := emod_bounds (zat zs (j + 1) * ((j : Int) + 1)) p h3; show -9223372036854775808 ≤ zat zs (j + 1) * ((j : Int) + 1) % (p : Int) ∧ zat zs (j + 1) * ((j : Int) + 1) % (p : Int) ≤ 9223372036854775807; omega) HC.out)
      have HE : Hid (tpn p (fun j => zat zs (j + 1) * ((j : Int) + 1) % (p : Int)) m = (pdv p zs).length) := (Pol.tp_mod p _ m).trans HLN.out.symm
      go_wp2_with fail
      refine HW.out.mono ?_
      rintro e w2 ⟨rfl, rfl⟩
      go_wp2_with fail
      go_ret
      exact ⟨m, ret_slice HE.out, hle, (HC.out.less hle).congr (fun j hj => (HZ.out j hj).symm), hbel.out, hsz⟩

end Go.Proofs.YtaapbopcfpihbabGreatDoor

namespace Go.Proofs.YtaapbopcfpihbabGreatDoor
open Go.RowKit

theorem heap_lt {w : World} {b : Nat} {v : Value} (hp : w.cell? ⟨b, 0, none⟩ = some v) : b < w.heap.size := by
  rcases Nat.lt_or_ge b w.heap.size with g | g
  · exact g
  · simp [World.cell?, Array.getElem?_eq_none g] at hp

set_option maxHeartbeats 400000 in
theorem rdeg_any (p n cap : Nat) (P : Nat → Prop) (a : Option Addr) (f : Nat → Int) (w : World) (h3 : 3 ≤ p) (hm : p ≤ 2147483647)
    (hn : n ≤ 9223372036854775807) (hfit : FitsF n f) (hrow : RowF P w a n f) :
    Calls Tryz.prog 150 #[.int .i64 p, .slice a n cap] w fun e w' => e = .returned (.int .i64 ((tpn p f n : Int) - 1)) ∧ w' = w := by
  have HF := hid hfit
  have HR := hid hrow
  clear hfit hrow
  go_enter Tryz.func150, Tryz.ntmps150
  go_wp2_with fail
  go_loop [5] (fun iv => ∃ k : Nat, k ≤ n ∧ iv = .int .i64 ((k : Int) - 1) ∧ Hid (tpn p f n = tpn p f k)) (fun iv => (intOf iv + 1).toNat)
  case atStart => exact ⟨n, Nat.le_refl _, rfl, rfl⟩
  case round =>
    obtain ⟨k, hk, rfl, hT⟩ := hrel
    cases k with
    | zero =>
      have e0 : Hid ((tpn p f n : Int) - 1 = -1) := by unfold Hid; rw [hT.out]; rfl
      go_wp2_with fail
      go_ret
      exact ⟨ret_int e0.out.symm, rfl⟩
    | succ j =>
      have hj : j < n := by omega
      have e1 : (((j + 1 : Nat) : Int) - 1) = (j : Int) := by omega
      rw [e1]
      have hj0 : (0 : Int) ≤ (j : Int) := by omega
      have hjn : (j : Int) < (n : Int) := by omega
      obtain ⟨bl, ol, rfl, _, hcl⟩ := HR.out j hj
      obtain ⟨hx1, hx2⟩ := HF.out j hj
      have HS : Hid (f j % (p : Int) = 0 → tpn p f (j + 1) = tpn p f j) := fun h => by unfold tpn; rw [Pol.tp, if_pos h]
      have HE : Hid (f j % (p : Int) ≠ 0 → tpn p f (j + 1) = j + 1) := fun h => by unfold tpn; rw [Pol.tp, if_neg h]
      generalize f j = x at *
      clear e1
      go_wp2_with fail
      refine (rof_any p x w h3 hm hx1 hx2).mono ?_
      rintro e w1 ⟨rfl, rfl⟩
      by_cases hz : x % (p : Int) = 0
      · have hzb : (x % (p : Int) != 0) = false := by rw [hz]; rfl
        have HS2 := hid (hT.out.trans (HS.out hz))
        clear hz HS HE
        go_wp2_with fail
        go_round
        case rel => exact ⟨j, by omega, rfl, HS2⟩
        case measure => simp [intOf]
      · have hzb : (x % (p : Int) != 0) = true := by rw [bne_iff_ne]; exact hz
        have HS2 := hid (hT.out.trans (HE.out hz))
        clear hz HS HE
        go_wp2_with fail
        go_ret
        exact ⟨ret_int (by rw [HS2.out]; omega), rfl⟩

set_option maxHeartbeats 1000000 in
theorem rall_any (p n cap : Nat) (a : Option Addr) (f : Nat → Int) (w : World) (h3 : 3 ≤ p) (hm : p ≤ 2147483647)
    (hn : n ≤ 17592186044416) (hfit : FitsF n f) (hrow : RowF (· < w.heap.size) w a n f) :
    Calls Tryz.prog 122 #[.int .i64 p, .slice a n cap] w fun e w' => ∃ a' c', e = .returned (.slice a' n c') ∧ Lst w'.heap.size w' a' c' (ls (fun j => f j % (p : Int)) n) ∧ Below w.heap.size w w' := by
  obtain ⟨i0, hi, hz0, hz1, hz2⟩ := info_parts Tryz.infoInt
  have HF := hid hfit
  have HR := hid hrow
  clear hfit hrow
  go_enter Tryz.func122, Tryz.ntmps122
  go_wp2_with fail
  go_loopw [5, 6] (fun v iv wr => ∃ k : Nat, k ≤ n ∧ iv = .int .i64 k ∧ wr.ownsRow w.heap.size 3 1 v (ls (fun j => f j % (p : Int)) k).length ((ls (fun j => f j % (p : Int)) k).map (Value.int .i64)) ∧ Below w.heap.size w wr)
    (fun _ iv _ => n - (intOf iv).toNat)
  case atStart => exact ⟨0, Nat.zero_le _, rfl, World.ownsRow_nil _ _ _ _, Below.refl _ _⟩
  case round =>
    obtain ⟨k, hk, rfl, hown, hbel⟩ := hrel
    have hsz := hbel.size
    by_cases hlt : k < n
    · have hlt2 : (k : Int) < (n : Int) := by omega
      obtain ⟨bl, ol, rfl, hbl, hcl⟩ := HR.out k hlt
      have hcl2 := (hbel.cell (p := ⟨bl, ol + k, none⟩) hbl).trans hcl
      obtain ⟨hx1, hx2⟩ := HF.out k hlt
      have HLS := hid (ls_succ (fun j => f j % (p : Int)) k)
      have HLL := hid (ls_len (fun j => f j % (p : Int)) k)
      generalize f k = x at *
      clear hcl
      go_wp2_with fail
      refine (rof_any p x _ h3 hm hx1 hx2).mono ?_
      rintro e w1 ⟨rfl, rfl⟩
      generalize ls (fun j => f j % (p : Int)) k = lk at *
      go_wp2_with (at_builtin; refine wpList_append_own _ rfl _ _ 25 rfl w.heap.size 3 i0 (.int .i64 0) 1 8 Tryz.underlying25 hi hz0 hz1 hz2 rfl (by decide) _ _ _ rfl (hown.alloc _) ⟨w1.heap.size, 0, none⟩ 1 1 [.int .i64 (x % (p : Int))] rfl rfl ?c1 ?c2 ?c3 ?c4 ?c5 ?_)
      case c1 =>
        intro j u hj
        match j, hj with
        | 0, hj => simp at hj; subst hj; simp [Addr.add]
      case c2 => intro u hu; simp at hu; subst hu; rfl
      case c3 => have := HLL.out; unfold maxLen; omega
      case c4 => have := HLL.out; omega
      case c5 => simp; omega
      intro v' w2 hown2 hgrow _
      have hown3 := owns_succ hown2
      have HB : Hid (Below w.heap.size w w2) := (hbel.alloc hsz _).grown hgrow (by simp; omega) (fun k hk => (hown.lt k hk).1)
      have HO := hid hown3
      clear hown2 hown3 hgrow hown hbel
      go_wp2_with fail
      go_roundw
      case rel => exact ⟨k + 1, by omega, by go_num, by rw [HLS.out]; exact HO.out, HB.out⟩
      case measure => simp [intOf]; omega
    · have hlt2 : ¬ (k : Int) < (n : Int) := by omega
      obtain rfl : k = n := by omega
      obtain ⟨a', c', rfl, hl⟩ := lst_of_owns hown
      have HL := hid hl
      have HLL := hid (ls_len (fun j => f j % (p : Int)) k)
      clear hown hl
      go_wp2_with fail
      go_ret
      exact ⟨a', c', ret_slice HLL.out, HL.out, hbel⟩

theorem rtrim_any (p cap : Nat) (a : Option Addr) (zs : List Int) (w : World) (h3 : 3 ≤ p) (hm : p ≤ 2147483647)
    (hn : zs.length ≤ 17592186044416) (hfit : Fits zs) (hl : Lst w.heap.size w a cap zs) :
    Calls Tryz.prog 129 #[.int .i64 p, .slice a zs.length cap] w fun e w' => ∃ a' c', e = .returned (.slice a' (Pol.trim p zs).length c') ∧ Lst w'.heap.size w' a' c' (Pol.trim p zs) ∧ Below w.heap.size w w' := by
  have HD := hid (rdeg_any p zs.length cap (· < w.heap.size) a (zat zs) w h3 hm (by omega) hfit hl.row)
  have hle := tpn_le p (zat zs) zs.length
  have HA := hid (rall_any p (tpn p (zat zs) zs.length) cap a (zat zs) w h3 hm (by omega) (fun j hj => hfit j (by omega)) (fun j hj => hl.row j (by omega)))
  have HE : Hid (ls (fun j => zat zs j % (p : Int)) (tpn p (zat zs) zs.length) = Pol.trim p zs) := rfl
  have HL : Hid ((Pol.trim p zs).length = tpn p (zat zs) zs.length) := Pol.mk_length _ _ _
  rw [HE.out] at HA
  have hroom := hl.room
  have hnil := hl.nil
  have HN := hid hnil
  clear hfit hl hnil HE
  generalize tpn p (zat zs) zs.length = t at *
  generalize Pol.trim p zs = ts at *
  have e1 : (t : Int) - 1 + 1 = (t : Int) := by omega
  have ht : (t : Int) ≤ (cap : Int) := by omega
  cases a with
  | none =>
    obtain rfl : cap = 0 := HN.out rfl
    obtain rfl : t = 0 := by omega
    go_enter Tryz.func129, Tryz.ntmps129
    go_wp2_with fail
    refine HD.out.mono ?_
    rintro e w1 ⟨rfl, rfl⟩
    go_wp2_with fail
    refine HA.out.mono ?_
    rintro e w1 ⟨a', c', rfl, hl, hb⟩
    have HLL := hid hl
    have HB := hid hb
    clear hl hb
    go_wp2_with fail
    go_ret
    exact ⟨_, _, ret_slice HL.out.symm, HLL.out, HB.out⟩
  | some ad =>
    go_enter Tryz.func129, Tryz.ntmps129
    go_wp2_with fail
    refine HD.out.mono ?_
    rintro e w1 ⟨rfl, rfl⟩
    go_wp2_with fail
    refine HA.out.mono ?_
    rintro e w1 ⟨a', c', rfl, hl, hb⟩
    have HLL := hid hl
    have HB := hid hb
    clear hl hb
    go_wp2_with fail
    go_ret
    exact ⟨_, _, ret_slice HL.out.symm, HLL.out, HB.out⟩

theorem rat_any (cap i : Nat) (P : Nat → Prop) (a : Option Addr) (zs : List Int) (w : World) (hrow : RowP P w a zs) :
    Calls Tryz.prog 130 #[.slice a zs.length cap, .int .i64 i] w fun e w' => e = .returned (.int .i64 (zat zs i)) ∧ w' = w := by
  by_cases hlt : i < zs.length
  · obtain ⟨bl, ol, rfl, _, hcl⟩ := hrow i hlt
    have hlt2 : (i : Int) < (zs.length : Int) := by omega
    have hlt0 : ¬ (i : Int) < 0 := by omega
    clear hrow
    generalize zat zs i = x at *
    go_enter Tryz.func130, Tryz.ntmps130
    go_wp2_with fail
    go_ret
    exact ⟨rfl, rfl⟩
  · have hz : Hid (zat zs i = 0) := by unfold Hid zat; simp [show zs.length ≤ i from by omega]
    have hlt2 : ¬ (i : Int) < (zs.length : Int) := by omega
    have hlt0 : ¬ (i : Int) < 0 := by omega
    clear hrow
    go_enter Tryz.func130, Tryz.ntmps130
    go_wp2_with fail
    go_ret
    exact ⟨ret_int hz.out.symm, rfl⟩

theorem padd_ls {p : Nat} (h3 : 3 ≤ p) (xs ys : List Int) : Pol.trim p (ls (fun j => (zat xs j + zat ys j) % (p : Int)) (mxn xs.length ys.length)) = Pol.padd p xs ys := by
  refine Pol.mk_congr (by omega) (Pol.cf_behind p _) (Pol.padd_b p xs ys) (fun j => ?_)
  by_cases hj : j < mxn xs.length ys.length
  · rw [show Pol.cf (ls (fun j => (zat xs j + zat ys j) % (p : Int)) (mxn xs.length ys.length)) j = zat (ls (fun j => (zat xs j + zat ys j) % (p : Int)) (mxn xs.length ys.length)) j from rfl, ls_at _ _ _ hj]
    exact Pol.emod_dvd p _
  · have h : max xs.length ys.length ≤ j := by unfold mxn at hj; omega
    rw [Pol.cf_ge (by rw [ls_len]; omega)]
    simp only [Pol.add]
    rw [Pol.cf_ge (by omega), Pol.cf_ge (by omega)]
    simp

set_option maxHeartbeats 1000000 in
theorem rplus_any (p c1 c2 : Nat) (a1 a2 : Option Addr) (xs ys : List Int) (w : World) (h3 : 3 ≤ p) (hm : p ≤ 2147483647)
    (hn1 : xs.length ≤ 17592186044416) (hn2 : ys.length ≤ 17592186044416) (hf1 : Fits xs) (hf2 : Fits ys) (hl1 : RowB w.heap.size w a1 xs) (hl2 : RowB w.heap.size w a2 ys) :
    Calls Tryz.prog 99 #[.int .i64 p, .slice a1 xs.length c1, .slice a2 ys.length c2] w fun e w' => ∃ a' c', e = .returned (.slice a' (Pol.padd p xs ys).length c') ∧ Lst w'.heap.size w' a' c' (Pol.padd p xs ys) ∧ Below w.heap.size w w' := by
  obtain ⟨i0, hi, hz0, hz1, hz2⟩ := info_parts Tryz.infoInt
  have HF1 := hid hf1
  have HF2 := hid hf2
  have HR1 := hid hl1
  have HR2 := hid hl2
  have HE := hid (padd_ls h3 xs ys)
  have hmx1 : xs.length ≤ mxn xs.length ys.length := by unfold mxn; omega
  have hmx2 : ys.length ≤ mxn xs.length ys.length := by unfold mxn; omega
  have hmx3 : mxn xs.length ys.length ≤ 17592186044416 := by unfold mxn; omega
  have hmx4 : Hid (∀ k, k < mxn xs.length ys.length → k < xs.length ∨ k < ys.length) := fun k hk => by unfold mxn at hk; omega
  clear hf1 hf2 hl1 hl2
  generalize mxn xs.length ys.length = m at *
  generalize Pol.padd p xs ys = res at *
  go_enter Tryz.func99, Tryz.ntmps99
  go_wp2_with fail
  go_loopw [7, 8] (fun v iv wr => ∃ k : Nat, k ≤ m ∧ iv = .int .i64 k ∧ wr.ownsRow w.heap.size 3 1 v (ls (fun j => (zat xs j + zat ys j) % (p : Int)) k).length ((ls (fun j => (zat xs j + zat ys j) % (p : Int)) k).map (Value.int .i64)) ∧ Below w.heap.size w wr)
    (fun _ iv _ => m - (intOf iv).toNat)
  case atStart => exact ⟨0, Nat.zero_le _, rfl, World.ownsRow_nil _ _ _ _, Below.refl _ _⟩
  case round =>
    obtain ⟨k, hk, rfl, hown, hbel⟩ := hrel
    have hsz := hbel.size
    by_cases hlt : k < m
    · have HA1 := hid (rat_any c1 k (· < w.heap.size) a1 xs wr (HR1.out.below hbel))
      have HA2 := hid (rat_any c2 k (· < w.heap.size) a2 ys wr (HR2.out.below hbel))
      have hx := HF1.out.all k
      have hy := HF2.out.all k
      obtain ⟨hx1, hx2⟩ := hx
      obtain ⟨hy1, hy2⟩ := hy
      have HLS := hid (ls_succ (fun j => (zat xs j + zat ys j) % (p : Int)) k)
      have HLL := hid (ls_len (fun j => (zat xs j + zat ys j) % (p : Int)) k)
      have hcase := hmx4.out k hlt
      generalize zat xs k = x at *
      generalize zat ys k = y at *
      by_cases hc : k < xs.length
      · have hc2 : (k : Int) < (xs.length : Int) := by omega
        go_wp2_with fail
        refine HA1.out.mono ?_
        rintro e w1 ⟨rfl, rfl⟩
        go_wp2_with fail
        refine HA2.out.mono ?_
        rintro e w2 ⟨rfl, rfl⟩
        go_wp2_with fail
        refine (radd_any p x y _ h3 hm hx1 hx2 hy1 hy2).mono ?_
        rintro e w3 ⟨rfl, rfl⟩
        generalize ls (fun j => (zat xs j + zat ys j) % (p : Int)) k = lk at *
        go_wp2_with (at_builtin; refine wpList_append_own _ rfl _ _ 25 rfl w.heap.size 3 i0 (.int .i64 0) 1 8 Tryz.underlying25 hi hz0 hz1 hz2 rfl (by decide) _ _ _ rfl (hown.alloc _) ⟨w3.heap.size, 0, none⟩ 1 1 [.int .i64 ((x + y) % (p : Int))] rfl rfl ?c1A ?c2A ?c3A ?c4A ?c5A ?_)
        case c1A =>
          intro j u hj
          match j, hj with
          | 0, hj => simp at hj; subst hj; simp [Addr.add]
        case c2A => intro u hu; simp at hu; subst hu; rfl
        case c3A => have := HLL.out; unfold maxLen; omega
        case c4A => have := HLL.out; omega
        case c5A => simp; omega
        intro v' w4 hown2 hgrow _
        have hown3 := owns_succ hown2
        have HB : Hid (Below w.heap.size w w4) := (hbel.alloc hsz _).grown hgrow (by simp; omega) (fun k hk => (hown.lt k hk).1)
        have HO := hid hown3
        clear hown2 hown3 hgrow hown hbel
        go_wp2_with fail
        go_roundw
        case rel => exact ⟨k + 1, by omega, by go_num, by rw [HLS.out]; exact HO.out, HB.out⟩
        case measure => simp [intOf]; omega
      · have hc2 : ¬ (k : Int) < (xs.length : Int) := by omega
        have hc3 : (k : Int) < (ys.length : Int) := by omega
        go_wp2_with fail
        refine HA1.out.mono ?_
        rintro e w1 ⟨rfl, rfl⟩
        go_wp2_with fail
        refine HA2.out.mono ?_
        rintro e w2 ⟨rfl, rfl⟩
        go_wp2_with fail
        refine (radd_any p x y _ h3 hm hx1 hx2 hy1 hy2).mono ?_
        rintro e w3 ⟨rfl, rfl⟩
        generalize ls (fun j => (zat xs j + zat ys j) % (p : Int)) k = lk at *
        go_wp2_with (at_builtin; refine wpList_append_own _ rfl _ _ 25 rfl w.heap.size 3 i0 (.int .i64 0) 1 8 Tryz.underlying25 hi hz0 hz1 hz2 rfl (by decide) _ _ _ rfl (hown.alloc _) ⟨w3.heap.size, 0, none⟩ 1 1 [.int .i64 ((x + y) % (p : Int))] rfl rfl ?c1B ?c2B ?c3B ?c4B ?c5B ?_)
        case c1B =>
          intro j u hj
          match j, hj with
          | 0, hj => simp at hj; subst hj; simp [Addr.add]
        case c2B => intro u hu; simp at hu; subst hu; rfl
        case c3B => have := HLL.out; unfold maxLen; omega
        case c4B => have := HLL.out; omega
        case c5B => simp; omega
        intro v' w4 hown2 hgrow _
        have hown3 := owns_succ hown2
        have HB : Hid (Below w.heap.size w w4) := (hbel.alloc hsz _).grown hgrow (by simp; omega) (fun k hk => (hown.lt k hk).1)
        have HO := hid hown3
        clear hown2 hown3 hgrow hown hbel
        go_wp2_with fail
        go_roundw
        case rel => exact ⟨k + 1, by omega, by go_num, by rw [HLS.out]; exact HO.out, HB.out⟩
        case measure => simp [intOf]; omega
    · have hlt2 : ¬ (k : Int) < (xs.length : Int) := by omega
      have hlt3 : ¬ (k : Int) < (ys.length : Int) := by omega
      obtain rfl : k = m := by omega
      obtain ⟨a', c', rfl, hl⟩ := lst_of_owns hown
      have HT := hid (rtrim_any p c' a' (ls (fun j => (zat xs j + zat ys j) % (p : Int)) k) wr h3 hm (by rw [ls_len]; omega) (fun j hj => by
        rw [ls_len] at hj
        rw [ls_at _ _ _ hj]
        have := emod_bounds (zat xs j + zat ys j) p h3
        omega) hl)
      rw [HE.out, ls_len] at HT
      have HLL := ls_len (fun j => (zat xs j + zat ys j) % (p : Int)) k
      rw [HLL]
      clear hown hl HLL
      go_wp2_with fail
      refine HT.out.mono ?_
      rintro e w1 ⟨a2', c2', rfl, hl2, hb2⟩
      have HL2 := hid hl2
      have HB2 : Hid (Below w.heap.size w w1) := hbel.trans (hb2.mono hsz)
      clear hl2 hb2
      go_wp2_with fail
      go_ret
      exact ⟨_, _, rfl, HL2.out, HB2.out⟩

end Go.Proofs.YtaapbopcfpihbabGreatDoor

namespace Go.Proofs.YtaapbopcfpihbabGreatDoor
open Go.RowKit

/-- lists that can be read now -/
def Alive (w : World) (L : List (Option Addr × List Int)) : Prop := ∀ e, e ∈ L → RowB w.heap.size w e.1 e.2
theorem Alive.step {w w' : World} {L : List (Option Addr × List Int)} (h : Alive w L) (hb : Below w.heap.size w w') : Alive w' L := fun e he => (RowB.below hb (h e he)).mono hb.size
theorem Alive.nil (w : World) : Alive w [] := fun e he => by cases he
theorem Alive.cons {w : World} {L : List (Option Addr × List Int)} {a : Option Addr} {zs : List Int} (h : Alive w L) (r : RowB w.heap.size w a zs) : Alive w ((a, zs) :: L) := fun e he => by
  cases he with
  | head => exact r
  | tail _ he => exact h e he
theorem Alive.drewN {w : World} {L : List (Option Addr × List Int)} (h : Alive w L) (n : Nat) : Alive (w.drewN n) L := fun e he k hk => by
  obtain ⟨b, o, h1, h2, h3⟩ := h e he k hk
  exact ⟨b, o, h1, h2, h3⟩
theorem Alive.at {w : World} {L : List (Option Addr × List Int)} (h : Alive w L) (i : Nat) {a : Option Addr} {zs : List Int} (e : L[i]? = some (a, zs)) : RowB w.heap.size w a zs := h _ (List.mem_of_getElem? e)
theorem ints_same (n0 n1 : Nat) (zs : List Int) (a b : Option Addr) (ca cb : Nat) (w : World) (ha : RowB n0 w a zs) (hb : RowB n1 w b zs) (hx : zs.length ≤ 9223372036854775807) :
    Calls Tryz.prog 8 #[.slice a zs.length ca, .slice b zs.length cb] w fun e w' => e = .returned (.bool true) ∧ ∃ n, w' = w.drewN n :=
  (ints_any zs zs _ _ w (rowZ_of_B ca ha) (rowZ_of_B cb hb) hx hx).mono fun _ _ h => ⟨by rw [h.1, decide_eq_true rfl], h.2⟩

end Go.Proofs.YtaapbopcfpihbabGreatDoor

namespace Go.Proofs.YtaapbopcfpihbabGreatDoor
open Go.RowKit

end Go.Proofs.YtaapbopcfpihbabGreatDoor
