/- What the function values inside package poly's Gcd and lastRow answer. -/
import Derived.Test.YtfombbbiilalpabDoorPolE
import Derived.Deep.RegionWith
import Derived.Deep.RegionHeld3
namespace Go.Proofs.YtfombbbiilalpabDoor
open Go.RowKit

set_option maxHeartbeats 2000000 in
theorem left_any (p b Bf Bq c1 c2 cq : Nat) (a1 a2 aq : Option Addr) (xs ys qs : List Int) (w : World) (hpr : Num.Prime p) (h3 : 3 ≤ p) (hm : p ≤ 2147483647) (hp : w.cell? ⟨b, 0, none⟩ = some (.int .i64 p))
    (hbf : w.cell? ⟨Bf, 0, none⟩ = some (.pointer (some ⟨b, 0, none⟩))) (hbq : w.cell? ⟨Bq, 0, none⟩ = some (.slice aq qs.length cq))
    (hn1 : xs.length ≤ 17592186044416) (hn2 : qs.length + ys.length ≤ 17592186044416) (hf1 : Fits xs) (hf2 : Fits ys) (hf3 : Fits qs) (hr1 : RowB w.heap.size w a1 xs) (hr2 : RowB w.heap.size w a2 ys) (hr3 : RowB w.heap.size w aq qs) :
    Calls Tryd.prog 70 #[.slice a1 xs.length c1, .slice a2 ys.length c2, .pointer (some ⟨Bf, 0, none⟩), .pointer (some ⟨Bq, 0, none⟩)] w fun e w' => ∃ a c,
      e = .returned (.slice a (Pol.psub p xs (Pol.pmul p qs ys)).length c) ∧ NewR w.heap.size w' a (Pol.psub p xs (Pol.pmul p qs ys)) ∧ Below w.heap.size w w' := by
  have hb := heap_lt hp
  have hBf := heap_lt hbf
  have HM := hid (pmul_any p b cq c2 (· < w.heap.size) aq a2 qs ys w.drew hpr h3 hm hp hn2 hf3 hf2 hr3 hr2 (fun _ h => h))
  have HS : Hid (∀ (am : Option Addr) (cm : Nat) (w1 : World), Below w.heap.size w w1 → NewR w.heap.size w1 am (Pol.pmul p qs ys) → Calls Tryd.prog 14 #[.pointer (some ⟨b, 0, none⟩), .slice a1 xs.length c1, .slice am (Pol.pmul p qs ys).length cm] w1 fun e w' => ∃ cap,
      e = .returned (.slice (some ⟨w1.heap.size, 0, none⟩) (Pol.psub p xs (Pol.pmul p qs ys)).length cap) ∧ (Pol.psub p xs (Pol.pmul p qs ys)).length ≤ cap ∧
      Cells w1.heap.size 0 (Pol.psub p xs (Pol.pmul p qs ys)).length (zat (Pol.psub p xs (Pol.pmul p qs ys))) w' ∧ Below w1.heap.size w1 w' ∧ w'.heap.size = w1.heap.size + 1) := fun am cm w1 hb1 hnr =>
    psub_any p b c1 cm (· < w1.heap.size) a1 am xs (Pol.pmul p qs ys) w1 h3 hm ((hb1.cell (p := ⟨b, 0, none⟩) hb).trans hp) hn1 (by have := Pol.pmul_le p qs ys; omega) hf1 (fits_of_can hm (pmul_can h3 _ _)) ((hr1.below hb1).mono hb1.size) hnr.row (fun _ h => h)
  have HBF : Hid (∀ w1 : World, Below w.heap.size w w1 → w1.cell? ⟨Bf, 0, none⟩ = some (.pointer (some ⟨b, 0, none⟩))) := fun w1 h => (h.cell (p := ⟨Bf, 0, none⟩) hBf).trans hbf
  clear hpr hf1 hf2 hf3 hr1 hr2 hr3
  generalize Pol.psub p xs (Pol.pmul p qs ys) = res at *
  generalize Pol.pmul p qs ys = pm at *
  go_enter Tryd.func70, Tryd.ntmps70
  go_wp2_with fail
  go_region_with (first
    | (go_at_call 15; refine HM.out.mono ?_; rintro e w1 ⟨am, cm, rfl, hnm, _, hb1⟩; have HB1 : Hid (Below w.heap.size w w1) := ((Below.refl w.heap.size w).drew).trans hb1; have HNM : Hid (NewR w.heap.size w1 am pm) := hnm; have hbf1 := HBF.out w1 HB1.out; clear hnm hb1)
    | (go_at_call 14; refine (HS.out am cm w1 HB1.out HNM.out).mono ?_; rintro e w2 ⟨cs, rfl, _, hcs, hb2, hs2⟩; have HB2 := hid hb2; have HCS := hid hcs; have hs2' := hid hs2; clear hcs hb2 hs2))
  all_goals
    have hsz := HB1.out.size
    have hsw : w.heap.size ≤ w1.heap.size := hsz
    have HEND : Hid (Below w.heap.size w w2) := HB1.out.trans (HB2.out.mono hsw)
    have HNR : Hid (NewR w.heap.size w2 (some ⟨w1.heap.size, 0, none⟩) res) := HCS.out.newr (Nat.le_refl _) (fun _ _ => rfl) hsw (by have := hs2'.out; omega)
    clear hsz
    go_wp2_with fail
    go_ret
    first | exact ⟨_, _, rfl, HNR.out, HEND.out⟩ | exact ⟨_, ⟨_, rfl⟩, HNR.out, HEND.out⟩

set_option maxHeartbeats 1000000 in
theorem scaled_any (p b Bf Bi c1 : Nat) (a1 : Option Addr) (xs : List Int) (iv : Int) (w : World) (hpr : Num.Prime p) (h3 : 3 ≤ p) (hm : p ≤ 2147483647) (hp : w.cell? ⟨b, 0, none⟩ = some (.int .i64 p))
    (hbf : w.cell? ⟨Bf, 0, none⟩ = some (.pointer (some ⟨b, 0, none⟩))) (hbi : w.cell? ⟨Bi, 0, none⟩ = some (.int .i64 iv)) (hi1 : -9223372036854775808 ≤ iv) (hi2 : iv ≤ 9223372036854775807)
    (hn1 : xs.length + 1 ≤ 17592186044416) (hf1 : Fits xs) (hr1 : RowB w.heap.size w a1 xs) :
    Calls Tryd.prog 58 #[.slice a1 xs.length c1, .pointer (some ⟨Bf, 0, none⟩), .pointer (some ⟨Bi, 0, none⟩)] w fun e w' => ∃ a c,
      e = .returned (.slice a (Pol.pmul p xs [iv]).length c) ∧ NewR w.heap.size w' a (Pol.pmul p xs [iv]) ∧ ((Pol.pmul p xs [iv]).length ≤ c ∧ (a = none → c = 0)) ∧ Below w.heap.size w w' := by
  have hb := heap_lt hp
  have hBf := heap_lt hbf
  have hc1 : (w.alloc (.cells #[.int .i64 iv] 3)).cell? ⟨b, 0, none⟩ = some (.int .i64 p) := (World.cell?_alloc_lt _ _ ⟨b, 0, none⟩ hb).trans hp
  have HM := hid (pmul_any p b c1 1 (· < (w.alloc (.cells #[.int .i64 iv] 3)).heap.size) a1 (some ⟨w.heap.size, 0, none⟩) xs [iv] (w.alloc (.cells #[.int .i64 iv] 3)) hpr h3 hm hc1 (by simpa using hn1) hf1 (fun j hj => by simp at hj; subst hj; exact ⟨hi1, hi2⟩)
    ((hr1.below ((Below.refl w.heap.size w).alloc (Nat.le_refl _) _)).mono (by simp)) (fun j hj => by simp at hj; subst hj; exact ⟨w.heap.size, 0, rfl, by simp, by simp [zat]⟩) (fun _ h => h))
  have HB0 : Hid (Below w.heap.size w (w.alloc (.cells #[.int .i64 iv] 3))) := (Below.refl w.heap.size w).alloc (Nat.le_refl _) _
  clear hpr hf1 hr1 hc1
  generalize Pol.pmul p xs [iv] = res at *
  go_enter Tryd.func58, Tryd.ntmps58
  go_wp2_with fail
  refine HM.out.mono ?_
  rintro e w1 ⟨a, c, rfl, hn, hrm, hb1⟩
  have HRM : Hid (res.length ≤ c ∧ (a = none → c = 0)) := ⟨hrm.2, fun e => (hrm.1 e).2⟩
  have HNR : Hid (NewR w.heap.size w1 a res) := fun k hk => by
    obtain ⟨bl, ol, e1, e2, e3⟩ := hn k hk
    have e2' := e2.1
    simp at e2'
    exact ⟨bl, ol, e1, ⟨by omega, e2.2⟩, e3⟩
  have HB1 : Hid (Below w.heap.size w w1) := HB0.out.trans (hb1.mono (by simp))
  clear hn hb1 hrm
  go_wp2_with fail
  go_ret
  exact ⟨_, _, rfl, HNR.out, HRM.out, HB1.out⟩

end Go.Proofs.YtfombbbiilalpabDoor
