/- attestref4: weight, Extend, Fix, Total, At. attestsame.Sponge, attestlaw3's plain and lives. slices.Chunk over a list whose length is a multiple of four, by its own text: what comes round by round. -/
import Derived.Test.YtpgnabmkfkcogaaGreatDoorGmAE
import Derived.Test.YtpgnabmkfkcogaaGreatDoorSpgs
import Derived.Test.YtpgnabmkfkcogaaGreatDoorDoms
import Derived.RangeFuncNested
import Derived.RangeFuncBound
import Derived.RangeFuncCalls
import Derived.RangeFuncLeaves
import Derived.RangeFuncBox
import Derived.RangeFuncWrites
import Derived.Shelf.Abstract
import Derived.WalkKit
import Derived.OwnWalkIn
import Derived.TacticsInMore
import Derived.LoopNIn
import Derived.LoopIn
import Derived.RegionIn
import Derived.BigRegionIn
import Derived.Test.YtpgnabmkfkcogaaGreatDoorFld
namespace Go.Proofs.YtpgnabmkfkcogaaGreatDoor
open Go.RowKit

theorem mulmod {p : Nat} (hp : 0 < p) {X P r F : Int} (hX : (p : Int) ∣ X - P) (hr : (p : Int) ∣ r - F) : X * r % (p : Int) = P * F % (p : Int) := by
  rw [Pol.emod_eq_iff hp]
  exact Sum.dvd_mul_sub hX hr
theorem dvd_self_mod (p : Nat) (a : Int) : (p : Int) ∣ a % (p : Int) - a := Pol.emod_dvd p a

set_option maxRecDepth 100000 in
set_option maxHeartbeats 2000000 in
theorem rweight_any (p v i cap : Nat) (a : Option Addr) (at' : List Int) (w : World) (n0 : Nat) (h3 : 3 ≤ p) (hm : p ≤ 2147483647) (hv : at'.length = v) (hv12 : v ≤ 12) (hi : i ≤ 17592186044416) (hf : Fits at') (hr : RowB n0 w a at') :
    Calls Tryz.prog 207 #[.int .i64 p, .int .i64 (v : Int), .int .i64 (i : Int), .slice a v cap] w fun e w' => e = .returned (.int .i64 (Sum.wgt (zat at') v i % (p : Int))) ∧ w' = w := by
  have HF := hid hf
  have HR := hid hr
  have HV := hid hv
  clear hf hr hv
  obtain ⟨G, hG⟩ : ∃ G : Nat → Int, G = fun k => if (i / 2 ^ k) % 2 = 0 then 1 - zat at' (v - 1 - k) else zat at' (v - 1 - k) := ⟨_, rfl⟩
  have HG := hid hG
  have HW : Hid (Sum.wgt (zat at') v i = Sum.prz G v) := by rw [hG]; exact rfl
  clear hG
  have hv1 : IntKind.i64.wrap ((v : Int) - 1) = (v : Int) - 1 := by rw [IntKind.wrap_i64]; omega
  go_enter Tryz.func207, Tryz.ntmps207
  go_wp2_with fail
  go_loop [9, 10, 11] (fun xv hv jv => ∃ (k H : Nat) (X z : Int), k ≤ v ∧ jv = .int .i64 z ∧ z = (v : Int) - 1 - (k : Int) ∧ hv = .int .i64 (H : Int) ∧ xv = .int .i64 X ∧ 0 ≤ X ∧ X < (p : Int) ∧ 1 ≤ H ∧ H ≤ 4096 ∧ Hid (H = 2 ^ k ∧ X = Sum.prz G k % (p : Int))) (fun _ _ jv => (intOf jv + 1).toNat)
  case atStart => exact ⟨0, 1, 1, (v : Int) - 1, by omega, rfl, by omega, rfl, rfl, by omega, by omega, by omega, by omega, rfl, by simp only [Sum.prz]; rw [Int.emod_eq_of_lt (by omega) (by omega)]⟩
  case round =>
    obtain ⟨k, H, X, z, hk, rfl, hz, rfl, rfl, hX1, hX2, hH1, hH2, hI⟩ := hrel
    by_cases hlt : k < v
    · obtain ⟨j, hj⟩ : ∃ j, j = v - 1 - k := ⟨_, rfl⟩
      obtain rfl : z = (j : Int) := by omega
      have HJ := hid hj
      have hjv : j < v := by omega
      have hjk : v = j + k + 1 := by omega
      have HJK := hid hjk
      clear hj hjk hz
      have hjv2 : (j : Int) < (v : Int) := by omega
      have hj0 : (j : Int) ≥ 0 := by omega
      have hjw : IntKind.i64.wrap ((j : Int) - 1) = (j : Int) - 1 := by rw [IntKind.wrap_i64]; omega
      obtain ⟨b, o, rfl, _, hc⟩ := HR.out j (by rw [HV.out]; exact hjv)
      obtain ⟨f1, f2⟩ := HF.out.all j
      obtain ⟨y, hy⟩ : ∃ y, y = zat at' j := ⟨_, rfl⟩
      rw [← hy] at hc f1 f2
      have HOF := hid (rof_any p y w h3 hm f1 f2)
      obtain ⟨b1, b2⟩ := emod_bounds y p h3
      have HYD := hid (dvd_self_mod p y)
      generalize y % (p : Int) = ym at *
      obtain ⟨Q, hQ⟩ : ∃ Q, Q = i / H := ⟨_, rfl⟩
      obtain ⟨B, hB⟩ : ∃ B, B = Q % 2 := ⟨_, rfl⟩
      have hQi : Q ≤ 17592186044416 := by rw [hQ]; exact Nat.le_trans (Nat.div_le_self _ _) hi
      have q1 : (i : Int).tdiv (H : Int) = (Q : Int) := by rw [hQ]; rfl
      have q2 : IntKind.i64.wrap (Q : Int) = (Q : Int) := by rw [IntKind.wrap_i64]; omega
      have q3 : (Q : Int).tmod 2 = (B : Int) := by rw [hB]; rfl
      have hB2 : B < 2 := by omega
      have q4 : IntKind.i64.wrap (B : Int) = (B : Int) := by rw [IntKind.wrap_i64]; omega
      have q5 : ¬ (H : Int) = 0 := by omega
      have q6 : IntKind.i64.wrap ((H : Int) * 2) = (H : Int) * 2 := by rw [IntKind.wrap_i64]; omega
      have HBB : Hid (B = i / 2 ^ k % 2) := by unfold Hid; rw [hB, hQ, hI.out.1]
      have HGk : Hid (G k = if B = 0 then 1 - y else y) := by unfold Hid; rw [HG.out]; simp only; rw [← HBB.out, ← HJ.out, ← hy]
      have HX : Hid ((p : Int) ∣ X - Sum.prz G k) := by unfold Hid; rw [hI.out.2]; exact dvd_self_mod p _
      have HN : Hid (k + 1 < v → H * 2 ≤ 4096) := fun hk1 => by
        have h1 := hI.out.1
        have : 2 ^ (k + 1) ≤ 2 ^ 12 := Nat.pow_le_pow_right (by omega) (by omega)
        rw [Nat.pow_succ] at this
        omega
      have HH2 : Hid (H * 2 = 2 ^ (k + 1)) := by unfold Hid; rw [Nat.pow_succ, ← hI.out.1]
      have hH3 : H * 2 ≤ 4096 := by
        have h1 := HH2.out
        have : 2 ^ (k + 1) ≤ 2 ^ 12 := Nat.pow_le_pow_right (by omega) (by omega)
        omega
      clear hI hQ hB hy HN HG HW
      by_cases hb0 : B = 0
      · have t : ((B : Int) == 0) = true := by simp [hb0]
        have HS := hid (rsub_any p 1 ym w h3 hm (by omega) (by omega) (by omega) (by omega))
        obtain ⟨c1, c2⟩ := emod_bounds (1 - ym) p h3
        have HSD : Hid ((p : Int) ∣ (1 - ym) % (p : Int) - (1 - y)) := by
          have h1 := dvd_self_mod p (1 - ym)
          have h2 := HYD.out
          have := Int.dvd_sub h1 h2
          rwa [show (1 - ym) % (p : Int) - (1 - ym) - (ym - y) = (1 - ym) % (p : Int) - (1 - y) from by omega] at this
        generalize (1 - ym) % (p : Int) = sm' at *
        have HMU := hid (rmul_any p X sm' w h3 hm (by omega) (by omega) (by omega) (by omega))
        obtain ⟨d1, d2⟩ := emod_bounds (X * sm') p h3
        have HE : Hid (X * sm' % (p : Int) = Sum.prz G (k + 1) % (p : Int)) := by
          unfold Hid
          rw [mulmod (by omega) HX.out HSD.out, Sum.prz, HGk.out, if_pos hb0]
        generalize X * sm' % (p : Int) = X' at *
        clear hb0
        go_wp2_with fail
        refine HOF.out.mono ?_
        rintro e w1 ⟨rfl, rfl⟩
        go_wp2_with fail
        refine HS.out.mono ?_
        rintro e w1 ⟨rfl, rfl⟩
        go_wp2_with fail
        refine HMU.out.mono ?_
        rintro e w1 ⟨rfl, rfl⟩
        go_wp2_with fail
        go_round
        case rel => exact ⟨k + 1, H * 2, X', (j : Int) - 1, by omega, by go_num, by have := HJK.out; omega, by go_num, rfl, d1, d2, by omega, hH3, HH2.out, HE.out⟩
        case measure => simp [intOf]
      · have t : ((B : Int) == 0) = false := by simp; omega
        have HMU := hid (rmul_any p X ym w h3 hm (by omega) (by omega) (by omega) (by omega))
        obtain ⟨d1, d2⟩ := emod_bounds (X * ym) p h3
        have HE : Hid (X * ym % (p : Int) = Sum.prz G (k + 1) % (p : Int)) := by
          unfold Hid
          rw [mulmod (by omega) HX.out HYD.out, Sum.prz, HGk.out, if_neg hb0]
        generalize X * ym % (p : Int) = X' at *
        clear hb0
        go_wp2_with fail
        refine HOF.out.mono ?_
        rintro e w1 ⟨rfl, rfl⟩
        go_wp2_with fail
        refine HMU.out.mono ?_
        rintro e w1 ⟨rfl, rfl⟩
        go_wp2_with fail
        go_round
        case rel => exact ⟨k + 1, H * 2, X', (j : Int) - 1, by omega, by go_num, by have := HJK.out; omega, by go_num, rfl, d1, d2, by omega, hH3, HH2.out, HE.out⟩
        case measure => simp [intOf]
    · obtain rfl : k = v := by omega
      obtain rfl : z = -1 := by omega
      have HE : Hid (X = Sum.wgt (zat at') k i % (p : Int)) := by unfold Hid; rw [HW.out, hI.out.2]
      clear hI
      go_wp2_with fail
      go_ret
      exact ⟨by rw [← HE.out]; rfl, rfl⟩

set_option maxRecDepth 100000 in
set_option maxHeartbeats 1000000 in
theorem rextend_any (p v c1 c2 : Nat) (a1 a2 : Option Addr) (t at' : List Int) (w : World) (n1 n2 : Nat) (h3 : 3 ≤ p) (hm : p ≤ 2147483647) (hv : at'.length = v) (hv12 : v ≤ 12) (hl : t.length = 2 ^ v) (hf1 : Fits t) (hf2 : Fits at') (hr1 : RowB n1 w a1 t) (hr2 : RowB n2 w a2 at') :
    Calls Tryz.prog 157 #[.int .i64 p, .slice a1 t.length c1, .slice a2 v c2] w fun e w' => e = .returned (.int .i64 (Sum.ext (zat t) (zat at') v % (p : Int))) ∧ w' = w := by
  have HF1 := hid hf1
  have HR1 := hid hr1
  obtain ⟨N, hN⟩ : ∃ N, N = t.length := ⟨_, rfl⟩
  have hNs : N ≤ 4096 := by
    have : 2 ^ v ≤ 2 ^ 12 := Nat.pow_le_pow_right (by omega) hv12
    omega
  rw [← hN]
  have HN := hid hN
  have HN2 : Hid (N = 2 ^ v) := by unfold Hid; rw [hN, hl]
  have HWG := hid (fun i (hi : i ≤ 17592186044416) => rweight_any p v i c2 a2 at' w n2 h3 hm hv hv12 hi hf2 hr2)
  obtain ⟨G, hG⟩ : ∃ G : Nat → Int, G = fun i => zat t i * Sum.wgt (zat at') v i := ⟨_, rfl⟩
  have HG := hid hG
  have HE0 : Hid (Sum.ext (zat t) (zat at') v = Dom.sm G N) := by unfold Hid; rw [hG, HN2.out]; rfl
  clear hf1 hf2 hr1 hr2 hl hN hv hG
  go_enter Tryz.func157, Tryz.ntmps157
  go_wp2_with fail
  go_loop [7, 8] (fun sv iv => ∃ (k : Nat) (s : Int), k ≤ N ∧ iv = .int .i64 k ∧ sv = .int .i64 s ∧ 0 ≤ s ∧ s < (p : Int) ∧ Hid (s = Dom.sm G k % (p : Int))) (fun _ iv => N - (intOf iv).toNat)
  case atStart => exact ⟨0, 0, by omega, rfl, rfl, by omega, by omega, by simp [Hid, Dom.sm]⟩
  case round =>
    obtain ⟨k, s, hk, rfl, rfl, hs1, hs2, hI⟩ := hrel
    by_cases hlt : k < N
    · have hlt2 : (k : Int) < (N : Int) := by omega
      have hks : IntKind.i64.wrap ((k : Int) + 1) = (k : Int) + 1 := by rw [IntKind.wrap_i64]; omega
      obtain ⟨b, o, rfl, _, hc⟩ := HR1.out k (by rw [← HN.out]; exact hlt)
      obtain ⟨f1, f2⟩ := HF1.out.all k
      have HW := hid (HWG.out k (by omega))
      obtain ⟨W, hW⟩ : ∃ W, W = Sum.wgt (zat at') v k := ⟨_, rfl⟩
      obtain ⟨y, hy⟩ : ∃ y, y = zat t k := ⟨_, rfl⟩
      have HGk : Hid (G k = y * W) := by unfold Hid; rw [HG.out, hy, hW]
      rw [← hW] at HW
      rw [← hy] at hc f1 f2
      obtain ⟨b1, b2⟩ := emod_bounds W p h3
      have HWD := hid (dvd_self_mod p W)
      generalize W % (p : Int) = wm at *
      have HMU := hid (rmul_any p y wm w h3 hm f1 f2 (by omega) (by omega))
      obtain ⟨d1, d2⟩ := emod_bounds (y * wm) p h3
      have HXD : Hid ((p : Int) ∣ y * wm % (p : Int) - G k) := by
        unfold Hid
        rw [HGk.out, mulmod (show 0 < p by omega) (show (p : Int) ∣ y - y by simp) HWD.out]
        exact dvd_self_mod p _
      generalize y * wm % (p : Int) = x at *
      have hp0 : ¬ (p : Int) = 0 := by omega
      have hw1 : IntKind.i64.wrap (s + x) = s + x := by rw [IntKind.wrap_i64]; omega
      have hw2 : (s + x).tmod (p : Int) = (s + x) % (p : Int) := Int.tmod_eq_emod_of_nonneg (by omega)
      obtain ⟨g1, g2⟩ := emod_bounds (s + x) p h3
      have hw3 : IntKind.i64.wrap ((s + x) % (p : Int)) = (s + x) % (p : Int) := by rw [IntKind.wrap_i64]; omega
      have HE : Hid ((s + x) % (p : Int) = Dom.sm G (k + 1) % (p : Int)) := by
        unfold Hid
        rw [Pol.emod_eq_iff (by omega), Dom.sm]
        refine Sum.dvd_add_sub ?_ HXD.out
        rw [hI.out]
        exact dvd_self_mod p _
      generalize (s + x) % (p : Int) = s' at *
      clear hI hy hW
      go_wp2_with fail
      refine HW.out.mono ?_
      rintro e w1 ⟨rfl, rfl⟩
      go_wp2_with fail
      refine HMU.out.mono ?_
      rintro e w1 ⟨rfl, rfl⟩
      go_wp2_with fail
      go_round
      case rel => exact ⟨k + 1, s', by omega, by go_num, rfl, g1, g2, HE⟩
      case measure => simp [intOf]; omega
    · obtain rfl : k = N := by omega
      have hlt2 : ¬ (k : Int) < (k : Int) := by omega
      have HE : Hid (s = Sum.ext (zat t) (zat at') v % (p : Int)) := by unfold Hid; rw [HE0.out, hI.out]
      clear hI
      go_wp2_with fail
      go_ret
      exact ⟨by rw [← HE.out]; rfl, rfl⟩

/-- the table over one variable less: the first is r -/
def fixl (p : Nat) (t : List Int) (r : Int) : List Int := ls (fun i => (zat t i * (1 - r) + zat t (i + t.length / 2) * r) % (p : Int)) (t.length / 2)
theorem fixl_len (p : Nat) (t : List Int) (r : Int) : (fixl p t r).length = t.length / 2 := ls_len _ _
theorem fixl_at {p : Nat} {t : List Int} {r : Int} {i : Nat} (h : i < t.length / 2) : zat (fixl p t r) i = (zat t i * (1 - r) + zat t (i + t.length / 2) * r) % (p : Int) := ls_at _ _ _ h

/-- the sum of products -/
def totz (p : Nat) (rows : List (List Int)) : Int := Dom.sm (fun i => Sum.prz (fun k => zat (rat rows k) i) rows.length) (rat rows 0).length % (p : Int)
theorem totz_bounds (p : Nat) (rows : List (List Int)) (h3 : 3 ≤ p) : 0 ≤ totz p rows ∧ totz p rows < p := emod_bounds _ p h3

/-- 0, 1, .. -/
def cnt' (n : Nat) : List Int := ls (fun i => (i : Int)) n
theorem cnt_len (n : Nat) : (cnt' n).length = n := ls_len _ _
/-- what the polynomial that is l at 0, 1, .. is at r -/
def atz (p : Nat) (l : List Int) (r : Int) : Int := evz p (pfit p (cnt' l.length) l) r
theorem atz_bounds (p : Nat) (l : List Int) (r : Int) (h3 : 3 ≤ p) : 0 ≤ atz p l r ∧ atz p l r < p := emod_bounds _ p h3
end Go.Proofs.YtpgnabmkfkcogaaGreatDoor

namespace Go.Proofs.YtpgnabmkfkcogaaGreatDoor
open Go.RowKit

/-- a sponge may be made of this -/
def GoodS (p : Int) : Prop := okPrime p ∧ 23 ≤ p

theorem sponge_yes (q : Nat) (w : World) (h23 : 23 ≤ q) (h4 : q ≤ 2147483647) (hpr : Num.Prime q) :
    Calls Tryz.prog 28 #[.int .i64 q] w fun e w' => ∃ s b n d, e = .returned (.tuple #[.pointer (some ⟨s, 0, none⟩), .bool true]) ∧ SpgOk q n d ∧ SpgAt w' s b q n d ∧ Below w.heap.size w w' := by
  have HF := hid (field_yes q w (by omega) h4 hpr)
  have HP := hid hpr
  have hge : (23 : Int) ≤ (q : Int) := by omega
  clear hpr
  go_enter Tryz.func28, Tryz.ntmps28
  go_wp2_with fail
  refine HF.out.mono ?_
  rintro e w1 ⟨rfl, hc1, hb1, hlt1⟩
  have HC1 := hid hc1
  have HB1 := hid hb1
  clear hc1 hb1
  go_wp2_with fail
  refine (snew_any q w.heap.size w1 HP.out h23 h4 HC1.out).mono ?_
  rintro e w2 ⟨s, n, d, rfl, hls, hok, hat, hb2⟩
  have HE := hid (And.intro hok (And.intro hat (HB1.out.trans (hb2.mono HB1.out.size))))
  clear hok hat hb2
  go_wp2_with fail
  refine (error_nil 0 _).mono ?_
  rintro e w3 ⟨rfl, rfl⟩
  go_wp2_with fail
  go_ret2
  exact ⟨s, _, n, d, rfl, HE.out.1, HE.out.2.1, HE.out.2.2⟩

set_option maxHeartbeats 1000000 in
theorem sponge_no (p : Int) (w : World) (hL : Laid w) (hno : ¬ GoodS p) (hp1 : -9223372036854775808 ≤ p) (hp2 : p ≤ 9223372036854775807) :
    Calls Tryz.prog 28 #[.int .i64 p] w fun e w' => e = .returned (.tuple #[.pointer none, .bool true]) ∧ Below w.heap.size w w' := by
  by_cases hok : okPrime p
  · obtain ⟨q, rfl⟩ := Int.eq_ofNat_of_zero_le (show 0 ≤ p by have := hok.1; omega)
    have hlt : q < 23 := by
      rcases Nat.lt_or_ge q 23 with g | g
      · exact g
      · exact absurd ⟨hok, by omega⟩ hno
    obtain ⟨hq3, hq4, hqp⟩ := hok
    rw [Int.toNat_natCast] at hqp
    have HF := hid (field_yes q w (by omega) (by omega) hqp)
    have hlt2 : ¬ (23 : Int) ≤ (q : Int) := by omega
    have HL := hid hL
    clear hno hqp hL hp1 hp2
    go_enter Tryz.func28, Tryz.ntmps28
    go_wp2_with fail
    refine HF.out.mono ?_
    rintro e w1 ⟨rfl, hc1, hb1, hlt1⟩
    have HC1 := hid hc1
    have HB1 := hid hb1
    have HL1 : Hid (Laid w1) := (hb1.cell (p := ⟨0, 0, none⟩) (cell_lt HL.out)).trans HL.out
    clear hc1 hb1
    go_wp2_with fail
    refine (snew_no q w.heap.size w1 (by omega) hlt HC1.out).mono ?_
    rintro e w2 ⟨rfl, rfl⟩
    go_wp2_with fail
    refine (error_hit 3 3 _ HL1.out).mono ?_
    rintro e w3 ⟨rfl, hb3⟩
    have HB3 : Hid (Below w.heap.size w w3) := HB1.out.trans (hb3.mono HB1.out.size)
    clear hb3
    go_wp2_with fail
    go_ret2
    exact ⟨rfl, HB3.out⟩
  · have HF := hid (field_no p w hL hok hp1 hp2)
    clear hno hok hL hp1 hp2
    go_enter Tryz.func28, Tryz.ntmps28
    go_wp2_with fail
    refine HF.out.mono ?_
    rintro e w1 ⟨rfl, hb1⟩
    have HB1 := hid hb1
    clear hb1
    go_wp2_with fail
    go_ret2
    exact ⟨rfl, HB1.out⟩

end Go.Proofs.YtpgnabmkfkcogaaGreatDoor

namespace Go.Proofs.YtpgnabmkfkcogaaGreatDoor
open Go.RowKit Go.Shelf

attribute [local go_sem] Oper.semAt_some

/-- these fours have come -/
def CameC {m : Nat} (pre : List (Fin m)) (k : Nat) : Prop := pre.map (fun i => i.val) = List.range k
theorem cameC_nil (m : Nat) : CameC ([] : List (Fin m)) 0 := rfl
theorem cameC_snoc {m : Nat} {pre : List (Fin m)} {k : Nat} (h : CameC pre k) (x : Fin m) (hx : x.val = k) : CameC (pre ++ [x]) (k + 1) := by
  unfold CameC at *
  rw [List.map_append, h, List.range_succ]; simp [hx]
theorem cameC_length {m : Nat} {pre : List (Fin m)} {k : Nat} (h : CameC pre k) : pre.length = k := by
  have := congrArg List.length h
  simpa using this
theorem cameC_inv {m : Nat} {pre : List (Fin m)} {x : Fin m} {k : Nat} (h : CameC (pre ++ [x]) (k + 1)) : CameC pre k ∧ x.val = k := by
  unfold CameC at *
  rw [List.map_append, List.range_succ] at h
  obtain ⟨h1, h2⟩ := List.append_inj' h rfl
  exact ⟨h1, by simpa using h2⟩

/-- what a round keeps: the boxes of the list and of its step -/
def KeepsC (Bs : Nat) (A B : World) : Prop := B.cell? ⟨Bs, 0, none⟩ = A.cell? ⟨Bs, 0, none⟩ ∧ B.cell? ⟨Bs + 1, 0, none⟩ = A.cell? ⟨Bs + 1, 0, none⟩
theorem KeepsC.refl (Bs : Nat) (A : World) : KeepsC Bs A A := ⟨rfl, rfl⟩
theorem KeepsC.trans {Bs : Nat} {A B C : World} (h : KeepsC Bs A B) (k : KeepsC Bs B C) : KeepsC Bs A C := ⟨k.1.trans h.1, k.2.trans h.2⟩

set_option maxRecDepth 100000 in
set_option maxHeartbeats 2000000 in
theorem chunk1_in (F : Fence) (n : Nat) (hf : F.fn 228) (hro : F.round = none) (hn : 1 ≤ n) (l Bs ap L m : Nat) (hL : L = 4 * m) (hlen : m ≤ 140737488351232) (J Jx : List (Fin m) → World → Prop)
    (hAb : ∀ s A B, J s A → A.grownBy B none → J s B)
    (hY : ∀ pre x W, J pre W → pre.length < m → YieldAt F (n - 1) Tryz.prog l #[.slice (some ⟨ap, 4 * x.val, none⟩) 4 4] W fun e W' =>
      (e = .returned (.bool true) ∧ J (pre ++ [x]) W' ∧ KeepsC Bs W W') ∨ (e = .returned (.bool false) ∧ Jx (pre ++ [x]) W'))
    (W : World) (hBs : W.cell? ⟨Bs, 0, none⟩ = some (.slice (some ⟨ap, 0, none⟩) L L)) (hBn : W.cell? ⟨Bs + 1, 0, none⟩ = some (.int .i64 4)) (h0 : J [] W) :
    CallsIn F n Tryz.prog 228 #[.func (.yield l) #[] #[], .pointer (some ⟨Bs, 0, none⟩), .pointer (some ⟨Bs + 1, 0, none⟩)] W fun e W' => (∃ v, e = .returned v) ∧
      ((∃ ys, CameC ys m ∧ J ys W') ∨ (∃ pre, True ∧ Jx pre W')) := by
  have hmx : Tryz.prog.follows .mixedOrders = true := by kernel_rfl
  have HLM := hid hL
  have hLb : L ≤ 562949953404928 := by omega
  clear hL
  refine callsIn_of_wp Tryz.func228 rfl hf ?_ hro
  simp only [Tryz.ntmps228, List.size_toArray, List.length_cons, List.length_nil, Nat.reduceAdd, Nat.reduceSub, Array.replicate_succ, Array.replicate_zero, List.push_toArray, List.append_toArray, List.nil_append, List.cons_append]
  gi_wp2
  gi_loopw [4] (fun i wr => ∃ (k : Nat) (pre : List (Fin m)) (I : Nat), k ≤ m ∧ i = .int .i64 (I : Int) ∧ Hid (I = 4 * k) ∧ Hid (CameC pre k) ∧ J pre wr ∧ Hid (KeepsC Bs W wr))
    (fun i _ => L - (intOf i).toNat)
  case atStart => exact ⟨0, [], 0, by omega, rfl, rfl, cameC_nil m, h0, KeepsC.refl _ _⟩
  case round =>
    obtain ⟨k, pre, I, hk, rfl, hI, hcame, hJs, hkp⟩ := hrel
    have hBs2 := hkp.out.1.trans hBs
    have hBn2 := hkp.out.2.trans hBn
    by_cases hlt : k < m
    · have hIL : I + 4 ≤ L := by have := hI.out; have := HLM.out; omega
      have hlt2 : (I : Int) < (L : Int) := by omega
      have hle2 : (I : Int) ≤ (L : Int) := by omega
      obtain ⟨hJd⟩ : Nonempty (Hid (J pre wr.drew)) := ⟨hAb pre wr wr.drew hJs ⟨rfl, rfl, rfl, Nat.le_refl _, fun _ _ _ => rfl⟩⟩
      obtain ⟨fn, tmps, assign, body, hy, hR⟩ := hY pre ⟨k, hlt⟩ wr.drew hJd.out (by rw [cameC_length hcame.out]; omega)
      have HCM := hid (cameC_snoc hcame.out ⟨k, hlt⟩ rfl)
      have hmin : min (4 : Int) ((L - I : Nat) : Int) = 4 := by omega
      have hto : ((I : Int) + 4).toNat - I = 4 := by omega
      have hs1 : (I : Int) + 4 ≤ (L : Int) := by omega
      have hw1 : IntKind.i64.wrap ((I : Int) + 4) = (I : Int) + 4 := by rw [IntKind.wrap_i64]; omega
      dsimp only at hy
      rw [← hI.out] at hy
      gi_wp2
      gi_region
      all_goals
        gi_wp2
      all_goals
        refine hR.mono ?_
        rintro e W3 (⟨rfl, hJ3, hk3⟩ | ⟨rfl, hJx3⟩)
        · have HK3 : Hid (KeepsC Bs W W3) := hkp.out.trans ((show KeepsC Bs wr W3 from hk3))
          have hBn3 := HK3.out.2.trans hBn
          clear hk3 hkp hBs2 hBn2
          gi_wp2
          go_roundw
          case rel => exact ⟨k + 1, _, I + 4, by omega, by go_num, by have := hI.out; show I + 4 = 4 * (k + 1); omega, HCM, hJ3, HK3⟩
          case measure => simp [intOf]; omega
        · gi_wp2
          refine bodyPost_ret (results_none rfl _ _ _) rfl ?_
          exact ⟨⟨_, rfl⟩, .inr ⟨_, trivial, hJx3⟩⟩
    · have hge : ¬ (I : Int) < (L : Int) := by have := hI.out; have := HLM.out; omega
      obtain rfl : k = m := by omega
      gi_wp2
      go_end0
      exact ⟨⟨_, rfl⟩, .inl ⟨_, hcame.out, hJs⟩⟩

set_option maxHeartbeats 1000000 in
theorem chunk_in (F : Fence) (n : Nat) (hf : F.fn 187) (hro : F.round = none) (a : Option Addr) (len cap : Nat) (w : World) :
    CallsIn F n Tryz.prog 187 #[.slice a len cap, .int .i64 4] w fun e w' => e = .returned (.func (.func 228) #[] #[.pointer (some ⟨w.heap.size, 0, none⟩), .pointer (some ⟨w.heap.size + 1, 0, none⟩)]) ∧ w' = (w.alloc (.cells #[.slice a len cap] 23)).alloc (.cells #[.int .i64 4] 3) := by
  refine callsIn_of_wp Tryz.func187 rfl hf ?_ hro
  simp only [Tryz.ntmps187, List.size_toArray, List.length_cons, List.length_nil, Nat.reduceAdd, Nat.reduceSub, Array.replicate_succ, Array.replicate_zero, List.push_toArray, List.append_toArray, List.nil_append, List.cons_append]
  gi_wp2
  go_ret
  exact ⟨rfl, rfl⟩

theorem chunk_stops (F : Fence) (n : Nat) (hf : F.fn 228) (hro : F.round = none) (hn : 1 ≤ n) (Bs ap L m : Nat) (hL : L = 4 * m) (hlen : m ≤ 140737488351232) (w : World)
    (hBs : w.cell? ⟨Bs, 0, none⟩ = some (.slice (some ⟨ap, 0, none⟩) L L)) (hBn : w.cell? ⟨Bs + 1, 0, none⟩ = some (.int .i64 4)) (hbs : Bs + 1 < w.heap.size) :
    SeqStopsK F n Tryz.prog 228 #[.pointer (some ⟨Bs, 0, none⟩), .pointer (some ⟨Bs + 1, 0, none⟩)] (fun x : Fin m => #[Value.slice (some ⟨ap, 4 * x.val, none⟩) 4 4]) (KeepsC Bs) (fun ys => CameC ys m)
      (fun _ => True) m w := fun l J Jx W hW hJ _ hY h0 =>
  chunk1_in F n hf hro hn l Bs ap L m hL hlen J Jx (fun s A B h1 h2 => hJ s A B none h1 h2 (fun _ e => by cases e)) hY W ((hW.cell (p := ⟨Bs, 0, none⟩) (by show Bs < _; omega)).trans hBs) ((hW.cell (p := ⟨Bs + 1, 0, none⟩) hbs).trans hBn) h0

end Go.Proofs.YtpgnabmkfkcogaaGreatDoor
