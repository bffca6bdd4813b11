/- attestref4: weight, Extend, Fix, Total, At. -/
import Derived.Test.YtecaifjbmfianafDoorSumR
namespace Go.Proofs.YtecaifjbmfianafDoor
open Go.RowKit

theorem mulmod {p : Nat} (hp : 0 < p) {X P r F : Int} (hX : (p : Int) ∣ X - P) (hr : (p : Int) ∣ r - F) : X * r % (p : Int) = P * F % (p : Int) := by
  rw [Pol.emod_eq_iff hp]
  exact Sum.dvd_mul_sub hX hr
theorem dvd_self_mod (p : Nat) (a : Int) : (p : Int) ∣ a % (p : Int) - a := Pol.emod_dvd p a

set_option maxRecDepth 100000 in
set_option maxHeartbeats 2000000 in
theorem rweight_any (p v i cap : Nat) (a : Option Addr) (at' : List Int) (w : World) (n0 : Nat) (h3 : 3 ≤ p) (hm : p ≤ 2147483647) (hv : at'.length = v) (hv12 : v ≤ 12) (hi : i ≤ 17592186044416) (hf : Fits at') (hr : RowB n0 w a at') :
    Calls Tryd.prog 44 #[.int .i64 p, .int .i64 (v : Int), .int .i64 (i : Int), .slice a v cap] w fun e w' => e = .returned (.int .i64 (Sum.wgt (zat at') v i % (p : Int))) ∧ w' = w := by
  have HF := hid hf
  have HR := hid hr
  have HV := hid hv
  clear hf hr hv
  obtain ⟨G, hG⟩ : ∃ G : Nat → Int, G = fun k => if (i / 2 ^ k) % 2 = 0 then 1 - zat at' (v - 1 - k) else zat at' (v - 1 - k) := ⟨_, rfl⟩
  have HG := hid hG
  have HW : Hid (Sum.wgt (zat at') v i = Sum.prz G v) := by rw [hG]; exact rfl
  clear hG
  have hv1 : IntKind.i64.wrap ((v : Int) - 1) = (v : Int) - 1 := by rw [IntKind.wrap_i64]; omega
  go_enter Tryd.func44, Tryd.ntmps44
  go_wp2_with fail
  go_loop [9, 10, 11] (fun xv hv jv => ∃ (k H : Nat) (X z : Int), k ≤ v ∧ jv = .int .i64 z ∧ z = (v : Int) - 1 - (k : Int) ∧ hv = .int .i64 (H : Int) ∧ xv = .int .i64 X ∧ 0 ≤ X ∧ X < (p : Int) ∧ 1 ≤ H ∧ H ≤ 4096 ∧ Hid (H = 2 ^ k ∧ X = Sum.prz G k % (p : Int))) (fun _ _ jv => (intOf jv + 1).toNat)
  case atStart => exact ⟨0, 1, 1, (v : Int) - 1, by omega, rfl, by omega, rfl, rfl, by omega, by omega, by omega, by omega, rfl, by simp only [Sum.prz]; rw [Int.emod_eq_of_lt (by omega) (by omega)]⟩
  case round =>
    obtain ⟨k, H, X, z, hk, rfl, hz, rfl, rfl, hX1, hX2, hH1, hH2, hI⟩ := hrel
    by_cases hlt : k < v
    · obtain ⟨j, hj⟩ : ∃ j, j = v - 1 - k := ⟨_, rfl⟩
      obtain rfl : z = (j : Int) := by omega
      have HJ := hid hj
      have hjv : j < v := by omega
      have hjk : v = j + k + 1 := by omega
      have HJK := hid hjk
      clear hj hjk hz
      have hjv2 : (j : Int) < (v : Int) := by omega
      have hj0 : (j : Int) ≥ 0 := by omega
      have hjw : IntKind.i64.wrap ((j : Int) - 1) = (j : Int) - 1 := by rw [IntKind.wrap_i64]; omega
      obtain ⟨b, o, rfl, _, hc⟩ := HR.out j (by rw [HV.out]; exact hjv)
      obtain ⟨f1, f2⟩ := HF.out.all j
      obtain ⟨y, hy⟩ : ∃ y, y = zat at' j := ⟨_, rfl⟩
      rw [← hy] at hc f1 f2
      have HOF := hid (rof_any p y w h3 hm f1 f2)
      obtain ⟨b1, b2⟩ := emod_bounds y p h3
      have HYD := hid (dvd_self_mod p y)
      generalize y % (p : Int) = ym at *
      obtain ⟨Q, hQ⟩ : ∃ Q, Q = i / H := ⟨_, rfl⟩
      obtain ⟨B, hB⟩ : ∃ B, B = Q % 2 := ⟨_, rfl⟩
      have hQi : Q ≤ 17592186044416 := by rw [hQ]; exact Nat.le_trans (Nat.div_le_self _ _) hi
      have q1 : (i : Int).tdiv (H : Int) = (Q : Int) := by rw [hQ]; rfl
      have q2 : IntKind.i64.wrap (Q : Int) = (Q : Int) := by rw [IntKind.wrap_i64]; omega
      have q3 : (Q : Int).tmod 2 = (B : Int) := by rw [hB]; rfl
      have hB2 : B < 2 := by omega
      have q4 : IntKind.i64.wrap (B : Int) = (B : Int) := by rw [IntKind.wrap_i64]; omega
      have q5 : ¬ (H : Int) = 0 := by omega
      have q6 : IntKind.i64.wrap ((H : Int) * 2) = (H : Int) * 2 := by rw [IntKind.wrap_i64]; omega
      have HBB : Hid (B = i / 2 ^ k % 2) := by unfold Hid; rw [hB, hQ, hI.out.1]
      have HGk : Hid (G k = if B = 0 then 1 - y else y) := by unfold Hid; rw [HG.out]; simp only; rw [← HBB.out, ← HJ.out, ← hy]
      have HX : Hid ((p : Int) ∣ X - Sum.prz G k) := by unfold Hid; rw [hI.out.2]; exact dvd_self_mod p _
      have HN : Hid (k + 1 < v → H * 2 ≤ 4096) := fun hk1 => by
        have h1 := hI.out.1
        have : 2 ^ (k + 1) ≤ 2 ^ 12 := Nat.pow_le_pow_right (by omega) (by omega)
        rw [Nat.pow_succ] at this
        omega
      have HH2 : Hid (H * 2 = 2 ^ (k + 1)) := by unfold Hid; rw [Nat.pow_succ, ← hI.out.1]
      have hH3 : H * 2 ≤ 4096 := by
        have h1 := HH2.out
        have : 2 ^ (k + 1) ≤ 2 ^ 12 := Nat.pow_le_pow_right (by omega) (by omega)
        omega
      clear hI hQ hB hy HN HG HW
      by_cases hb0 : B = 0
      · have t : ((B : Int) == 0) = true := by simp [hb0]
        have HS := hid (rsub_any p 1 ym w h3 hm (by omega) (by omega) (by omega) (by omega))
        obtain ⟨c1, c2⟩ := emod_bounds (1 - ym) p h3
        have HSD : Hid ((p : Int) ∣ (1 - ym) % (p : Int) - (1 - y)) := by
          have h1 := dvd_self_mod p (1 - ym)
          have h2 := HYD.out
          have := Int.dvd_sub h1 h2
          rwa [show (1 - ym) % (p : Int) - (1 - ym) - (ym - y) = (1 - ym) % (p : Int) - (1 - y) from by omega] at this
        generalize (1 - ym) % (p : Int) = sm' at *
        have HMU := hid (rmul_any p X sm' w h3 hm (by omega) (by omega) (by omega) (by omega))
        obtain ⟨d1, d2⟩ := emod_bounds (X * sm') p h3
        have HE : Hid (X * sm' % (p : Int) = Sum.prz G (k + 1) % (p : Int)) := by
          unfold Hid
          rw [mulmod (by omega) HX.out HSD.out, Sum.prz, HGk.out, if_pos hb0]
        generalize X * sm' % (p : Int) = X' at *
        clear hb0
        go_wp2_with fail
        refine HOF.out.mono ?_
        rintro e w1 ⟨rfl, rfl⟩
        go_wp2_with fail
        refine HS.out.mono ?_
        rintro e w1 ⟨rfl, rfl⟩
        go_wp2_with fail
        refine HMU.out.mono ?_
        rintro e w1 ⟨rfl, rfl⟩
        go_wp2_with fail
        go_round
        case rel => exact ⟨k + 1, H * 2, X', (j : Int) - 1, by omega, by go_num, by have := HJK.out; omega, by go_num, rfl, d1, d2, by omega, hH3, HH2.out, HE.out⟩
        case measure => simp [intOf]
      · have t : ((B : Int) == 0) = false := by simp; omega
        have HMU := hid (rmul_any p X ym w h3 hm (by omega) (by omega) (by omega) (by omega))
        obtain ⟨d1, d2⟩ := emod_bounds (X * ym) p h3
        have HE : Hid (X * ym % (p : Int) = Sum.prz G (k + 1) % (p : Int)) := by
          unfold Hid
          rw [mulmod (by omega) HX.out HYD.out, Sum.prz, HGk.out, if_neg hb0]
        generalize X * ym % (p : Int) = X' at *
        clear hb0
        go_wp2_with fail
        refine HOF.out.mono ?_
        rintro e w1 ⟨rfl, rfl⟩
        go_wp2_with fail
        refine HMU.out.mono ?_
        rintro e w1 ⟨rfl, rfl⟩
        go_wp2_with fail
        go_round
        case rel => exact ⟨k + 1, H * 2, X', (j : Int) - 1, by omega, by go_num, by have := HJK.out; omega, by go_num, rfl, d1, d2, by omega, hH3, HH2.out, HE.out⟩
        case measure => simp [intOf]
    · obtain rfl : k = v := by omega
      obtain rfl : z = -1 := by omega
      have HE : Hid (X = Sum.wgt (zat at') k i % (p : Int)) := by unfold Hid; rw [HW.out, hI.out.2]
      clear hI
      go_wp2_with fail
      go_ret
      exact ⟨by rw [← HE.out]; rfl, rfl⟩

set_option maxRecDepth 100000 in
set_option maxHeartbeats 1000000 in
theorem rextend_any (p v c1 c2 : Nat) (a1 a2 : Option Addr) (t at' : List Int) (w : World) (n1 n2 : Nat) (h3 : 3 ≤ p) (hm : p ≤ 2147483647) (hv : at'.length = v) (hv12 : v ≤ 12) (hl : t.length = 2 ^ v) (hf1 : Fits t) (hf2 : Fits at') (hr1 : RowB n1 w a1 t) (hr2 : RowB n2 w a2 at') :
    Calls Tryd.prog 17 #[.int .i64 p, .slice a1 t.length c1, .slice a2 v c2] w fun e w' => e = .returned (.int .i64 (Sum.ext (zat t) (zat at') v % (p : Int))) ∧ w' = w := by
  have HF1 := hid hf1
  have HR1 := hid hr1
  obtain ⟨N, hN⟩ : ∃ N, N = t.length := ⟨_, rfl⟩
  have hNs : N ≤ 4096 := by
    have : 2 ^ v ≤ 2 ^ 12 := Nat.pow_le_pow_right (by omega) hv12
    omega
  rw [← hN]
  have HN := hid hN
  have HN2 : Hid (N = 2 ^ v) := by unfold Hid; rw [hN, hl]
  have HWG := hid (fun i (hi : i ≤ 17592186044416) => rweight_any p v i c2 a2 at' w n2 h3 hm hv hv12 hi hf2 hr2)
  obtain ⟨G, hG⟩ : ∃ G : Nat → Int, G = fun i => zat t i * Sum.wgt (zat at') v i := ⟨_, rfl⟩
  have HG := hid hG
  have HE0 : Hid (Sum.ext (zat t) (zat at') v = Dom.sm G N) := by unfold Hid; rw [hG, HN2.out]; rfl
  clear hf1 hf2 hr1 hr2 hl hN hv hG
  go_enter Tryd.func17, Tryd.ntmps17
  go_wp2_with fail
  go_loop [7, 8] (fun sv iv => ∃ (k : Nat) (s : Int), k ≤ N ∧ iv = .int .i64 k ∧ sv = .int .i64 s ∧ 0 ≤ s ∧ s < (p : Int) ∧ Hid (s = Dom.sm G k % (p : Int))) (fun _ iv => N - (intOf iv).toNat)
  case atStart => exact ⟨0, 0, by omega, rfl, rfl, by omega, by omega, by simp [Hid, Dom.sm]⟩
  case round =>
    obtain ⟨k, s, hk, rfl, rfl, hs1, hs2, hI⟩ := hrel
    by_cases hlt : k < N
    · have hlt2 : (k : Int) < (N : Int) := by omega
      have hks : IntKind.i64.wrap ((k : Int) + 1) = (k : Int) + 1 := by rw [IntKind.wrap_i64]; omega
      obtain ⟨b, o, rfl, _, hc⟩ := HR1.out k (by rw [← HN.out]; exact hlt)
      obtain ⟨f1, f2⟩ := HF1.out.all k
      have HW := hid (HWG.out k (by omega))
      obtain ⟨W, hW⟩ : ∃ W, W = Sum.wgt (zat at') v k := ⟨_, rfl⟩
      obtain ⟨y, hy⟩ : ∃ y, y = zat t k := ⟨_, rfl⟩
      have HGk : Hid (G k = y * W) := by unfold Hid; rw [HG.out, hy, hW]
      rw [← hW] at HW
      rw [← hy] at hc f1 f2
      obtain ⟨b1, b2⟩ := emod_bounds W p h3
      have HWD := hid (dvd_self_mod p W)
      generalize W % (p : Int) = wm at *
      have HMU := hid (rmul_any p y wm w h3 hm f1 f2 (by omega) (by omega))
      obtain ⟨d1, d2⟩ := emod_bounds (y * wm) p h3
      have HXD : Hid ((p : Int) ∣ y * wm % (p : Int) - G k) := by
        unfold Hid
        rw [HGk.out, mulmod (show 0 < p by omega) (show (p : Int) ∣ y - y by simp) HWD.out]
        exact dvd_self_mod p _
      generalize y * wm % (p : Int) = x at *
      have hp0 : ¬ (p : Int) = 0 := by omega
      have hw1 : IntKind.i64.wrap (s + x) = s + x := by rw [IntKind.wrap_i64]; omega
      have hw2 : (s + x).tmod (p : Int) = (s + x) % (p : Int) := Int.tmod_eq_emod_of_nonneg (by omega)
      obtain ⟨g1, g2⟩ := emod_bounds (s + x) p h3
      have hw3 : IntKind.i64.wrap ((s + x) % (p : Int)) = (s + x) % (p : Int) := by rw [IntKind.wrap_i64]; omega
      have HE : Hid ((s + x) % (p : Int) = Dom.sm G (k + 1) % (p : Int)) := by
        unfold Hid
        rw [Pol.emod_eq_iff (by omega), Dom.sm]
        refine Sum.dvd_add_sub ?_ HXD.out
        rw [hI.out]
        exact dvd_self_mod p _
      generalize (s + x) % (p : Int) = s' at *
      clear hI hy hW
      go_wp2_with fail
      refine HW.out.mono ?_
      rintro e w1 ⟨rfl, rfl⟩
      go_wp2_with fail
      refine HMU.out.mono ?_
      rintro e w1 ⟨rfl, rfl⟩
      go_wp2_with fail
      go_round
      case rel => exact ⟨k + 1, s', by omega, by go_num, rfl, g1, g2, HE⟩
      case measure => simp [intOf]; omega
    · obtain rfl : k = N := by omega
      have hlt2 : ¬ (k : Int) < (k : Int) := by omega
      have HE : Hid (s = Sum.ext (zat t) (zat at') v % (p : Int)) := by unfold Hid; rw [HE0.out, hI.out]
      clear hI
      go_wp2_with fail
      go_ret
      exact ⟨by rw [← HE.out]; rfl, rfl⟩

/-- the table over one variable less: the first is r -/
def fixl (p : Nat) (t : List Int) (r : Int) : List Int := ls (fun i => (zat t i * (1 - r) + zat t (i + t.length / 2) * r) % (p : Int)) (t.length / 2)
theorem fixl_len (p : Nat) (t : List Int) (r : Int) : (fixl p t r).length = t.length / 2 := ls_len _ _
theorem fixl_at {p : Nat} {t : List Int} {r : Int} {i : Nat} (h : i < t.length / 2) : zat (fixl p t r) i = (zat t i * (1 - r) + zat t (i + t.length / 2) * r) % (p : Int) := ls_at _ _ _ h

set_option maxRecDepth 100000 in
set_option maxHeartbeats 1000000 in
theorem rfix_any (p c1 : Nat) (a1 : Option Addr) (t : List Int) (r : Int) (w : World) (n1 : Nat) (h3 : 3 ≤ p) (hm : p ≤ 2147483647) (hl : t.length ≤ 17592186043904) (hf1 : Fits t) (hr1 : -9223372036854775808 ≤ r) (hr2 : r ≤ 9223372036854775807) (hrow : RowB n1 w a1 t) (hn1 : n1 ≤ w.heap.size) :
    Calls Tryd.prog 20 #[.int .i64 p, .slice a1 t.length c1, .int .i64 r] w fun e w' => ∃ v, e = .returned v ∧ w'.ownsRow w.heap.size 3 1 v (fixl p t r).length ((fixl p t r).map (Value.int .i64)) ∧ Below w.heap.size w w' := by
  obtain ⟨i0, hi, hz0, hz1, hz2⟩ := info_parts Tryd.infoInt
  have HF1 := hid hf1
  have HR1 := hid hrow
  obtain ⟨N, hN⟩ : ∃ N, N = t.length := ⟨_, rfl⟩
  obtain ⟨h, hh⟩ : ∃ h, h = N / 2 := ⟨_, rfl⟩
  have q1 : IntKind.i64.wrap ((N : Int).tdiv 2) = (h : Int) := by
    rw [Int.tdiv_eq_ediv_of_nonneg (by omega), IntKind.wrap_i64]
    omega
  have q0 : (N : Int) / 2 = (h : Int) := by omega
  have q2 : IntKind.i64.wrap (h : Int) = (h : Int) := by rw [IntKind.wrap_i64]; omega
  have hhN : h + h ≤ N := by omega
  rw [← hN] at hl ⊢
  have HN := hid hN
  have HH : Hid (h = t.length / 2) := by unfold Hid; rw [hh, hN]
  obtain ⟨G, hG⟩ : ∃ G : Nat → Int, G = fun i => (zat t i * (1 - r) + zat t (i + h) * r) % (p : Int) := ⟨_, rfl⟩
  have HG := hid hG
  have HE0 : Hid (fixl p t r = ls G h) := by unfold Hid fixl; rw [hG, HH.out]
  have HSUB := hid (rsub_any p 1 r w h3 hm (by omega) (by omega) hr1 hr2)
  obtain ⟨b1, b2⟩ := emod_bounds (1 - r) p h3
  have HND := hid (dvd_self_mod p (1 - r))
  generalize (1 - r) % (p : Int) = no at *
  clear hf1 hrow hN hh hG
  go_enter Tryd.func20, Tryd.ntmps20
  go_wp2_with fail
  refine HSUB.out.mono ?_
  rintro e w1 ⟨rfl, rfl⟩
  go_wp2_with fail
  go_loopw [7, 10] (fun v iv wr => ∃ k : Nat, k ≤ h ∧ iv = .int .i64 k ∧ Hid (wr.ownsRow w1.heap.size 3 1 v (ls G k).length ((ls G k).map (Value.int .i64)) ∧ Below w1.heap.size w1 wr)) (fun _ iv _ => h - (intOf iv).toNat)
  case atStart => exact ⟨0, by omega, rfl, World.ownsRow_nil _ _ _ _, Below.refl _ _⟩
  case round =>
    obtain ⟨k, hk, rfl, hI⟩ := hrel
    by_cases hlt : k < h
    · have hlt2 : (k : Int) < (h : Int) := by omega
      have hks : IntKind.i64.wrap ((k : Int) + 1) = (k : Int) + 1 := by rw [IntKind.wrap_i64]; omega
      obtain ⟨b, o, rfl, hb, hc⟩ := HR1.out k (by rw [← HN.out]; omega)
      obtain ⟨_, _, e1, _, hd⟩ := HR1.out (k + h) (by rw [← HN.out]; omega)
      cases e1
      have hc2 := (hI.out.2.cell (p := ⟨b, o + k, none⟩) (show b < w1.heap.size by omega)).trans hc
      have hd2 := (hI.out.2.cell (p := ⟨b, o + (k + h), none⟩) (show b < w1.heap.size by omega)).trans hd
      have k1 : IntKind.i64.wrap ((k : Int) + (h : Int)) = ((k + h : Nat) : Int) := by rw [IntKind.wrap_i64]; omega
      have k2 : ((k + h : Nat) : Int) < (N : Int) := by omega
      obtain ⟨f1, f2⟩ := HF1.out.all k
      obtain ⟨g1, g2⟩ := HF1.out.all (k + h)
      obtain ⟨x, hx⟩ : ∃ x, x = zat t k := ⟨_, rfl⟩
      obtain ⟨y, hy⟩ : ∃ y, y = zat t (k + h) := ⟨_, rfl⟩
      have HGk : Hid (G k = (x * (1 - r) + y * r) % (p : Int)) := by unfold Hid; rw [HG.out, hx, hy]
      rw [← hx] at hc2 f1 f2
      rw [← hy] at hd2 g1 g2
      obtain ⟨kh, hkh⟩ : ∃ kh, kh = k + h := ⟨_, rfl⟩
      rw [← hkh] at k1 k2 hd2
      have HMA := hid (fun W => rmul_any p x no W h3 hm f1 f2 (by omega) (by omega))
      have HMB := hid (fun W => rmul_any p y r W h3 hm g1 g2 hr1 hr2)
      obtain ⟨m1, m2⟩ := emod_bounds (x * no) p h3
      obtain ⟨m3, m4⟩ := emod_bounds (y * r) p h3
      have HAD : Hid ((p : Int) ∣ x * no % (p : Int) - x * (1 - r)) := by
        unfold Hid
        rw [mulmod (show 0 < p by omega) (show (p : Int) ∣ x - x by simp) HND.out]
        exact dvd_self_mod p _
      have HBD := hid (dvd_self_mod p (y * r))
      generalize x * no % (p : Int) = am at *
      generalize y * r % (p : Int) = bm at *
      have HAA := hid (fun W => radd_any p am bm W h3 hm (by omega) (by omega) (by omega) (by omega))
      have HS : Hid ((am + bm) % (p : Int) = G k) := by
        unfold Hid
        rw [HGk.out, Pol.emod_eq_iff (by omega)]
        exact Sum.dvd_add_sub HAD.out HBD.out
      generalize (am + bm) % (p : Int) = z at *
      have hown := hI.out.1
      have hbel := hI.out.2
      have HLS := hid (ls_len G k)
      have HSC : Hid (ls G (k + 1) = ls G k ++ [z]) := by unfold Hid; rw [ls_succ, HS.out]
      generalize ls G k = Z at *
      have hZ : Z.length ≤ 17592186043904 := by rw [HLS.out]; omega
      have hsz : w1.heap.size ≤ wr.heap.size := hbel.size
      clear hI hc hd hx hy hkh HGk HAD HBD HS
      go_wp2_with fail
      refine (HMA.out _).mono ?_
      rintro e w2 ⟨rfl, rfl⟩
      go_wp2_with fail
      refine (HMB.out _).mono ?_
      rintro e w3 ⟨rfl, rfl⟩
      go_wp2_with fail
      refine (HAA.out _).mono ?_
      rintro e w4 ⟨rfl, rfl⟩
      go_wp2_with (at_builtin; refine wpList_append_own _ rfl _ _ 22 rfl w1.heap.size 3 i0 (.int .i64 0) 1 8 Tryd.underlying22 hi hz0 hz1 hz2 rfl (by decide) _ _ _ rfl (hown.alloc _) ⟨w4.heap.size, 0, none⟩ 1 1 [.int .i64 z] rfl rfl ?c1 ?c2 ?c3 ?c4 ?c5 ?_)
      case c1 =>
        intro j u hj
        match j, hj with
        | 0, hj => simp at hj; subst hj; simp [Addr.add]
      case c2 => intro u hu; simp at hu; subst hu; rfl
      case c3 => unfold maxLen; omega
      case c4 => omega
      case c5 => simp; omega
      intro v' w5 hown2 hgrow _
      have hown3 := owns_succ hown2
      have HE : Hid (w5.ownsRow w1.heap.size 3 1 v' (ls G (k + 1)).length ((ls G (k + 1)).map (Value.int .i64)) ∧ Below w1.heap.size w1 w5) := by
        unfold Hid
        rw [HSC.out]
        exact ⟨hown3, (hbel.alloc hsz _).grown hgrow (by simp; omega) (fun j hj => (hown.lt j hj).1)⟩
      clear hown2 hown3 hgrow hown hbel
      go_wp2_with fail
      go_roundw
      case rel => exact ⟨k + 1, by omega, by go_num, HE⟩
      case measure => simp [intOf]; omega
    · obtain rfl : k = h := by omega
      have hlt2 : ¬ (k : Int) < (k : Int) := by omega
      go_wp2_with fail
      go_ret
      exact ⟨_, rfl, by rw [HE0.out]; exact hI.out.1, hI.out.2⟩

/-- the sum of products -/
def totz (p : Nat) (rows : List (List Int)) : Int := Dom.sm (fun i => Sum.prz (fun k => zat (rat rows k) i) rows.length) (rat rows 0).length % (p : Int)
theorem totz_bounds (p : Nat) (rows : List (List Int)) (h3 : 3 ≤ p) : 0 ≤ totz p rows ∧ totz p rows < p := emod_bounds _ p h3

set_option maxRecDepth 100000 in
set_option maxHeartbeats 2000000 in
theorem rtotal_any (p cap n0 N : Nat) (a : Option Addr) (rows : List (List Int)) (w : World) (h3 : 3 ≤ p) (hm : p ≤ 2147483647) (h1 : 1 ≤ rows.length) (hrl : rows.length ≤ 17592186043904) (hlen : ∀ k, k < rows.length → (rat rows k).length = N) (hN : N ≤ 17592186043904) (hf : ∀ k, k < rows.length → Fits (rat rows k)) (hl : LstR n0 w a cap rows) :
    Calls Tryd.prog 24 #[.int .i64 p, .slice a rows.length cap] w fun e w' => e = .returned (.int .i64 (totz p rows)) ∧ w' = w := by
  have HF := hid hf
  have HL := hid hl
  have HLN := hid hlen
  obtain ⟨d, hd⟩ : ∃ d, d = rows.length := ⟨_, rfl⟩
  rw [← hd] at h1 hrl ⊢
  have HD := hid hd
  obtain ⟨G, hG⟩ : ∃ G : Nat → Nat → Int, G = fun i k => zat (rat rows k) i := ⟨_, rfl⟩
  have HG := hid hG
  have HE0 : Hid (totz p rows = Dom.sm (fun i => Sum.prz (G i) d) N % (p : Int)) := by unfold Hid totz; rw [hG, hlen 0 (by omega), hd]
  obtain ⟨b0, o0, ak0, ck0, rfl, _, hc0, _⟩ := hl.row 0 (by omega)
  rw [hlen 0 (by omega), Nat.add_zero] at hc0
  have t0 : (0 : Int) < (d : Int) := by omega
  clear hf hl hlen hd hG
  go_enter Tryd.func24, Tryd.ntmps24
  go_wp2_with fail
  go_loop [5, 6] (fun sv iv => ∃ (i : Nat) (s : Int), i ≤ N ∧ iv = .int .i64 i ∧ sv = .int .i64 s ∧ 0 ≤ s ∧ s < (p : Int) ∧ Hid (s = Dom.sm (fun i => Sum.prz (G i) d) i % (p : Int))) (fun _ iv => N - (intOf iv).toNat)
  case atStart => exact ⟨0, 0, by omega, rfl, rfl, by omega, by omega, by simp [Hid, Dom.sm]⟩
  case round =>
    obtain ⟨i, s, hi, rfl, rfl, hs1, hs2, hI⟩ := hrel
    by_cases hlt : i < N
    · have hlt2 : (i : Int) < (N : Int) := by omega
      have hks : IntKind.i64.wrap ((i : Int) + 1) = (i : Int) + 1 := by rw [IntKind.wrap_i64]; omega
      go_wp2_with fail
      go_loop [7, 8] (fun xv kv => ∃ (k : Nat) (x : Int), k ≤ d ∧ kv = .int .i64 k ∧ xv = .int .i64 x ∧ 0 ≤ x ∧ x < (p : Int) ∧ Hid (x = Sum.prz (G i) k % (p : Int))) (fun _ kv => d - (intOf kv).toNat)
      case atStart => exact ⟨0, 1, by omega, rfl, rfl, by omega, by omega, by unfold Hid; simp only [Sum.prz]; rw [Int.emod_eq_of_lt (by omega) (by omega)]⟩
      case round =>
        obtain ⟨k, x, hk, rfl, rfl, hx1, hx2, hJ⟩ := hrel
        by_cases hkt : k < d
        · have hkt2 : (k : Int) < (d : Int) := by omega
          have hkw : IntKind.i64.wrap ((k : Int) + 1) = (k : Int) + 1 := by rw [IntKind.wrap_i64]; omega
          obtain ⟨_, _, ak, ck, e1, _, hc, hlk⟩ := HL.out.row k (by rw [← HD.out]; exact hkt)
          cases e1
          rw [HLN.out k (by rw [← HD.out]; exact hkt)] at hc
          obtain ⟨bk, ok, rfl, _, hy⟩ := hlk.row i (by rw [HLN.out k (by rw [← HD.out]; exact hkt)]; exact hlt)
          obtain ⟨f1, f2⟩ := (HF.out k (by rw [← HD.out]; exact hkt)).all i
          obtain ⟨y, hy0⟩ : ∃ y, y = zat (rat rows k) i := ⟨_, rfl⟩
          have HGk : Hid (G i k = y) := by unfold Hid; rw [HG.out, hy0]
          rw [← hy0] at hy f1 f2
          have HMU := hid (rmul_any p x y w h3 hm (by omega) (by omega) f1 f2)
          obtain ⟨d1, d2⟩ := emod_bounds (x * y) p h3
          have HE : Hid (x * y % (p : Int) = Sum.prz (G i) (k + 1) % (p : Int)) := by
            unfold Hid
            rw [Sum.prz, HGk.out]
            refine mulmod (by omega) ?_ (by simp)
            rw [hJ.out]
            exact dvd_self_mod p _
          generalize x * y % (p : Int) = x' at *
          clear hJ hlk hy0
          go_wp2_with fail
          refine HMU.out.mono ?_
          rintro e w1 ⟨rfl, rfl⟩
          go_wp2_with fail
          go_round
          case rel => exact ⟨k + 1, x', by omega, by go_num, rfl, d1, d2, HE⟩
          case measure => simp [intOf]; omega
        · obtain rfl : k = d := by omega
          have hkt2 : ¬ (k : Int) < (k : Int) := by omega
          have hp0 : ¬ (p : Int) = 0 := by omega
          have hw1 : IntKind.i64.wrap (s + x) = s + x := by rw [IntKind.wrap_i64]; omega
          have hw2 : (s + x).tmod (p : Int) = (s + x) % (p : Int) := Int.tmod_eq_emod_of_nonneg (by omega)
          obtain ⟨g1, g2⟩ := emod_bounds (s + x) p h3
          have hw3 : IntKind.i64.wrap ((s + x) % (p : Int)) = (s + x) % (p : Int) := by rw [IntKind.wrap_i64]; omega
          have HE : Hid ((s + x) % (p : Int) = Dom.sm (fun i => Sum.prz (G i) k) (i + 1) % (p : Int)) := by
            unfold Hid
            rw [Pol.emod_eq_iff (by omega), Dom.sm]
            refine Sum.dvd_add_sub ?_ ?_
            · rw [hI.out]; exact dvd_self_mod p _
            · rw [hJ.out]; exact dvd_self_mod p _
          generalize (s + x) % (p : Int) = s' at *
          clear hI hJ
          go_wp2_with fail
          go_round
          case rel => exact ⟨i + 1, s', by omega, by go_num, rfl, g1, g2, HE⟩
          case measure => simp [intOf]; omega
    · obtain rfl : i = N := by omega
      have hlt2 : ¬ (i : Int) < (i : Int) := by omega
      have HE : Hid (s = totz p rows) := by unfold Hid; rw [HE0.out, hI.out]
      clear hI
      go_wp2_with fail
      go_ret
      exact ⟨by rw [← HE.out]; rfl, rfl⟩

/-- 0, 1, .. -/
def cnt' (n : Nat) : List Int := ls (fun i => (i : Int)) n
theorem cnt_len (n : Nat) : (cnt' n).length = n := ls_len _ _
/-- what the polynomial that is l at 0, 1, .. is at r -/
def atz (p : Nat) (l : List Int) (r : Int) : Int := evz p (pfit p (cnt' l.length) l) r
theorem atz_bounds (p : Nat) (l : List Int) (r : Int) (h3 : 3 ≤ p) : 0 ≤ atz p l r ∧ atz p l r < p := emod_bounds _ p h3
theorem pfit_can {p : Nat} (h3 : 3 ≤ p) (xs ys : List Int) : Pol.Can p (pfit p xs ys) := Pol.mk_can (by omega) _ _
theorem pfit_le (p : Nat) (xs ys : List Int) : (pfit p xs ys).length ≤ xs.length := by rw [pfit, Pol.mk_length]; exact Pol.tp_le _ _ _

end Go.Proofs.YtecaifjbmfianafDoor
