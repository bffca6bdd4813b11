
import Derived.Test.YtlhjifpomchnfaaGreatDoorPoAJ
import Derived.Test.YtlhjifpomchnfaaGreatDoorTres
import Derived.Deep.RegionHeld3
set_option maxRecDepth 1000000
set_option maxHeartbeats 8000000
namespace Go.Proofs.YtlhjifpomchnfaaGreatDoor
open Go.RowKit
theorem mulmod {p : Nat} (hp : 0 < p) {X P r F : Int} (hX : (p : Int) ∣ X - P) (hr : (p : Int) ∣ r - F) : X * r % (p : Int) = P * F % (p : Int) := by
 rw [Pol.emod_eq_iff hp]
 exact Sum.dvd_mul_sub hX hr
theorem dvd_self_mod (p : Nat) (a : Int) : (p : Int) ∣ a % (p : Int) - a := Pol.emod_dvd p a
theorem rweight_any (p v i cap : Nat) (a : Option Addr) (at' : List Int) (w : World) (n0 : Nat) (h3 : 3 <= p) (hm : p <= 2147483647) (hv : at'.length = v) (hv12 : v <= 12) (hi : i <= 17592186044416) (hf : Fits at') (hr : RowB n0 w a at') :
  Calls Tryz.prog 214 #[.int .i64 p, .int .i64 (v : Int), .int .i64 (i : Int), .slice a v cap] w fun e w' => e = .returned (.int .i64 (Sum.wgt (zat at') v i % (p : Int))) /\ w' = w := by
 have HF := hid hf
 have HR := hid hr
 have HV := hid hv
 clear hf hr hv
 obtain ⟨G, hG⟩ : ∃ G : Nat -> Int, G = fun k => if (i / 2 ^ k) % 2 = 0 then 1 - zat at' (v - 1 - k) else zat at' (v - 1 - k) := ⟨_, rfl⟩
 have HG := hid hG
 have HW : Hid (Sum.wgt (zat at') v i = Sum.prz G v) := by rw [hG]; exact rfl
 clear hG
 have hv1 : IntKind.i64.wrap ((v : Int) - 1) = (v : Int) - 1 := by rw [IntKind.wrap_i64]; omega
 go_enter Tryz.func214, Tryz.ntmps214
 go_wp2_with fail
 go_loop [9, 10, 11] (fun xv hv jv => ∃ (k H : Nat) (X z : Int), k <= v /\ jv = .int .i64 z /\ z = (v : Int) - 1 - (k : Int) /\ hv = .int .i64 (H : Int) /\ xv = .int .i64 X /\ 0 <= X /\ X < (p : Int) /\ 1 <= H /\ H <= 4096 /\ Hid (H = 2 ^ k /\ X = Sum.prz G k % (p : Int))) (fun _ _ jv => (intOf jv + 1).toNat)
 case atStart => exact ⟨0, 1, 1, (v : Int) - 1, by omega, rfl, by omega, rfl, rfl, by omega, by omega, by omega, by omega, rfl, by simp only [Sum.prz]; rw [Int.emod_eq_of_lt (by omega) (by omega)]⟩
 case round =>
  obtain ⟨k, H, X, z, hk, rfl, hz, rfl, rfl, hX1, hX2, hH1, hH2, hI⟩ := hrel
  by_cases hlt : k < v
  ·obtain ⟨j, hj⟩ := exE (v - 1 - k)
   obtain rfl : z = (j : Int) := by omega
   have HJ := hid hj
   have hjv : j < v := by omega
   have hjk : v = j + k + 1 := by omega
   have HJK := hid hjk
   clear hj hjk hz
   have hjv2 : (j : Int) < (v : Int) := by omega
   have hj0 : (j : Int) ≥ 0 := by omega
   have hjw : IntKind.i64.wrap ((j : Int) - 1) = (j : Int) - 1 := by rw [IntKind.wrap_i64]; omega
   obtain ⟨b, o, rfl, _, hc⟩ := HR.out j (by rw [HV.out]; exact hjv)
   obtain ⟨f1, f2⟩ := HF.out.all j
   obtain ⟨y, hy⟩ := exE (zat at' j)
   rw [<- hy] at hc f1 f2
   have HOF := hid (rof_any p y w h3 hm f1 f2)
   obtain ⟨b1, b2⟩ := emod_bounds y p h3
   have HYD := hid (dvd_self_mod p y)
   generalize y % (p : Int) = ym at *
   obtain ⟨Q, hQ⟩ := exE (i / H)
   obtain ⟨B, hB⟩ := exE (Q % 2)
   have hQi : Q <= 17592186044416 := by rw [hQ]; exact Nat.le_trans (Nat.div_le_self _ _) hi
   have q1 : (i : Int).tdiv (H : Int) = (Q : Int) := by rw [hQ]; rfl
   have q2 : IntKind.i64.wrap (Q : Int) = (Q : Int) := by rw [IntKind.wrap_i64]; omega
   have q3 : (Q : Int).tmod 2 = (B : Int) := by rw [hB]; rfl
   have hB2 : B < 2 := by omega
   have q4 : IntKind.i64.wrap (B : Int) = (B : Int) := by rw [IntKind.wrap_i64]; omega
   have q5 : ¬ (H : Int) = 0 := by omega
   have q6 : IntKind.i64.wrap ((H : Int) * 2) = (H : Int) * 2 := by rw [IntKind.wrap_i64]; omega
   have HBB : Hid (B = i / 2 ^ k % 2) := by unfold Hid; rw [hB, hQ, hI.out.1]
   have HGk : Hid (G k = if B = 0 then 1 - y else y) := by unfold Hid; rw [HG.out]; simp only; rw [<- HBB.out, <- HJ.out, <- hy]
   have HX : Hid ((p : Int) ∣ X - Sum.prz G k) := by unfold Hid; rw [hI.out.2]; exact dvd_self_mod p _
   have HN : Hid (k + 1 < v -> H * 2 <= 4096) := fun hk1 => by
    have h1 := hI.out.1
    have : 2 ^ (k + 1) <= 2 ^ 12 := Nat.pow_le_pow_right (by omega) (by omega)
    rw [Nat.pow_succ] at this
    omega
   have HH2 : Hid (H * 2 = 2 ^ (k + 1)) := by unfold Hid; rw [Nat.pow_succ, <- hI.out.1]
   have hH3 : H * 2 <= 4096 := by
    have h1 := HH2.out
    have : 2 ^ (k + 1) <= 2 ^ 12 := Nat.pow_le_pow_right (by omega) (by omega)
    omega
   clear hI hQ hB hy HN HG HW
   by_cases hb0 : B = 0
   ·have t : ((B : Int) == 0) = true := by simp [hb0]
    have HS := hid (rsub_any p 1 ym w h3 hm (by omega) (by omega) (by omega) (by omega))
    obtain ⟨c1, c2⟩ := emod_bounds (1 - ym) p h3
    have HSD : Hid ((p : Int) ∣ (1 - ym) % (p : Int) - (1 - y)) := by
     have h1 := dvd_self_mod p (1 - ym)
     have h2 := HYD.out
     have := Int.dvd_sub h1 h2
     rwa [show (1 - ym) % (p : Int) - (1 - ym) - (ym - y) = (1 - ym) % (p : Int) - (1 - y) from by omega] at this
    generalize (1 - ym) % (p : Int) = sm' at *
    have HMU := hid (rmul_any p X sm' w h3 hm (by omega) (by omega) (by omega) (by omega))
    obtain ⟨d1, d2⟩ := emod_bounds (X * sm') p h3
    have HE : Hid (X * sm' % (p : Int) = Sum.prz G (k + 1) % (p : Int)) := by
     unfold Hid
     rw [mulmod (by omega) HX.out HSD.out, Sum.prz, HGk.out, if_pos hb0]
    generalize X * sm' % (p : Int) = X' at *
    clear hb0
    go_wp2_with fail
    refine HOF.out.mono ?_
    rintro e w1 ⟨rfl, rfl⟩
    go_wp2_with fail
    refine HS.out.mono ?_
    rintro e w1 ⟨rfl, rfl⟩
    go_wp2_with fail
    refine HMU.out.mono ?_
    rintro e w1 ⟨rfl, rfl⟩
    go_wp2_with fail
    go_round
    case rel => exact ⟨k + 1, H * 2, X', (j : Int) - 1, by omega, by go_num, by have := HJK.out; omega, by go_num, rfl, d1, d2, by omega, hH3, HH2.out, HE.out⟩
    case measure => simp [intOf]
   ·have t : ((B : Int) == 0) = false := by simp; omega
    have HMU := hid (rmul_any p X ym w h3 hm (by omega) (by omega) (by omega) (by omega))
    obtain ⟨d1, d2⟩ := emod_bounds (X * ym) p h3
    have HE : Hid (X * ym % (p : Int) = Sum.prz G (k + 1) % (p : Int)) := by
     unfold Hid
     rw [mulmod (by omega) HX.out HYD.out, Sum.prz, HGk.out, if_neg hb0]
    generalize X * ym % (p : Int) = X' at *
    clear hb0
    go_wp2_with fail
    refine HOF.out.mono ?_
    rintro e w1 ⟨rfl, rfl⟩
    go_wp2_with fail
    refine HMU.out.mono ?_
    rintro e w1 ⟨rfl, rfl⟩
    go_wp2_with fail
    go_round
    case rel => exact ⟨k + 1, H * 2, X', (j : Int) - 1, by omega, by go_num, by have := HJK.out; omega, by go_num, rfl, d1, d2, by omega, hH3, HH2.out, HE.out⟩
    case measure => simp [intOf]
  ·obtain rfl : k = v := by omega
   obtain rfl : z = -1 := by omega
   have HE : Hid (X = Sum.wgt (zat at') k i % (p : Int)) := by unfold Hid; rw [HW.out, hI.out.2]
   clear hI
   go_wp2_with fail
   go_ret
   exact ⟨by rw [<- HE.out]; rfl, rfl⟩
theorem rextend_any (p v c1 c2 : Nat) (a1 a2 : Option Addr) (t at' : List Int) (w : World) (n1 n2 : Nat) (h3 : 3 <= p) (hm : p <= 2147483647) (hv : at'.length = v) (hv12 : v <= 12) (hl : t.length = 2 ^ v) (hf1 : Fits t) (hf2 : Fits at') (hr1 : RowB n1 w a1 t) (hr2 : RowB n2 w a2 at') :
  Calls Tryz.prog 174 #[.int .i64 p, .slice a1 t.length c1, .slice a2 v c2] w fun e w' => e = .returned (.int .i64 (Sum.ext (zat t) (zat at') v % (p : Int))) /\ w' = w := by
 have HF1 := hid hf1
 have HR1 := hid hr1
 obtain ⟨N, hN⟩ := exE (t.length)
 have hNs : N <= 4096 := by
  have : 2 ^ v <= 2 ^ 12 := Nat.pow_le_pow_right (by omega) hv12
  omega
 rw [<- hN]
 have HN := hid hN
 have HN2 : Hid (N = 2 ^ v) := by unfold Hid; rw [hN, hl]
 have HWG := hid (fun i (hi : i <= 17592186044416) => rweight_any p v i c2 a2 at' w n2 h3 hm hv hv12 hi hf2 hr2)
 obtain ⟨G, hG⟩ : ∃ G : Nat -> Int, G = fun i => zat t i * Sum.wgt (zat at') v i := ⟨_, rfl⟩
 have HG := hid hG
 have HE0 : Hid (Sum.ext (zat t) (zat at') v = Dom.sm G N) := by unfold Hid; rw [hG, HN2.out]; rfl
 clear hf1 hf2 hr1 hr2 hl hN hv hG
 go_enter Tryz.func174, Tryz.ntmps174
 go_wp2_with fail
 go_loop [7, 8] (fun sv iv => ∃ (k : Nat) (s : Int), k <= N /\ iv = .int .i64 k /\ sv = .int .i64 s /\ 0 <= s /\ s < (p : Int) /\ Hid (s = Dom.sm G k % (p : Int))) (fun _ iv => N - (intOf iv).toNat)
 case atStart => exact ⟨0, 0, by omega, rfl, rfl, by omega, by omega, by simp [Hid, Dom.sm]⟩
 case round =>
  obtain ⟨k, s, hk, rfl, rfl, hs1, hs2, hI⟩ := hrel
  by_cases hlt : k < N
  ·have hlt2 : (k : Int) < (N : Int) := by omega
   have hks : IntKind.i64.wrap ((k : Int) + 1) = (k : Int) + 1 := by rw [IntKind.wrap_i64]; omega
   obtain ⟨b, o, rfl, _, hc⟩ := HR1.out k (by rw [<- HN.out]; exact hlt)
   obtain ⟨f1, f2⟩ := HF1.out.all k
   have HW := hid (HWG.out k (by omega))
   obtain ⟨W, hW⟩ := exE (Sum.wgt (zat at') v k)
   obtain ⟨y, hy⟩ := exE (zat t k)
   have HGk : Hid (G k = y * W) := by unfold Hid; rw [HG.out, hy, hW]
   rw [<- hW] at HW
   rw [<- hy] at hc f1 f2
   obtain ⟨b1, b2⟩ := emod_bounds W p h3
   have HWD := hid (dvd_self_mod p W)
   generalize W % (p : Int) = wm at *
   have HMU := hid (rmul_any p y wm w h3 hm f1 f2 (by omega) (by omega))
   obtain ⟨d1, d2⟩ := emod_bounds (y * wm) p h3
   have HXD : Hid ((p : Int) ∣ y * wm % (p : Int) - G k) := by
    unfold Hid
    rw [HGk.out, mulmod (show 0 < p by omega) (show (p : Int) ∣ y - y by simp) HWD.out]
    exact dvd_self_mod p _
   generalize y * wm % (p : Int) = x at *
   have hp0 : ¬ (p : Int) = 0 := by omega
   have hw1 : IntKind.i64.wrap (s + x) = s + x := by rw [IntKind.wrap_i64]; omega
   have hw2 : (s + x).tmod (p : Int) = (s + x) % (p : Int) := Int.tmod_eq_emod_of_nonneg (by omega)
   obtain ⟨g1, g2⟩ := emod_bounds (s + x) p h3
   have hw3 : IntKind.i64.wrap ((s + x) % (p : Int)) = (s + x) % (p : Int) := by rw [IntKind.wrap_i64]; omega
   have HE : Hid ((s + x) % (p : Int) = Dom.sm G (k + 1) % (p : Int)) := by
    unfold Hid
    rw [Pol.emod_eq_iff (by omega), Dom.sm]
    refine Sum.dvd_add_sub ?_ HXD.out
    rw [hI.out]
    exact dvd_self_mod p _
   generalize (s + x) % (p : Int) = s' at *
   clear hI hy hW
   go_wp2_with fail
   refine HW.out.mono ?_
   rintro e w1 ⟨rfl, rfl⟩
   go_wp2_with fail
   refine HMU.out.mono ?_
   rintro e w1 ⟨rfl, rfl⟩
   go_wp2_with fail
   go_round
   case rel => exact ⟨k + 1, s', by omega, by go_num, rfl, g1, g2, HE⟩
   case measure => simp [intOf]; omega
  ·obtain rfl : k = N := by omega
   have hlt2 : ¬ (k : Int) < (k : Int) := by omega
   have HE : Hid (s = Sum.ext (zat t) (zat at') v % (p : Int)) := by unfold Hid; rw [HE0.out, hI.out]
   clear hI
   go_wp2_with fail
   go_ret
   exact ⟨by rw [<- HE.out]; rfl, rfl⟩
def fixl (p : Nat) (t : List Int) (r : Int) : List Int := ls (fun i => (zat t i * (1 - r) + zat t (i + t.length / 2) * r) % (p : Int)) (t.length / 2)
theorem fixl_len (p : Nat) (t : List Int) (r : Int) : (fixl p t r).length = t.length / 2 := ls_len _ _
theorem fixl_at {p : Nat} {t : List Int} {r : Int} {i : Nat} (h : i < t.length / 2) : zat (fixl p t r) i = (zat t i * (1 - r) + zat t (i + t.length / 2) * r) % (p : Int) := ls_at _ _ _ h
def fixr (p : Nat) (rows : List (List Int)) (r : Int) : List (List Int) := rows.map (fun t => fixl p t r)
theorem fixr_len (p : Nat) (rows : List (List Int)) (r : Int) : (fixr p rows r).length = rows.length := by simp [fixr]
theorem fixr_rat {p : Nat} {rows : List (List Int)} {r : Int} {k : Nat} (h : k < rows.length) : rat (fixr p rows r) k = fixl p (rat rows k) r := by simp [rat, fixr, h]
theorem fixl_fits {p : Nat} (h3 : 3 <= p) (hm : p <= 2147483647) (t : List Int) (r : Int) : Fits (fixl p t r) := fun j hj => by
 rw [fixl_len] at hj
 rw [fixl_at hj]
 have := emod_bounds (zat t j * (1 - r) + zat t (j + t.length / 2) * r) p h3
 omega
theorem fixr_fits {p : Nat} (h3 : 3 <= p) (hm : p <= 2147483647) (rows : List (List Int)) (r : Int) : ∀ k, k < (fixr p rows r).length -> Fits (rat (fixr p rows r) k) := fun k hk => by
 rw [fixr_len] at hk
 rw [fixr_rat hk]
 exact fixl_fits h3 hm _ _
end Go.Proofs.YtlhjifpomchnfaaGreatDoor
