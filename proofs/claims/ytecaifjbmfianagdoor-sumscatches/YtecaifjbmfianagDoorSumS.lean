/- attestref4: weight, Extend, Fix, Total, At. -/
import Derived.Test.YtecaifjbmfianagDoorSumR
namespace Go.Proofs.YtecaifjbmfianagDoor
open Go.RowKit

theorem mulmod {p : Nat} (hp : 0 < p) {X P r F : Int} (hX : (p : Int) ∣ X - P) (hr : (p : Int) ∣ r - F) : X * r % (p : Int) = P * F % (p : Int) := by
  rw [Pol.emod_eq_iff hp]
  exact Sum.dvd_mul_sub hX hr
theorem dvd_self_mod (p : Nat) (a : Int) : (p : Int) ∣ a % (p : Int) - a := Pol.emod_dvd p a

/-- the table over one variable less: the first is r -/
def fixl (p : Nat) (t : List Int) (r : Int) : List Int := ls (fun i => (zat t i * (1 - r) + zat t (i + t.length / 2) * r) % (p : Int)) (t.length / 2)
theorem fixl_len (p : Nat) (t : List Int) (r : Int) : (fixl p t r).length = t.length / 2 := ls_len _ _
theorem fixl_at {p : Nat} {t : List Int} {r : Int} {i : Nat} (h : i < t.length / 2) : zat (fixl p t r) i = (zat t i * (1 - r) + zat t (i + t.length / 2) * r) % (p : Int) := ls_at _ _ _ h

set_option maxRecDepth 100000 in
set_option maxHeartbeats 1000000 in
theorem rfix_any (p c1 : Nat) (a1 : Option Addr) (t : List Int) (r : Int) (w : World) (n1 : Nat) (h3 : 3 ≤ p) (hm : p ≤ 2147483647) (hl : t.length ≤ 17592186043904) (hf1 : Fits t) (hr1 : -9223372036854775808 ≤ r) (hr2 : r ≤ 9223372036854775807) (hrow : RowB n1 w a1 t) (hn1 : n1 ≤ w.heap.size) :
    Calls Tryd.prog 42 #[.int .i64 p, .slice a1 t.length c1, .int .i64 r] w fun e w' => ∃ v, e = .returned v ∧ w'.ownsRow w.heap.size 3 1 v (fixl p t r).length ((fixl p t r).map (Value.int .i64)) ∧ Below w.heap.size w w' := by
  obtain ⟨i0, hi, hz0, hz1, hz2⟩ := info_parts Tryd.infoInt
  have HF1 := hid hf1
  have HR1 := hid hrow
  obtain ⟨N, hN⟩ : ∃ N, N = t.length := ⟨_, rfl⟩
  obtain ⟨h, hh⟩ : ∃ h, h = N / 2 := ⟨_, rfl⟩
  have q1 : IntKind.i64.wrap ((N : Int).tdiv 2) = (h : Int) := by
    rw [Int.tdiv_eq_ediv_of_nonneg (by omega), IntKind.wrap_i64]
    omega
  have q0 : (N : Int) / 2 = (h : Int) := by omega
  have q2 : IntKind.i64.wrap (h : Int) = (h : Int) := by rw [IntKind.wrap_i64]; omega
  have hhN : h + h ≤ N := by omega
  rw [← hN] at hl ⊢
  have HN := hid hN
  have HH : Hid (h = t.length / 2) := by unfold Hid; rw [hh, hN]
  obtain ⟨G, hG⟩ : ∃ G : Nat → Int, G = fun i => (zat t i * (1 - r) + zat t (i + h) * r) % (p : Int) := ⟨_, rfl⟩
  have HG := hid hG
  have HE0 : Hid (fixl p t r = ls G h) := by unfold Hid fixl; rw [hG, HH.out]
  have HSUB := hid (rsub_any p 1 r w h3 hm (by omega) (by omega) hr1 hr2)
  obtain ⟨b1, b2⟩ := emod_bounds (1 - r) p h3
  have HND := hid (dvd_self_mod p (1 - r))
  generalize (1 - r) % (p : Int) = no at *
  clear hf1 hrow hN hh hG
  go_enter Tryd.func42, Tryd.ntmps42
  go_wp2_with fail
  refine HSUB.out.mono ?_
  rintro e w1 ⟨rfl, rfl⟩
  go_wp2_with fail
  go_loopw [7, 10] (fun v iv wr => ∃ k : Nat, k ≤ h ∧ iv = .int .i64 k ∧ Hid (wr.ownsRow w1.heap.size 3 1 v (ls G k).length ((ls G k).map (Value.int .i64)) ∧ Below w1.heap.size w1 wr)) (fun _ iv _ => h - (intOf iv).toNat)
  case atStart => exact ⟨0, by omega, rfl, World.ownsRow_nil _ _ _ _, Below.refl _ _⟩
  case round =>
    obtain ⟨k, hk, rfl, hI⟩ := hrel
    by_cases hlt : k < h
    · have hlt2 : (k : Int) < (h : Int) := by omega
      have hks : IntKind.i64.wrap ((k : Int) + 1) = (k : Int) + 1 := by rw [IntKind.wrap_i64]; omega
      obtain ⟨b, o, rfl, hb, hc⟩ := HR1.out k (by rw [← HN.out]; omega)
      obtain ⟨_, _, e1, _, hd⟩ := HR1.out (k + h) (by rw [← HN.out]; omega)
      cases e1
      have hc2 := (hI.out.2.cell (p := ⟨b, o + k, none⟩) (show b < w1.heap.size by omega)).trans hc
      have hd2 := (hI.out.2.cell (p := ⟨b, o + (k + h), none⟩) (show b < w1.heap.size by omega)).trans hd
      have k1 : IntKind.i64.wrap ((k : Int) + (h : Int)) = ((k + h : Nat) : Int) := by rw [IntKind.wrap_i64]; omega
      have k2 : ((k + h : Nat) : Int) < (N : Int) := by omega
      obtain ⟨f1, f2⟩ := HF1.out.all k
      obtain ⟨g1, g2⟩ := HF1.out.all (k + h)
      obtain ⟨x, hx⟩ : ∃ x, x = zat t k := ⟨_, rfl⟩
      obtain ⟨y, hy⟩ : ∃ y, y = zat t (k + h) := ⟨_, rfl⟩
      have HGk : Hid (G k = (x * (1 - r) + y * r) % (p : Int)) := by unfold Hid; rw [HG.out, hx, hy]
      rw [← hx] at hc2 f1 f2
      rw [← hy] at hd2 g1 g2
      obtain ⟨kh, hkh⟩ : ∃ kh, kh = k + h := ⟨_, rfl⟩
      rw [← hkh] at k1 k2 hd2
      have HMA := hid (fun W => rmul_any p x no W h3 hm f1 f2 (by omega) (by omega))
      have HMB := hid (fun W => rmul_any p y r W h3 hm g1 g2 hr1 hr2)
      obtain ⟨m1, m2⟩ := emod_bounds (x * no) p h3
      obtain ⟨m3, m4⟩ := emod_bounds (y * r) p h3
      have HAD : Hid ((p : Int) ∣ x * no % (p : Int) - x * (1 - r)) := by
        unfold Hid
        rw [mulmod (show 0 < p by omega) (show (p : Int) ∣ x - x by simp) HND.out]
        exact dvd_self_mod p _
      have HBD := hid (dvd_self_mod p (y * r))
      generalize x * no % (p : Int) = am at *
      generalize y * r % (p : Int) = bm at *
      have HAA := hid (fun W => radd_any p am bm W h3 hm (by omega) (by omega) (by omega) (by omega))
      have HS : Hid ((am + bm) % (p : Int) = G k) := by
        unfold Hid
        rw [HGk.out, Pol.emod_eq_iff (by omega)]
        exact Sum.dvd_add_sub HAD.out HBD.out
      generalize (am + bm) % (p : Int) = z at *
      have hown := hI.out.1
      have hbel := hI.out.2
      have HLS := hid (ls_len G k)
      have HSC : Hid (ls G (k + 1) = ls G k ++ [z]) := by unfold Hid; rw [ls_succ, HS.out]
      generalize ls G k = Z at *
      have hZ : Z.length ≤ 17592186043904 := by rw [HLS.out]; omega
      have hsz : w1.heap.size ≤ wr.heap.size := hbel.size
      clear hI hc hd hx hy hkh HGk HAD HBD HS
      go_wp2_with fail
      refine (HMA.out _).mono ?_
      rintro e w2 ⟨rfl, rfl⟩
      go_wp2_with fail
      refine (HMB.out _).mono ?_
      rintro e w3 ⟨rfl, rfl⟩
      go_wp2_with fail
      refine (HAA.out _).mono ?_
      rintro e w4 ⟨rfl, rfl⟩
      go_wp2_with (at_builtin; refine wpList_append_own _ rfl _ _ 23 rfl w1.heap.size 3 i0 (.int .i64 0) 1 8 Tryd.underlying23 hi hz0 hz1 hz2 rfl (by decide) _ _ _ rfl (hown.alloc _) ⟨w4.heap.size, 0, none⟩ 1 1 [.int .i64 z] rfl rfl ?c1 ?c2 ?c3 ?c4 ?c5 ?_)
      case c1 =>
        intro j u hj
        match j, hj with
        | 0, hj => simp at hj; subst hj; simp [Addr.add]
      case c2 => intro u hu; simp at hu; subst hu; rfl
      case c3 => unfold maxLen; omega
      case c4 => omega
      case c5 => simp; omega
      intro v' w5 hown2 hgrow _
      have hown3 := owns_succ hown2
      have HE : Hid (w5.ownsRow w1.heap.size 3 1 v' (ls G (k + 1)).length ((ls G (k + 1)).map (Value.int .i64)) ∧ Below w1.heap.size w1 w5) := by
        unfold Hid
        rw [HSC.out]
        exact ⟨hown3, (hbel.alloc hsz _).grown hgrow (by simp; omega) (fun j hj => (hown.lt j hj).1)⟩
      clear hown2 hown3 hgrow hown hbel
      go_wp2_with fail
      go_roundw
      case rel => exact ⟨k + 1, by omega, by go_num, HE⟩
      case measure => simp [intOf]; omega
    · obtain rfl : k = h := by omega
      have hlt2 : ¬ (k : Int) < (k : Int) := by omega
      go_wp2_with fail
      go_ret
      exact ⟨_, rfl, by rw [HE0.out]; exact hI.out.1, hI.out.2⟩

/-- the sum of products -/
def totz (p : Nat) (rows : List (List Int)) : Int := Dom.sm (fun i => Sum.prz (fun k => zat (rat rows k) i) rows.length) (rat rows 0).length % (p : Int)
theorem totz_bounds (p : Nat) (rows : List (List Int)) (h3 : 3 ≤ p) : 0 ≤ totz p rows ∧ totz p rows < p := emod_bounds _ p h3

set_option maxRecDepth 100000 in
set_option maxHeartbeats 2000000 in
theorem rtotal_any (p cap n0 N : Nat) (a : Option Addr) (rows : List (List Int)) (w : World) (h3 : 3 ≤ p) (hm : p ≤ 2147483647) (h1 : 1 ≤ rows.length) (hrl : rows.length ≤ 17592186043904) (hlen : ∀ k, k < rows.length → (rat rows k).length = N) (hN : N ≤ 17592186043904) (hf : ∀ k, k < rows.length → Fits (rat rows k)) (hl : LstR n0 w a cap rows) :
    Calls Tryd.prog 41 #[.int .i64 p, .slice a rows.length cap] w fun e w' => e = .returned (.int .i64 (totz p rows)) ∧ w' = w := by
  have HF := hid hf
  have HL := hid hl
  have HLN := hid hlen
  obtain ⟨d, hd⟩ : ∃ d, d = rows.length := ⟨_, rfl⟩
  rw [← hd] at h1 hrl ⊢
  have HD := hid hd
  obtain ⟨G, hG⟩ : ∃ G : Nat → Nat → Int, G = fun i k => zat (rat rows k) i := ⟨_, rfl⟩
  have HG := hid hG
  have HE0 : Hid (totz p rows = Dom.sm (fun i => Sum.prz (G i) d) N % (p : Int)) := by unfold Hid totz; rw [hG, hlen 0 (by omega), hd]
  obtain ⟨b0, o0, ak0, ck0, rfl, _, hc0, _⟩ := hl.row 0 (by omega)
  rw [hlen 0 (by omega), Nat.add_zero] at hc0
  have t0 : (0 : Int) < (d : Int) := by omega
  clear hf hl hlen hd hG
  go_enter Tryd.func41, Tryd.ntmps41
  go_wp2_with fail
  go_loop [5, 6] (fun sv iv => ∃ (i : Nat) (s : Int), i ≤ N ∧ iv = .int .i64 i ∧ sv = .int .i64 s ∧ 0 ≤ s ∧ s < (p : Int) ∧ Hid (s = Dom.sm (fun i => Sum.prz (G i) d) i % (p : Int))) (fun _ iv => N - (intOf iv).toNat)
  case atStart => exact ⟨0, 0, by omega, rfl, rfl, by omega, by omega, by simp [Hid, Dom.sm]⟩
  case round =>
    obtain ⟨i, s, hi, rfl, rfl, hs1, hs2, hI⟩ := hrel
    by_cases hlt : i < N
    · have hlt2 : (i : Int) < (N : Int) := by omega
      have hks : IntKind.i64.wrap ((i : Int) + 1) = (i : Int) + 1 := by rw [IntKind.wrap_i64]; omega
      go_wp2_with fail
      go_loop [7, 8] (fun xv kv => ∃ (k : Nat) (x : Int), k ≤ d ∧ kv = .int .i64 k ∧ xv = .int .i64 x ∧ 0 ≤ x ∧ x < (p : Int) ∧ Hid (x = Sum.prz (G i) k % (p : Int))) (fun _ kv => d - (intOf kv).toNat)
      case atStart => exact ⟨0, 1, by omega, rfl, rfl, by omega, by omega, by unfold Hid; simp only [Sum.prz]; rw [Int.emod_eq_of_lt (by omega) (by omega)]⟩
      case round =>
        obtain ⟨k, x, hk, rfl, rfl, hx1, hx2, hJ⟩ := hrel
        by_cases hkt : k < d
        · have hkt2 : (k : Int) < (d : Int) := by omega
          have hkw : IntKind.i64.wrap ((k : Int) + 1) = (k : Int) + 1 := by rw [IntKind.wrap_i64]; omega
          obtain ⟨_, _, ak, ck, e1, _, hc, hlk⟩ := HL.out.row k (by rw [← HD.out]; exact hkt)
          cases e1
          rw [HLN.out k (by rw [← HD.out]; exact hkt)] at hc
          obtain ⟨bk, ok, rfl, _, hy⟩ := hlk.row i (by rw [HLN.out k (by rw [← HD.out]; exact hkt)]; exact hlt)
          obtain ⟨f1, f2⟩ := (HF.out k (by rw [← HD.out]; exact hkt)).all i
          obtain ⟨y, hy0⟩ : ∃ y, y = zat (rat rows k) i := ⟨_, rfl⟩
          have HGk : Hid (G i k = y) := by unfold Hid; rw [HG.out, hy0]
          rw [← hy0] at hy f1 f2
          have HMU := hid (rmul_any p x y w h3 hm (by omega) (by omega) f1 f2)
          obtain ⟨d1, d2⟩ := emod_bounds (x * y) p h3
          have HE : Hid (x * y % (p : Int) = Sum.prz (G i) (k + 1) % (p : Int)) := by
            unfold Hid
            rw [Sum.prz, HGk.out]
            refine mulmod (by omega) ?_ (by simp)
            rw [hJ.out]
            exact dvd_self_mod p _
          generalize x * y % (p : Int) = x' at *
          clear hJ hlk hy0
          go_wp2_with fail
          refine HMU.out.mono ?_
          rintro e w1 ⟨rfl, rfl⟩
          go_wp2_with fail
          go_round
          case rel => exact ⟨k + 1, x', by omega, by go_num, rfl, d1, d2, HE⟩
          case measure => simp [intOf]; omega
        · obtain rfl : k = d := by omega
          have hkt2 : ¬ (k : Int) < (k : Int) := by omega
          have hp0 : ¬ (p : Int) = 0 := by omega
          have hw1 : IntKind.i64.wrap (s + x) = s + x := by rw [IntKind.wrap_i64]; omega
          have hw2 : (s + x).tmod (p : Int) = (s + x) % (p : Int) := Int.tmod_eq_emod_of_nonneg (by omega)
          obtain ⟨g1, g2⟩ := emod_bounds (s + x) p h3
          have hw3 : IntKind.i64.wrap ((s + x) % (p : Int)) = (s + x) % (p : Int) := by rw [IntKind.wrap_i64]; omega
          have HE : Hid ((s + x) % (p : Int) = Dom.sm (fun i => Sum.prz (G i) k) (i + 1) % (p : Int)) := by
            unfold Hid
            rw [Pol.emod_eq_iff (by omega), Dom.sm]
            refine Sum.dvd_add_sub ?_ ?_
            · rw [hI.out]; exact dvd_self_mod p _
            · rw [hJ.out]; exact dvd_self_mod p _
          generalize (s + x) % (p : Int) = s' at *
          clear hI hJ
          go_wp2_with fail
          go_round
          case rel => exact ⟨i + 1, s', by omega, by go_num, rfl, g1, g2, HE⟩
          case measure => simp [intOf]; omega
    · obtain rfl : i = N := by omega
      have hlt2 : ¬ (i : Int) < (i : Int) := by omega
      have HE : Hid (s = totz p rows) := by unfold Hid; rw [HE0.out, hI.out]
      clear hI
      go_wp2_with fail
      go_ret
      exact ⟨by rw [← HE.out]; rfl, rfl⟩

/-- 0, 1, .. -/
def cnt' (n : Nat) : List Int := ls (fun i => (i : Int)) n
theorem cnt_len (n : Nat) : (cnt' n).length = n := ls_len _ _
/-- what the polynomial that is l at 0, 1, .. is at r -/
def atz (p : Nat) (l : List Int) (r : Int) : Int := evz p (pfit p (cnt' l.length) l) r
theorem atz_bounds (p : Nat) (l : List Int) (r : Int) (h3 : 3 ≤ p) : 0 ≤ atz p l r ∧ atz p l r < p := emod_bounds _ p h3
theorem pfit_can {p : Nat} (h3 : 3 ≤ p) (xs ys : List Int) : Pol.Can p (pfit p xs ys) := Pol.mk_can (by omega) _ _
theorem pfit_le (p : Nat) (xs ys : List Int) : (pfit p xs ys).length ≤ xs.length := by rw [pfit, Pol.mk_length]; exact Pol.tp_le _ _ _

set_option maxRecDepth 100000 in
set_option maxHeartbeats 2000000 in
theorem rat4_any (p cap : Nat) (a : Option Addr) (l : List Int) (r : Int) (w : World) (h3 : 3 ≤ p) (hm : p ≤ 2147483647) (hl : l.length ≤ 17592186043904) (hf : Fits l) (hr1 : -9223372036854775808 ≤ r) (hr2 : r ≤ 9223372036854775807) (hrow : RowB w.heap.size w a l) :
    Calls Tryd.prog 25 #[.int .i64 p, .slice a l.length cap, .int .i64 r] w fun e w' => e = .returned (.int .i64 (atz p l r)) ∧ Below w.heap.size w w' := by
  obtain ⟨i0, hi, hz0, hz1, hz2⟩ := info_parts Tryd.infoInt
  have HF := hid hf
  have HR := hid hrow
  obtain ⟨n, hn⟩ : ∃ n, n = l.length := ⟨_, rfl⟩
  rw [← hn] at hl ⊢
  have HN := hid hn
  clear hf hrow hn
  go_enter Tryd.func25, Tryd.ntmps25
  go_wp2_with fail
  go_loopw [7, 8] (fun v iv wr => ∃ k : Nat, k ≤ n ∧ iv = .int .i64 k ∧ Hid (wr.ownsRow w.heap.size 3 1 v (cnt' k).length ((cnt' k).map (Value.int .i64)) ∧ Below w.heap.size w wr)) (fun _ iv _ => n - (intOf iv).toNat)
  case atStart => exact ⟨0, by omega, rfl, World.ownsRow_nil _ _ _ _, Below.refl _ _⟩
  case round =>
    obtain ⟨k, hk, rfl, hI⟩ := hrel
    by_cases hlt : k < n
    · have hlt2 : (k : Int) < (n : Int) := by omega
      have hks : IntKind.i64.wrap ((k : Int) + 1) = (k : Int) + 1 := by rw [IntKind.wrap_i64]; omega
      have hown := hI.out.1
      have hbel := hI.out.2
      have HLS := hid (cnt_len k)
      have HSC : Hid (cnt' (k + 1) = cnt' k ++ [(k : Int)]) := by unfold Hid cnt'; rw [ls_succ]
      generalize cnt' k = Z at *
      have hZ : Z.length ≤ 17592186043904 := by rw [HLS.out]; omega
      have hsz : w.heap.size ≤ wr.heap.size := hbel.size
      clear hI
      go_wp2_with (at_builtin; refine wpList_append_own _ rfl _ _ 23 rfl w.heap.size 3 i0 (.int .i64 0) 1 8 Tryd.underlying23 hi hz0 hz1 hz2 rfl (by decide) _ _ _ rfl (hown.alloc _) ⟨wr.heap.size, 0, none⟩ 1 1 [.int .i64 (k : Int)] rfl rfl ?c1 ?c2 ?c3 ?c4 ?c5 ?_)
      case c1 =>
        intro j u hj
        match j, hj with
        | 0, hj => simp at hj; subst hj; simp [Addr.add]
      case c2 => intro u hu; simp at hu; subst hu; rfl
      case c3 => unfold maxLen; omega
      case c4 => omega
      case c5 => simp; omega
      intro v' w5 hown2 hgrow _
      have hown3 := owns_succ hown2
      have HE : Hid (w5.ownsRow w.heap.size 3 1 v' (cnt' (k + 1)).length ((cnt' (k + 1)).map (Value.int .i64)) ∧ Below w.heap.size w w5) := by
        unfold Hid
        rw [HSC.out]
        exact ⟨hown3, (hbel.alloc hsz _).grown hgrow (by simp; omega) (fun j hj => (hown.lt j hj).1)⟩
      clear hown2 hown3 hgrow hown hbel
      go_wp2_with fail
      go_roundw
      case rel => exact ⟨k + 1, by omega, by go_num, HE⟩
      case measure => simp [intOf]; omega
    · obtain rfl : k = n := by omega
      have hlt2 : ¬ (k : Int) < (k : Int) := by omega
      obtain ⟨ax, cx, hv, hlx⟩ := lst_of_owns hI.out.1
      rw [cnt_len] at hv
      subst hv
      have HB := hid hI.out.2
      have HFI : Hid (Calls Tryd.prog 52 #[.int .i64 p, .slice ax k cx, .slice a k cap] wr fun e w' => ∃ a' c', e = .returned (.slice a' (pfit p (cnt' k) l).length c') ∧ RowB w'.heap.size w' a' (pfit p (cnt' k) l) ∧ Below wr.heap.size wr w') := by
        have h := rfit_any p cx cap ax a (cnt' k) l wr h3 hm (by rw [cnt_len]; exact hl) (fun j hj => by rw [cnt_len] at hj; unfold cnt'; rw [ls_at _ _ _ hj]; omega) HF.out hlx.row ((HR.out.below HB.out).mono HB.out.size) (by rw [cnt_len]; exact HN.out)
        rw [cnt_len, ← HN.out] at h
        exact h
      have HPC := hid (pfit_can h3 (cnt' k) l)
      have HPL : Hid ((pfit p (cnt' k) l).length ≤ k) := by have := pfit_le p (cnt' k) l; rw [cnt_len] at this; exact this
      have HE0 : Hid (atz p l r = evz p (pfit p (cnt' k) l) r) := by unfold Hid atz; rw [← HN.out]
      generalize pfit p (cnt' k) l = g at *
      clear hI hlx
      go_wp2_with fail
      refine HFI.out.mono ?_
      rintro e w2 ⟨a', c', rfl, hrow, hb2⟩
      have HB2 : Hid (Below w.heap.size w w2) := HB.out.trans (hb2.mono HB.out.size)
      have HEV := hid (reval_any p c' (· < w2.heap.size) a' g r w2 h3 hm (by have := HPL.out; omega) (fits_of_can hm HPC.out) hr1 hr2 (hrow.p (fun _ h => h)))
      clear hrow hb2 HFI
      go_wp2_with fail
      refine HEV.out.mono ?_
      rintro e w3 ⟨rfl, rfl⟩
      go_wp2_with fail
      go_ret
      exact ⟨by rw [HE0.out]; rfl, HB2.out⟩

end Go.Proofs.YtecaifjbmfianagDoor
