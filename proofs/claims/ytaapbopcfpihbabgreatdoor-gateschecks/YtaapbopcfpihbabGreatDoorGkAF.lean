/- What package attestref1's Vanish and Fit answer. attestref4: Variables, Over, weight, Extend, Fix, Total, At. -/
import Derived.Test.YtaapbopcfpihbabGreatDoorGkAE
import Derived.Test.YtaapbopcfpihbabGreatDoorPls
import Derived.Test.YtaapbopcfpihbabGreatDoorRefs
import Derived.Test.YtaapbopcfpihbabGreatDoorGkAC
import Derived.BigQuiet
namespace Go.Proofs.YtaapbopcfpihbabGreatDoor
open Go.RowKit

theorem vsk_beyond (xs : Nat → Int) (k n j : Nat) (h : n < j) : Pol.vsk xs k n j = 0 := by
  induction n generalizing j with
  | zero => simp [Pol.vsk, Pol.one]; omega
  | succ n ih =>
    rw [Pol.vsk]
    by_cases e : n = k
    · rw [if_pos e]; exact ih j (by omega)
    · rw [if_neg e, Pol.mul_lin]; simp only [Pol.sub, Pol.sh, Pol.sc]
      rw [if_neg (by omega), ih _ (by omega), ih _ (by omega)]; simp
theorem vsk_b (p : Nat) (xs : Nat → Int) (k n : Nat) : ∀ j, n + 1 ≤ j → Pol.vsk xs k n j % (p : Int) = 0 := fun j hj => by rw [vsk_beyond _ _ _ _ (by omega)]; simp

theorem vskl_zero {p : Nat} (h3 : 3 ≤ p) (xs : List Int) (k : Nat) : vskl p xs k 0 = [1] := by
  refine Pol.can_eq (by omega) (Pol.mk_can (by omega) _ _) ⟨fun j hj => ?_, fun _ => ?_⟩ ((Pol.mk_eqp (vsk_b p _ k 0)).trans (Pol.Eqp.of_eq ?_))
  · simp at hj; subst hj; simp; omega
  · simp
  · rw [Pol.cf_one]; rfl
theorem vskl_skip {p : Nat} (h3 : 3 ≤ p) (xs : List Int) (k : Nat) : vskl p xs k (k + 1) = vskl p xs k k := by
  refine Pol.mk_congr (by omega) (vsk_b p _ k (k + 1)) (vsk_b p _ k k) (Pol.Eqp.of_eq ?_)
  rw [Pol.vsk, if_pos rfl]
theorem lin_list (p : Nat) (x : Int) : Pol.Eqp p (Pol.cf [(0 - x) % (p : Int), 1]) (Pol.lin x) := fun j => by
  match j with
  | 0 =>
    have := Pol.emod_dvd p (0 - x)
    simpa [Pol.cf, Pol.lin, Pol.sub, Pol.sh, Pol.sc, Pol.one] using this
  | 1 => simp [Pol.cf, Pol.lin, Pol.sub, Pol.sh, Pol.sc, Pol.one]
  | j + 2 => simp [Pol.cf, Pol.lin, Pol.sub, Pol.sh, Pol.sc, Pol.one]
theorem vskl_succ {p : Nat} (h3 : 3 ≤ p) (xs : List Int) (k i : Nat) (h : i ≠ k) : Pol.pmul p (vskl p xs k i) [(0 - zat xs i) % (p : Int), 1] = vskl p xs k (i + 1) := by
  refine Pol.mk_congr (by omega) (Pol.pmul_b p _ _) (vsk_b p _ k (i + 1)) ?_
  rw [Pol.vsk, if_neg h]
  exact (Pol.mk_eqp (vsk_b p _ k i)).mul (lin_list p (zat xs i))
theorem vskl_le (p : Nat) (xs : List Int) (k i : Nat) : (vskl p xs k i).length ≤ i + 1 := by rw [vskl, Pol.mk_length]; exact Pol.tp_le _ _ _
theorem vskl_can {p : Nat} (h3 : 3 ≤ p) (xs : List Int) (k i : Nat) : Pol.Can p (vskl p xs k i) := Pol.mk_can (by omega) _ _
theorem two_at (W : World) (x y : Int) : (W.alloc (.cells #[.int .i64 x, .int .i64 y] 3)).cell? ⟨W.heap.size, 0, none⟩ = some (.int .i64 x) ∧ (W.alloc (.cells #[.int .i64 x, .int .i64 y] 3)).cell? ⟨W.heap.size, 1, none⟩ = some (.int .i64 y) := by simp
theorem one_at' (W : World) (x : Int) : (W.alloc (.cells #[.int .i64 x] 3)).cell? ⟨W.heap.size, 0, none⟩ = some (.int .i64 x) := by simp

set_option maxHeartbeats 2000000 in
theorem rvanish_any (p cap kk : Nat) (kI : Int) (a : Option Addr) (xs : List Int) (w : World) (h3 : 3 ≤ p) (hm : p ≤ 2147483647)
    (hn : xs.length ≤ 17592186043904) (hfit : Fits xs) (hrow : RowB w.heap.size w a xs) (hkk : ∀ i, i < xs.length → (((i : Int) == kI) = decide (i = kk))) :
    Calls Tryz.prog 96 #[.int .i64 p, .slice a xs.length cap, .int .i64 kI] w fun e w' => ∃ a' c', e = .returned (.slice a' (vskl p xs kk xs.length).length c') ∧ RowB w'.heap.size w' a' (vskl p xs kk xs.length) ∧ Below w.heap.size w w' := by
  have HF := hid hfit
  have HR := hid hrow
  have HK := hid hkk
  clear hfit hrow hkk
  have hz0 := vskl_zero h3 xs kk
  have HZ0 := hid hz0
  clear hz0
  go_enter Tryz.func96, Tryz.ntmps96
  go_wp2_with fail
  go_loopw [7, 8] (fun v iv wr => ∃ (k : Nat) (ao : Option Addr) (co : Nat), k ≤ xs.length ∧ iv = .int .i64 k ∧ v = .slice ao (vskl p xs kk k).length co ∧ Hid (RowB wr.heap.size wr ao (vskl p xs kk k)) ∧ Hid (Below w.heap.size w wr))
    (fun _ iv _ => xs.length - (intOf iv).toNat)
  case atStart => exact ⟨0, some ⟨w.heap.size, 0, none⟩, 1, Nat.zero_le _, rfl, by rw [HZ0.out]; rfl, by
    rw [HZ0.out]
    exact fun j hj => by simp at hj; subst hj; exact ⟨w.heap.size, 0, rfl, by simp, one_at' w 1⟩, (Below.refl w.heap.size w).alloc (Nat.le_refl _) _⟩
  case round =>
    obtain ⟨k, ao, co, hk, rfl, rfl, hlst, hbel⟩ := hrel
    have hsz := hbel.out.size
    by_cases hlt : k < xs.length
    · have hlt2 : (k : Int) < (xs.length : Int) := by omega
      by_cases hek : k = kk
      · have heb : ((k : Int) == kI) = true := by rw [HK.out k hlt, decide_eq_true hek]
        have HSK : Hid (vskl p xs kk (k + 1) = vskl p xs kk k) := by unfold Hid; rw [hek]; exact vskl_skip h3 xs kk
        clear hek
        go_wp2_with fail
        go_roundw
        case rel => exact ⟨k + 1, _, _, by omega, by go_num, by rw [HSK.out], by rw [HSK.out]; exact hlst, hbel⟩
        case measure => simp [intOf]; omega
      · have heb : ((k : Int) == kI) = false := by rw [HK.out k hlt, decide_eq_false hek]
        obtain ⟨bl, ol, rfl, hbl, hcl⟩ := HR.out k hlt
        have hcl2 := (hbel.out.cell (p := ⟨bl, ol + k, none⟩) hbl).trans hcl
        obtain ⟨hx1, hx2⟩ := HF.out k hlt
        have hnb := emod_bounds (0 - zat xs k) p h3
        have HSUB := hid (rsub_any p 0 (zat xs k) wr h3 hm (by omega) (by omega) hx1 hx2)
        have hvl := vskl_le p xs kk k
        have HT : Hid (Calls Tryz.prog 127 #[.int .i64 p, .slice ao (vskl p xs kk k).length co, .slice (some ⟨wr.heap.size, 0, none⟩) 2 2] (wr.alloc (.cells #[.int .i64 ((0 - zat xs k) % (p : Int)), .int .i64 1] 3)) fun e w' => ∃ a' c', e = .returned (.slice a' (vskl p xs kk (k + 1)).length c') ∧ Lst w'.heap.size w' a' c' (vskl p xs kk (k + 1)) ∧ Below (wr.alloc (.cells #[.int .i64 ((0 - zat xs k) % (p : Int)), .int .i64 1] 3)).heap.size (wr.alloc (.cells #[.int .i64 ((0 - zat xs k) % (p : Int)), .int .i64 1] 3)) w') := by
          have := rtimes_any p co 2 ao (some ⟨wr.heap.size, 0, none⟩) (vskl p xs kk k) [(0 - zat xs k) % (p : Int), 1] (wr.alloc (.cells #[.int .i64 ((0 - zat xs k) % (p : Int)), .int .i64 1] 3)) h3 hm (by simp; omega) (fits_of_can hm (vskl_can h3 _ _ _)) (fun j hj => by
              have : j = 0 ∨ j = 1 := by simp at hj; omega
              rcases this with rfl | rfl
              · exact ⟨by show _ ≤ (0 - zat xs k) % (p : Int); omega, by show (0 - zat xs k) % (p : Int) ≤ _; omega⟩
              · exact ⟨by show (-9223372036854775808 : Int) ≤ 1; omega, by show (1 : Int) ≤ 9223372036854775807; omega⟩) ((hlst.out.below ((Below.refl wr.heap.size wr).alloc (Nat.le_refl _) _)).mono (by simp)) (fun j hj => by
              have h2 := two_at wr ((0 - zat xs k) % (p : Int)) 1
              have : j = 0 ∨ j = 1 := by simp at hj; omega
              rcases this with rfl | rfl
              · exact ⟨wr.heap.size, 0, rfl, by simp, h2.1⟩
              · exact ⟨wr.heap.size, 0, rfl, by simp, h2.2⟩)
          rw [vskl_succ h3 xs kk k hek] at this
          exact this
        have HBA : Hid (Below w.heap.size w (wr.alloc (.cells #[.int .i64 ((0 - zat xs k) % (p : Int)), .int .i64 1] 3))) := hbel.out.alloc hsz _
        clear hcl hek hnb
        generalize (0 - zat xs k) % (p : Int) = nx at *
        generalize zat xs k = x at *
        go_wp2_with fail
        refine HSUB.out.mono ?_
        rintro e w1 ⟨rfl, rfl⟩
        go_wp2_with fail
        refine HT.out.mono ?_
        rintro e w2 ⟨a', c', rfl, hl, hb⟩
        have HL := hid hl.row
        have HB2 : Hid (Below w.heap.size w w2) := HBA.out.trans (hb.mono HBA.out.size)
        clear hl hb
        go_wp2_with fail
        go_roundw
        case rel => exact ⟨k + 1, _, _, by omega, by go_num, rfl, HL, HB2⟩
        case measure => simp [intOf]; omega
    · have hlt2 : ¬ (k : Int) < (xs.length : Int) := by omega
      obtain rfl : k = xs.length := by omega
      go_wp2_with fail
      go_ret
      exact ⟨_, ⟨_, rfl⟩, hlst.out, hbel.out⟩

/-- the sum of the first i, as a list -/
def fl (p : Nat) (xs ys : List Int) (i : Nat) : List Int := Pol.mk p (FS p xs ys i) xs.length
theorem fl_b (p : Nat) (xs ys : List Int) (i : Nat) (hi : i ≤ xs.length) : ∀ j, xs.length ≤ j → FS p xs ys i j % (p : Int) = 0 := fun j hj => by rw [FS_zero p xs ys i hi j hj]; simp
theorem fl_zero {p : Nat} (xs ys : List Int) : fl p xs ys 0 = [] := by
  have : (fl p xs ys 0).length = 0 := by
    rw [fl, Pol.mk_length]
    exact Nat.le_zero.1 (Pol.tp_bound (fun j _ => by simp [FS, Pol.zero]))
  exact List.length_eq_zero_iff.1 this
theorem fl_succ {p : Nat} (h3 : 3 ≤ p) (xs ys : List Int) (i : Nat) (hi : i < xs.length) : Pol.padd p (fl p xs ys i) (Pol.pscale p (vskl p xs i xs.length) (fc p xs ys i) 0) = fl p xs ys (i + 1) := by
  refine Pol.mk_congr (by omega) (Pol.padd_b p _ _) (fl_b p xs ys (i + 1) (by omega)) ?_
  rw [FS]
  refine (Pol.mk_eqp (fl_b p xs ys i (by omega))).add ((Pol.pscale_eqp p _ _ 0).trans ?_)
  rw [Pol.sh_zero]
  exact (Pol.mk_eqp (vsk_b p _ i xs.length)).sc _
theorem fl_le (p : Nat) (xs ys : List Int) (i : Nat) : (fl p xs ys i).length ≤ xs.length := by rw [fl, Pol.mk_length]; exact Pol.tp_le _ _ _
theorem fl_can {p : Nat} (h3 : 3 ≤ p) (xs ys : List Int) (i : Nat) : Pol.Can p (fl p xs ys i) := Pol.mk_can (by omega) _ _

set_option maxHeartbeats 2000000 in
theorem rfit_any (p c1 c2 : Nat) (a1 a2 : Option Addr) (xs ys : List Int) (w : World) (h3 : 3 ≤ p) (hm : p ≤ 2147483647)
    (hn : xs.length ≤ 17592186043904) (hf1 : Fits xs) (hf2 : Fits ys) (hr1 : RowB w.heap.size w a1 xs) (hr2 : RowB w.heap.size w a2 ys) (hl : xs.length = ys.length) :
    Calls Tryz.prog 63 #[.int .i64 p, .slice a1 xs.length c1, .slice a2 ys.length c2] w fun e w' => ∃ a' c', e = .returned (.slice a' (pfit p xs ys).length c') ∧ RowB w'.heap.size w' a' (pfit p xs ys) ∧ Below w.heap.size w w' := by
  have HF1 := hid hf1
  have HF2 := hid hf2
  have HA : Hid (Alive w [(a1, xs), (a2, ys)]) := ((Alive.nil w).cons hr2).cons hr1
  have HL := hid hl
  rw [← hl]
  clear hf1 hf2 hr1 hr2 hl
  go_enter Tryz.func63, Tryz.ntmps63
  go_wp2_with fail
  go_loopw [7, 8] (fun v iv wr => ∃ (k : Nat) (ao : Option Addr) (co : Nat), k ≤ xs.length ∧ iv = .int .i64 k ∧ v = .slice ao (fl p xs ys k).length co ∧ Hid (RowB wr.heap.size wr ao (fl p xs ys k)) ∧ Hid (Below w.heap.size w wr))
    (fun _ iv _ => xs.length - (intOf iv).toNat)
  case atStart => exact ⟨0, none, 0, Nat.zero_le _, rfl, by rw [fl_zero]; rfl, by rw [fl_zero]; exact fun j hj => by simp at hj, Below.refl _ _⟩
  case round =>
    obtain ⟨k, ao, co, hk, rfl, rfl, hlst, hbel⟩ := hrel
    have hsz := hbel.out.size
    by_cases hlt : k < xs.length
    · have hlt2 : (k : Int) < (xs.length : Int) := by omega
      have hky : k < ys.length := by have := HL.out; omega
      have HA2 := hid ((HA.out.step hbel.out).cons hlst.out)
      have HV := hid (rvanish_any p c1 k (k : Int) a1 xs wr h3 hm hn HF1.out (HA2.out.at 1 rfl) (fun i _ => by
        by_cases e : i = k
        · subst e; simp
        · rw [decide_eq_false e, beq_eq_false_iff_ne]; omega))
      have hx := HF1.out k hlt
      have hy := HF2.out k hky
      have hvl := vskl_le p xs k xs.length
      have hev := evz_bounds p (vskl p xs k xs.length) (zat xs k) h3
      have hfc := emod_bounds (zat ys k * (invn p (evz p (vskl p xs k xs.length) (zat xs k)) : Int)) p h3
      rw [show zat ys k * (invn p (evz p (vskl p xs k xs.length) (zat xs k)) : Int) % (p : Int) = fc p xs ys k from rfl] at hfc
      have HE : Hid (∀ (W : World) (a' : Option Addr) (c' : Nat), RowB W.heap.size W a' (vskl p xs k xs.length) → Calls Tryz.prog 64 #[.int .i64 p, .slice a' (vskl p xs k xs.length).length c', .int .i64 (zat xs k)] W fun e w' => e = .returned (.int .i64 (evz p (vskl p xs k xs.length) (zat xs k))) ∧ w' = W) := fun W a' c' h =>
        reval_any p c' (· < W.heap.size) a' _ _ W h3 hm (by omega) (fits_of_can hm (vskl_can h3 _ _ _)) hx.1 hx.2 h
      have HD : Hid (∀ W : World, Calls Tryz.prog 97 #[.int .i64 p, .int .i64 (zat ys k), .int .i64 (evz p (vskl p xs k xs.length) (zat xs k))] W fun e w' => e = .returned (.int .i64 (fc p xs ys k)) ∧ w' = W) := fun W =>
        rdiv_any p _ _ W h3 hm hy.1 hy.2 (by omega) (by omega)
      have HSC : Hid (∀ (W : World) (a' : Option Addr) (c' : Nat), RowB W.heap.size W a' (vskl p xs k xs.length) → Calls Tryz.prog 98 #[.int .i64 p, .slice a' (vskl p xs k xs.length).length c', .int .i64 (fc p xs ys k), .int .i64 0] W fun e w' => ∃ a'' c'', e = .returned (.slice a'' (Pol.pscale p (vskl p xs k xs.length) (fc p xs ys k) 0).length c'') ∧ Lst w'.heap.size w' a'' c'' (Pol.pscale p (vskl p xs k xs.length) (fc p xs ys k) 0) ∧ Below W.heap.size W w') := fun W a' c' h =>
        rscaled_any p 0 c' a' _ _ W h3 hm (by omega) (fits_of_can hm (vskl_can h3 _ _ _)) (by omega) (by omega) h
      have HPL : Hid (∀ (W : World) (a' : Option Addr) (c' : Nat), RowB W.heap.size W ao (fl p xs ys k) → Lst W.heap.size W a' c' (Pol.pscale p (vskl p xs k xs.length) (fc p xs ys k) 0) → Calls Tryz.prog 99 #[.int .i64 p, .slice ao (fl p xs ys k).length co, .slice a' (Pol.pscale p (vskl p xs k xs.length) (fc p xs ys k) 0).length c'] W fun e w' => ∃ a'' c'', e = .returned (.slice a'' (fl p xs ys (k + 1)).length c'') ∧ Lst w'.heap.size w' a'' c'' (fl p xs ys (k + 1)) ∧ Below W.heap.size W w') := fun W a' c' g1 g2 => by
        have := rplus_any p co c' ao a' (fl p xs ys k) _ W h3 hm (by have := fl_le p xs ys k; omega) (by have := Pol.pscale_le p (vskl p xs k xs.length) (fc p xs ys k) 0; omega) (fits_of_can hm (fl_can h3 _ _ _)) (fits_of_can hm (pscale_can h3 _ _ _)) g1 g2.row
        rw [fl_succ h3 xs ys k hlt] at this
        exact this
      obtain ⟨bx, ox, hax, hbx, hcx⟩ := (HA.out.at 0 rfl) k hlt
      obtain ⟨by', oy, hay, hby, hcy⟩ := (HA.out.at 1 rfl) k hky
      have HCX : Hid (∀ W : World, Below w.heap.size w W → W.cell? ⟨bx, ox + k, none⟩ = some (.int .i64 (zat xs k))) := fun W h => (h.cell (p := ⟨bx, ox + k, none⟩) hbx).trans hcx
      have HCY : Hid (∀ W : World, Below w.heap.size w W → W.cell? ⟨by', oy + k, none⟩ = some (.int .i64 (zat ys k))) := fun W h => (h.cell (p := ⟨by', oy + k, none⟩) hby).trans hcy
      clear hcx hcy
      subst hax
      subst hay
      generalize Pol.pscale p (vskl p xs k xs.length) (fc p xs ys k) 0 = sc at *
      generalize fc p xs ys k = cc at *
      generalize evz p (vskl p xs k xs.length) (zat xs k) = ev at *
      generalize vskl p xs k xs.length = vl at *
      generalize zat xs k = x at *
      generalize zat ys k = y at *
      go_wp2_with fail
      refine HV.out.mono ?_
      rintro e w1 ⟨av, cv, rfl, hrv, hb1⟩
      have HBW1 : Hid (Below w.heap.size w w1) := hbel.out.trans (hb1.mono hsz)
      have HA3 := hid ((HA2.out.step hb1).cons hrv)
      have hcx1 := HCX.out w1 HBW1.out
      have hcy1 := HCY.out w1 HBW1.out
      clear hrv hb1
      go_wp2_with fail
      refine (HE.out w1 av cv (HA3.out.at 0 rfl)).mono ?_
      rintro e w2 ⟨rfl, rfl⟩
      go_wp2_with fail
      refine (HD.out w2).mono ?_
      rintro e w3 ⟨rfl, rfl⟩
      go_wp2_with fail
      refine (HSC.out w3 av cv (HA3.out.at 0 rfl)).mono ?_
      rintro e w4 ⟨as', cs', rfl, hls, hb4⟩
      have HLS := hid hls
      have HA4 := hid (HA3.out.step hb4)
      have HBW4 : Hid (Below w.heap.size w w4) := HBW1.out.trans (hb4.mono HBW1.out.size)
      clear hls hb4 hcx1 hcy1
      go_wp2_with fail
      refine (HPL.out w4 as' cs' (HA4.out.at 1 rfl) HLS.out).mono ?_
      rintro e w5 ⟨ao', co', rfl, hlo, hb5⟩
      have HLO := hid hlo.row
      have HBW5 : Hid (Below w.heap.size w w5) := HBW4.out.trans (hb5.mono HBW4.out.size)
      clear hlo hb5
      go_wp2_with fail
      go_roundw
      case rel => exact ⟨k + 1, _, _, by omega, by go_num, rfl, HLO, HBW5⟩
      case measure => simp [intOf]; omega
    · have hlt2 : ¬ (k : Int) < (xs.length : Int) := by omega
      obtain rfl : k = xs.length := by omega
      go_wp2_with fail
      go_ret
      exact ⟨_, ⟨_, rfl⟩, hlst.out, hbel.out⟩

end Go.Proofs.YtaapbopcfpihbabGreatDoor

namespace Go.Proofs.YtaapbopcfpihbabGreatDoor
open Go.RowKit

/-- how many variables a table of so many has; -1: it is none -/
def vrs (n : Nat) : Int := match (List.range 13).find? (fun v => n == 2 ^ v) with
  | some v => v
  | none => -1
theorem vrs_yes {n v : Nat} (hv : v ≤ 12) (h : n = 2 ^ v) : vrs n = v := by
  unfold vrs
  have e : (List.range 13).find? (fun u => n == 2 ^ u) = some v := by
    rw [List.find?_range_eq_some]
    refine ⟨by simpa using h, by simp; omega, fun j hj => ?_⟩
    have := Nat.pow_lt_pow_right (a := 2) (by omega) hj
    simp
    omega
  rw [e]
theorem vrs_no {n : Nat} (h : ∀ v, v ≤ 12 → n ≠ 2 ^ v) : vrs n = -1 := by
  unfold vrs
  have e : (List.range 13).find? (fun u => n == 2 ^ u) = none := by
    rw [List.find?_eq_none]
    intro u hu
    simp at hu
    simpa using h u (by omega)
  rw [e]
theorem vrs_of {n : Nat} (h : 0 ≤ vrs n) : ∃ v : Nat, v ≤ 12 ∧ n = 2 ^ v ∧ vrs n = v := by
  by_cases e : ∃ v : Nat, v ≤ 12 ∧ n = 2 ^ v
  · obtain ⟨v, h1, h2⟩ := e
    exact ⟨v, h1, h2, vrs_yes h1 h2⟩
  · have := vrs_no (n := n) (fun v hv h2 => e ⟨v, hv, h2⟩)
    omega

/-- how many variables several tables have; -1: they are none -/
def ovr (rows : List (List Int)) : Int := if 1 ≤ rows.length ∧ rows.length ≤ 4 ∧ ∀ k, k < rows.length → (rat rows k).length = (rat rows 0).length then vrs (rat rows 0).length else -1

end Go.Proofs.YtaapbopcfpihbabGreatDoor
