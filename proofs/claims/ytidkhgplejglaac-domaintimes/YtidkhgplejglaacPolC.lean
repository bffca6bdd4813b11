/- What package poly's addTimes and Mul answer. -/
import Derived.Test.YtidkhgplejglaacPolB
import Derived.RegionTactic
import Derived.Deep.RegionWith
import Derived.BigRegion
namespace Go.Proofs.Ytidkhgplejglaac
open Go.RowKit

/-- so many times y added from place i on, the first k places of it -/
def addf (p : Nat) (f y : Nat → Int) (x : Int) (i k : Nat) : Nat → Int := fun j => if i ≤ j ∧ j < i + k then (f j + y (j - i) * x) % (p : Int) else f j

theorem addf_zero (p : Nat) (f y : Nat → Int) (x : Int) (i : Nat) : addf p f y x i 0 = f := by
  funext j; unfold addf; rw [if_neg (by omega)]
theorem addf_succ (p : Nat) (f y : Nat → Int) (x : Int) (i k : Nat) : up (addf p f y x i k) (i + k) ((f (i + k) + y k * x % (p : Int)) % (p : Int)) = addf p f y x i (k + 1) := by
  funext j; unfold up addf
  by_cases h : j = i + k
  · subst h; rw [if_pos rfl, if_pos (by omega), Nat.add_sub_cancel_left, Int.add_emod (f (i + k)), Int.emod_emod_of_dvd _ (Int.dvd_refl _), ← Int.add_emod]
  · rw [if_neg h]
    by_cases h2 : i ≤ j ∧ j < i + k
    · rw [if_pos h2, if_pos (by omega)]
    · rw [if_neg h2, if_neg (by omega)]
theorem addf_at (p : Nat) (f y : Nat → Int) (x : Int) (i k : Nat) : addf p f y x i k (i + k) = f (i + k) := by unfold addf; rw [if_neg (by omega)]

set_option maxHeartbeats 2000000 in
theorem times_any (p b g n i c1 c2 : Nat) (a : Option Addr) (f : Nat → Int) (ys : List Int) (x : Int) (w : World) (h3 : 3 ≤ p) (hm : p ≤ 2147483647) (hp : w.cell? ⟨b, 0, none⟩ = some (.int .i64 p)) (hbg : b ≠ g)
    (hn : n ≤ 281474976710656) (hi : i + ys.length ≤ n) (hf : ∀ j, j < n → 0 ≤ f j ∧ f j < p) (hy : Fits ys) (hx1 : -9223372036854775808 ≤ x) (hx2 : x ≤ 9223372036854775807) (hC : Cells g 0 n f w) (hr : RowP (· ≠ g) w a ys) :
    Calls Try.prog 25 #[.pointer (some ⟨b, 0, none⟩), .slice (some ⟨g, i, none⟩) (n - i) c1, .slice a ys.length c2, .int .i64 x] w fun e w' =>
      e = .returned (.tuple #[]) ∧ Cells g 0 n (addf p f (zat ys) x i ys.length) w' ∧ Only g w w' := by
  have HF := hid hf
  have HY := hid hy
  have HR := hid hr
  have HC0 := hid hC
  clear hf hy hr hC
  go_enter Try.func25, Try.ntmps25
  go_wp2_with fail
  go_loopw [12] (fun iv wr => ∃ (k : Nat), k ≤ ys.length ∧ iv = .int .i64 k ∧ Hid (Cells g 0 n (addf p f (zat ys) x i k) wr) ∧ Hid (Only g w wr))
    (fun iv _ => ys.length - (intOf iv).toNat)
  case atStart => exact ⟨0, Nat.zero_le _, rfl, by rw [addf_zero]; exact HC0, Only.refl _ _⟩
  case round =>
    obtain ⟨k, hk, rfl, hout, honly⟩ := hrel
    by_cases hlt : k < ys.length
    · have hlt2 : (k : Int) < (ys.length : Int) := by omega
      have hlt3 : (k : Int) < ((n - i : Nat) : Int) := by omega
      obtain ⟨bl, ol, rfl, hbl, hcl⟩ := HR.out k hlt
      have hcl2 := (honly.out.cell (p := ⟨bl, ol + k, none⟩) hbl).trans hcl
      have hok := hout.out.cells (i + k) (by omega)
      have hos := hout.out.soft (i + k) (by omega)
      rw [Nat.zero_add, addf_at] at hok
      rw [Nat.zero_add] at hos
      have hpc := (honly.out.cell (p := ⟨b, 0, none⟩) hbg).trans hp
      obtain ⟨hy1, hy2⟩ := HY.out k hlt
      obtain ⟨hf1, hf2⟩ := HF.out (i + k) (by omega)
      have HC := hid (hout.out.set ((f (i + k) + zat ys k * x % (p : Int)) % (p : Int)) (show i + k < n by omega))
      have HB := hid (honly.out.setCell (p := ⟨g, 0 + (i + k), none⟩) rfl (.int .i64 ((f (i + k) + zat ys k * x % (p : Int)) % (p : Int))))
      rw [addf_succ, Nat.zero_add] at HC
      rw [Nat.zero_add] at HB
      obtain ⟨hb1, hb2⟩ := emod_bounds (zat ys k * x) p h3
      have HM : Hid (∀ w1 : World, w1.cell? ⟨b, 0, none⟩ = some (.int .i64 p) → Calls Try.prog 14 #[.pointer (some ⟨b, 0, none⟩), .int .i64 (zat ys k), .int .i64 x] w1 fun e w' => e = .returned (.int .i64 (zat ys k * x % p)) ∧ w' = w1) :=
        fun w1 h => mul_any p b _ _ w1 h3 hm h hy1 hy2 hx1 hx2
      have HA : Hid (∀ w1 : World, w1.cell? ⟨b, 0, none⟩ = some (.int .i64 p) → Calls Try.prog 15 #[.pointer (some ⟨b, 0, none⟩), .int .i64 (f (i + k)), .int .i64 (zat ys k * x % (p : Int))] w1 fun e w' => e = .returned (.int .i64 ((f (i + k) + zat ys k * x % (p : Int)) % p)) ∧ w' = w1) :=
        fun w1 h => add_any p b _ _ w1 h3 hm h (by omega) (by omega) (by omega) (by omega)
      generalize (f (i + k) + zat ys k * x % (p : Int)) % (p : Int) = z at *
      generalize zat ys k * x % (p : Int) = yx at *
      generalize f (i + k) = fx at *
      generalize zat ys k = y at *
      clear hcl
      go_wp2_with fail
      go_region_with (first
        | (go_at_call 14; refine (HM.out _ ?_).mono ?_; exact hpc; rintro e w1 ⟨rfl, rfl⟩)
        | (go_at_call 15; refine (HA.out _ ?_).mono ?_; exact hpc; rintro e w1 ⟨rfl, rfl⟩))
      all_goals
        go_wp2_with fail
        go_roundw
        case rel => exact ⟨k + 1, by omega, by go_num, HC.out.drew, HB.out.drew⟩
        case measure => simp [intOf]; omega
    · have hlt2 : ¬ (k : Int) < (ys.length : Int) := by omega
      obtain rfl : k = ys.length := by omega
      go_wp2_with fail
      go_end0
      exact ⟨rfl, hout.out, honly.out⟩

/-! ## Mul -/
/-- the product's places while the first i of a are taken -/
def pm (p : Nat) (f g : Nat → Int) (i : Nat) : Nat → Int := fun j => Pol.mul (Pol.lo i f) g j % (p : Int)

theorem pm_zero (p : Nat) (f g : Nat → Int) (j : Nat) : pm p f g 0 j = 0 := by
  unfold pm; rw [Pol.lo_zero, Pol.zero_mul]; simp [Pol.zero]
theorem pm_succ (p : Nat) (f : Nat → Int) (ys : List Int) (i : Nat) : addf p (pm p f (zat ys) i) (zat ys) (f i) i ys.length = pm p f (zat ys) (i + 1) := by
  funext j
  unfold addf pm
  rw [Pol.lo_mul_succ]
  simp only [Pol.add, Pol.sh, Pol.sc]
  by_cases h : j < i
  · rw [if_neg (by omega), if_pos h, Int.add_zero]
  · by_cases h2 : j < i + ys.length
    · rw [if_pos (by omega), if_neg h, Int.add_emod (Pol.mul (Pol.lo i f) (zat ys) j % (p : Int)), Int.emod_emod_of_dvd _ (Int.dvd_refl _), ← Int.add_emod, Int.mul_comm (f i)]
    · rw [if_neg (by omega), if_neg h]
      have : zat ys (j - i) = 0 := by simp [zat, show ys.length ≤ j - i from by omega]
      rw [this]; simp
theorem pm_bounds (p : Nat) (f g : Nat → Int) (i j : Nat) (h3 : 3 ≤ p) : 0 ≤ pm p f g i j ∧ pm p f g i j < p := emod_bounds _ p h3

theorem pm_done (p : Nat) (hp : Num.Prime p) (xs ys : List Int) (hx : Pol.Can p xs) (hy : Pol.Can p ys) (h1 : 0 < xs.length) (h2 : 0 < ys.length) :
    (Pol.pmul p xs ys).length = xs.length + ys.length - 1 ∧ ∀ j, j < xs.length + ys.length - 1 → zat (Pol.pmul p xs ys) j = pm p (zat xs) (zat ys) xs.length j := by
  have hl := Pol.pmul_len hp hx hy h1 h2
  refine ⟨hl, fun j hj => ?_⟩
  rw [← hl, Pol.pmul, Pol.mk_length] at hj
  have := Pol.mk_at p (Pol.mul (Pol.cf xs) (Pol.cf ys)) _ j hj
  rw [show zat (Pol.pmul p xs ys) j = (Pol.pmul p xs ys).getD j 0 from rfl, Pol.pmul, this]
  unfold pm
  rw [show Pol.lo xs.length (zat xs) = Pol.cf xs from Pol.lo_len xs]
  rfl

theorem trim_fits {p : Nat} (h3 : 3 ≤ p) (hm : p ≤ 2147483647) (zs : List Int) : Fits (Pol.trim p zs) := fun j hj => by
  have := (Pol.trim_can (p := p) (Nat.lt_of_lt_of_le (by decide) h3) zs).elem j hj
  have e : zat (Pol.trim p zs) j = (Pol.trim p zs).getD j 0 := rfl
  omega
theorem can_fits {p : Nat} (hm : p ≤ 2147483647) {zs : List Int} (h : Pol.Can p zs) : Fits zs := fun j hj => by
  have := h.elem j hj
  have e : zat zs j = zs.getD j 0 := rfl
  omega
theorem pmul_trim {p : Nat} (h3 : 3 ≤ p) (xs ys : List Int) : Pol.pmul p (Pol.trim p xs) (Pol.trim p ys) = Pol.pmul p xs ys :=
  Pol.mk_congr (by omega) (Pol.pmul_b p _ _) (Pol.pmul_b p _ _) ((Pol.trim_eqp p xs).mul (Pol.trim_eqp p ys))

set_option maxHeartbeats 2000000 in
theorem pmul_any (p b c1 c2 : Nat) (P : Nat → Prop) (a1 a2 : Option Addr) (xs ys : List Int) (w : World) (hpr : Num.Prime p) (h3 : 3 ≤ p) (hm : p ≤ 2147483647) (hp : w.cell? ⟨b, 0, none⟩ = some (.int .i64 p))
    (hn1 : xs.length + ys.length ≤ 35184372088832) (hf1 : Fits xs) (hf2 : Fits ys) (hr1 : RowP P w a1 xs) (hr2 : RowP P w a2 ys) (hP : ∀ k, P k → k < w.heap.size) :
    Calls Try.prog 12 #[.pointer (some ⟨b, 0, none⟩), .slice a1 xs.length c1, .slice a2 ys.length c2] w fun e w' => ∃ a cap,
      e = .returned (.slice a (Pol.pmul p xs ys).length cap) ∧ NewR w.heap.size w' a (Pol.pmul p xs ys) ∧ ((a = none → (Pol.pmul p xs ys).length = 0 ∧ cap = 0) ∧ (Pol.pmul p xs ys).length ≤ cap) ∧ Below w.heap.size w w' := by
  have hb : b < w.heap.size := by
    rcases Nat.lt_or_ge b w.heap.size with g | g
    · exact g
    · simp [World.cell?, Array.getElem?_eq_none g] at hp
  have HT1 := hid (trim_any p b c1 P a1 xs w h3 hm hp (by omega) hf1 hr1 hP)
  have HT2 : Hid (∀ w1, Below w.heap.size w w1 → Calls Try.prog 24 #[.pointer (some ⟨b, 0, none⟩), .slice a2 ys.length c2] w1 fun e w' => e = .returned (.slice (some ⟨w1.heap.size, 0, none⟩) (Pol.trim p ys).length (Pol.trim p ys).length) ∧
      Cells w1.heap.size 0 (Pol.trim p ys).length (zat (Pol.trim p ys)) w' ∧ Below w1.heap.size w1 w' ∧ w'.heap.size = w1.heap.size + 1) := fun w1 hb1 =>
    trim_any p b c2 P a2 ys w1 h3 hm ((hb1.cell (p := ⟨b, 0, none⟩) hb).trans hp) (by omega) hf2 (fun k hk => by
      obtain ⟨bl, ol, e1, e2, e3⟩ := hr2 k hk
      exact ⟨bl, ol, e1, e2, (hb1.cell (p := ⟨bl, ol + k, none⟩) (hP _ e2)).trans e3⟩) (fun k hk => Nat.lt_of_lt_of_le (hP k hk) hb1.size)
  have hl1 := Pol.trim_le p xs
  have hl2 := Pol.trim_le p ys
  have HC1 := hid (Pol.trim_can (p := p) (by omega) xs)
  have HC2 := hid (Pol.trim_can (p := p) (by omega) ys)
  have HE := hid (pmul_trim h3 xs ys)
  have HF1 := hid (trim_fits h3 hm xs)
  have HF2 := hid (trim_fits h3 hm ys)
  have HPR := hid hpr
  clear hf1 hf2 hr1 hr2 hP hpr
  generalize Pol.trim p xs = us at *
  generalize Pol.trim p ys = vs at *
  generalize Pol.pmul p xs ys = res at *
  go_enter Try.func12, Try.ntmps12
  go_wp2_with fail
  refine HT1.out.mono ?_
  rintro e w1 ⟨rfl, hc1, hb1, hs1⟩
  have HU := hid hc1
  have HB1 := hid hb1
  have hs1' : w.heap.size < w1.heap.size := by omega
  clear hc1 hb1 hs1
  go_wp2_with fail
  refine (HT2.out w1 HB1.out).mono ?_
  rintro e w2 ⟨rfl, hc2, hb2, hs2⟩
  have HV := hid hc2
  have HB2 : Hid (Below w.heap.size w w2) := HB1.out.trans (hb2.mono HB1.out.size)
  have HU2 := hid (HU.out.below hb2 (by omega))
  have hs2' : w1.heap.size < w2.heap.size := by omega
  clear hc2 hb2 HU HT1 HT2 hs2
  by_cases h0 : us.length = 0
  · have h0b : ((us.length : Int) == 0) = true := by rw [beq_iff_eq]; omega
    have HE2 : Hid (res = []) := by unfold Hid; rw [← HE.out]; exact Pol.pmul_nil us vs (Or.inl h0)
    clear h0
    go_wp2_with fail
    go_ret
    exact ⟨none, 0, by rw [HE2.out]; rfl, by rw [HE2.out]; exact fun k hk => by simp at hk, ⟨fun _ => by rw [HE2.out]; exact ⟨rfl, rfl⟩, by rw [HE2.out]; exact Nat.le_refl _⟩, HB2.out⟩
  · have h0b : ((us.length : Int) == 0) = false := by rw [beq_eq_false_iff_ne]; omega
    by_cases h1 : vs.length = 0
    · have h1b : ((vs.length : Int) == 0) = true := by rw [beq_iff_eq]; omega
      have HE2 : Hid (res = []) := by unfold Hid; rw [← HE.out]; exact Pol.pmul_nil us vs (Or.inr h1)
      clear h0 h1
      go_wp2_with fail
      go_ret
      exact ⟨none, 0, by rw [HE2.out]; rfl, by rw [HE2.out]; exact fun k hk => by simp at hk, ⟨fun _ => by rw [HE2.out]; exact ⟨rfl, rfl⟩, by rw [HE2.out]; exact Nat.le_refl _⟩, HB2.out⟩
    · have h1b : ((vs.length : Int) == 0) = false := by rw [beq_eq_false_iff_ne]; omega
      obtain ⟨q1, q2⟩ := pm_done p HPR.out us vs HC1.out HC2.out (by omega) (by omega)
      rw [HE.out] at q1 q2
      have e1 : ((us.length : Int) + (vs.length : Int)) - 1 = ((us.length + vs.length - 1 : Nat) : Int) := by omega
      have hmk := fun n h1 h2 w => run_make_row' (P := Try.prog) 22 3 (.int .i64 0) 8 Try.underlying22 Try.infoInt rfl .i64 .i64 n h1 h2 w
      have hmk2 := hmk (us.length + vs.length - 1) (by omega) (by omega)
      have HQ := hid q2
      have hbig : us.length ≤ us.length + vs.length - 1 := by omega
      have hbig2 : us.length + vs.length ≤ us.length + vs.length - 1 + 1 := by omega
      have hbig3 : us.length + vs.length - 1 ≤ 35184372088832 := by omega
      have HRL := hid q1
      clear hmk q1 q2 h0 h1
      generalize us.length + vs.length - 1 = m at *
      go_wp2_with fail
      go_loopw [33] (fun iv wr => ∃ k : Nat, k ≤ us.length ∧ iv = .int .i64 k ∧ Hid (Cells w2.heap.size 0 m (pm p (zat us) (zat vs) k) wr) ∧ Hid (Below w2.heap.size w2 wr) ∧ w2.heap.size < wr.heap.size)
        (fun iv _ => us.length - (intOf iv).toNat)
      case atStart =>
        refine ⟨0, Nat.zero_le _, rfl, ⟨fun j hj => ?_, fun j hj => ?_⟩, ?_, by simp⟩
        · rw [World.cell?_alloc_at _ _ _ _ (by simp), pm_zero]
          simp [madeCells, hj, Nat.mod_one]
        · simp
        · exact (Below.refl _ _).alloc (Nat.le_refl _) _
      case round =>
        obtain ⟨k, hk, rfl, hout, hbel, hsz⟩ := hrel
        by_cases hlt : k < us.length
        · have hlt2 : (k : Int) < (us.length : Int) := by omega
          have hcl := (hbel.out.cell (p := ⟨w.heap.size, 0 + k, none⟩) (by show w.heap.size < w2.heap.size; omega)).trans (HU2.out.cells k hlt)
          rw [Nat.zero_add] at hcl
          obtain ⟨hx1, hx2⟩ := HF1.out k hlt
          have hbw2 : Below w.heap.size w wr := HB2.out.trans (hbel.out.mono (by omega))
          have hpc := (hbw2.cell (p := ⟨b, 0, none⟩) hb).trans hp
          have HRV : Hid (RowP (· ≠ w2.heap.size) wr (some ⟨w1.heap.size, 0, none⟩) vs) := fun j hj => ⟨w1.heap.size, 0, rfl, by omega, (hbel.out.cell (p := ⟨w1.heap.size, 0 + j, none⟩) (by show w1.heap.size < w2.heap.size; omega)).trans (HV.out.cells j hj)⟩
          have HCALL := hid (times_any p b w2.heap.size m k (m - k) vs.length (some ⟨w1.heap.size, 0, none⟩) (pm p (zat us) (zat vs) k) vs (zat us k) wr h3 hm hpc (by omega) (by omega) (by omega) (fun j _ => pm_bounds p _ _ _ j h3) HF2.out hx1 hx2 hout.out HRV.out)
          rw [pm_succ] at HCALL
          have hkm : k ≤ m := by omega
          have hkm2 : (k : Int) ≤ (m : Int) := by omega
          clear hbw2
          generalize zat us k = x at *
          go_wp2_with fail
          refine HCALL.out.mono ?_
          rintro e w3 ⟨rfl, hc3, ho3⟩
          have HC3 := hid hc3
          have HB3 : Hid (Below w2.heap.size w2 w3) := hbel.out.trans (ho3.below (Nat.le_refl _))
          have hs3 : w2.heap.size < w3.heap.size := by rw [ho3.size]; exact hsz
          clear hc3 ho3
          go_wp2_with fail
          go_roundw
          case rel => exact ⟨k + 1, by omega, by go_num, HC3, HB3, hs3⟩
          case measure => simp [intOf]; omega
        · have hlt2 : ¬ (k : Int) < (us.length : Int) := by omega
          obtain rfl : k = us.length := by omega
          go_wp2_with fail
          go_ret
          exact ⟨_, _, ret_slice HRL.out.symm, hout.out.newr (by rw [HRL.out]; exact Nat.le_refl _) (fun j hj => HQ.out j (by rw [← HRL.out]; exact hj)) (by omega) (by omega), ⟨(fun h => by cases h), by rw [HRL.out]; exact Nat.le_refl _⟩, HB2.out.trans (hbel.out.mono (B' := w.heap.size) (by omega))⟩

end Go.Proofs.Ytidkhgplejglaac
