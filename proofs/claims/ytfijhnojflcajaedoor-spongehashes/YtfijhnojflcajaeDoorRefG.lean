/- attestref3, the digests: common, Power, Constant, Mix, Permute, Pad, Hash; attestref1.All as a list of its own. -/
import Derived.Test.YtfijhnojflcajaeDoorPlain
import Derived.Test.YtfijhnojflcajaeDoorPls
import Derived.Test.YtfijhnojflcajaeDoorDoms
import Derived.Deep.QuietTactic
import Derived.StillTailTactics
namespace Go.Proofs.YtfijhnojflcajaeDoor
open Go.RowKit


set_option maxHeartbeats 1000000 in
theorem rall_own (p n cap : Nat) (a : Option Addr) (f : Nat → Int) (w : World) (h3 : 3 ≤ p) (hm : p ≤ 2147483647)
    (hn : n ≤ 17592186044416) (hfit : FitsF n f) (hrow : RowF (· < w.heap.size) w a n f) :
    Calls Tryd.prog 22 #[.int .i64 p, .slice a n cap] w fun e w' => ∃ v, e = .returned v ∧ w'.ownsRow w.heap.size 3 1 v (ls (fun j => f j % (p : Int)) n).length ((ls (fun j => f j % (p : Int)) n).map (Value.int .i64)) ∧ Below w.heap.size w w' := by
  obtain ⟨i0, hi, hz0, hz1, hz2⟩ := info_parts Tryd.infoInt
  have HF := hid hfit
  have HR := hid hrow
  clear hfit hrow
  go_enter Tryd.func22, Tryd.ntmps22
  go_wp2_with fail
  go_loopw [5, 6] (fun v iv wr => ∃ k : Nat, k ≤ n ∧ iv = .int .i64 k ∧ wr.ownsRow w.heap.size 3 1 v (ls (fun j => f j % (p : Int)) k).length ((ls (fun j => f j % (p : Int)) k).map (Value.int .i64)) ∧ Below w.heap.size w wr)
    (fun _ iv _ => n - (intOf iv).toNat)
  case atStart => exact ⟨0, Nat.zero_le _, rfl, World.ownsRow_nil _ _ _ _, Below.refl _ _⟩
  case round =>
    obtain ⟨k, hk, rfl, hown, hbel⟩ := hrel
    have hsz := hbel.size
    by_cases hlt : k < n
    · have hlt2 : (k : Int) < (n : Int) := by omega
      obtain ⟨bl, ol, rfl, hbl, hcl⟩ := HR.out k hlt
      have hcl2 := (hbel.cell (p := ⟨bl, ol + k, none⟩) hbl).trans hcl
      obtain ⟨hx1, hx2⟩ := HF.out k hlt
      have HLS := hid (ls_succ (fun j => f j % (p : Int)) k)
      have HLL := hid (ls_len (fun j => f j % (p : Int)) k)
      generalize f k = x at *
      clear hcl
      go_wp2_with fail
      refine (rof_any p x _ h3 hm hx1 hx2).mono ?_
      rintro e w1 ⟨rfl, rfl⟩
      generalize ls (fun j => f j % (p : Int)) k = lk at *
      go_wp2_with (at_builtin; refine wpList_append_own _ rfl _ _ 22 rfl w.heap.size 3 i0 (.int .i64 0) 1 8 Tryd.underlying22 hi hz0 hz1 hz2 rfl (by decide) _ _ _ rfl (hown.alloc _) ⟨w1.heap.size, 0, none⟩ 1 1 [.int .i64 (x % (p : Int))] rfl rfl ?c1 ?c2 ?c3 ?c4 ?c5 ?_)
      case c1 =>
        intro j u hj
        match j, hj with
        | 0, hj => simp at hj; subst hj; simp [Addr.add]
      case c2 => intro u hu; simp at hu; subst hu; rfl
      case c3 => have := HLL.out; unfold maxLen; omega
      case c4 => have := HLL.out; omega
      case c5 => simp; omega
      intro v' w2 hown2 hgrow _
      have hown3 := owns_succ hown2
      have HB : Hid (Below w.heap.size w w2) := (hbel.alloc hsz _).grown hgrow (by simp; omega) (fun k hk => (hown.lt k hk).1)
      have HO := hid hown3
      clear hown2 hown3 hgrow hown hbel
      go_wp2_with fail
      go_roundw
      case rel => exact ⟨k + 1, by omega, by go_num, by rw [HLS.out]; exact HO.out, HB.out⟩
      case measure => simp [intOf]; omega
    · have hlt2 : ¬ (k : Int) < (n : Int) := by omega
      obtain rfl : k = n := by omega
      have HO := hid hown
      clear hown
      go_wp2_with fail
      go_ret
      exact ⟨_, rfl, HO.out, hbel⟩

/-! ## common, Power -/
def cmb (n m : Nat) : Bool := (List.range (n + 1)).any (fun i => decide (2 ≤ i) && n % i == 0 && m % i == 0)
theorem cmb_iff (n m : Nat) (hn : 1 ≤ n) : cmb n m = false ↔ Spo.Apart n m := by
  unfold cmb
  rw [List.any_eq_false]
  constructor
  · intro h i hi h1 h2
    have hle := Nat.le_of_dvd (by omega) h1
    have := h i (List.mem_range.2 (by omega))
    simp [hi, Nat.mod_eq_zero_of_dvd h1, Nat.mod_eq_zero_of_dvd h2] at this
  · intro h i _
    by_cases hi : 2 ≤ i
    · by_cases h1 : n % i = 0
      · have := h i hi (Nat.dvd_of_mod_eq_zero h1)
        have h2 : ¬ m % i = 0 := fun e => this (Nat.dvd_of_mod_eq_zero e)
        simp [h1, h2]
      · simp [h1]
    · simp [hi]

set_option maxRecDepth 100000 in
theorem rcommon_any (n m : Nat) (w : World) (hn : 2 ≤ n) (hn2 : n ≤ 2147483647) (hm : m ≤ 2147483647) :
    Calls Tryd.prog 59 #[.int .i64 n, .int .i64 m] w fun e w' => e = .returned (.bool (cmb n m)) ∧ w' = w := by
  go_enter Tryd.func59, Tryd.ntmps59
  go_wp2_with fail
  go_loop [5] (fun iv => ∃ i : Nat, 2 ≤ i ∧ i ≤ n + 1 ∧ iv = .int .i64 i ∧ Hid (∀ j, 2 ≤ j → j < i → ¬ (n % j = 0 ∧ m % j = 0))) (fun iv => n + 1 - (intOf iv).toNat)
  case atStart => exact ⟨2, Nat.le_refl _, by omega, rfl, fun j h1 h2 => by omega⟩
  case round =>
    obtain ⟨i, hi1, hi2, rfl, HI⟩ := hrel
    by_cases hlt : i ≤ n
    · have hlt2 : (i : Int) ≤ (n : Int) := by omega
      have hz : ((i : Int) == 0) = false := by rw [beq_eq_false_iff_ne]; omega
      have en : (n : Int) % (i : Int) = ((n % i : Nat) : Int) := by rw [Int.natCast_emod]
      have em : (m : Int) % (i : Int) = ((m % i : Nat) : Int) := by rw [Int.natCast_emod]
      by_cases h1 : n % i = 0
      · have b1 : (((n % i : Nat) : Int) == 0) = true := by rw [h1]; rfl
        by_cases h2 : m % i = 0
        · have b2 : (((m % i : Nat) : Int) == 0) = true := by rw [h2]; rfl
          have HC : Hid (cmb n m = true) := by
            unfold Hid cmb
            rw [List.any_eq_true]
            exact ⟨i, List.mem_range.2 (by omega), by simp [hi1, h1, h2]⟩
          generalize n % i = x at *
          generalize m % i = y at *
          clear h1 h2
          go_wp2_with fail
          go_ret
          exact ⟨by rw [HC.out]; rfl, rfl⟩
        · have b2 : (((m % i : Nat) : Int) == 0) = false := by rw [beq_eq_false_iff_ne]; omega
          have HI2 : Hid (∀ j, 2 ≤ j → j < i + 1 → ¬ (n % j = 0 ∧ m % j = 0)) := fun j g1 g2 g3 => by
            by_cases e : j = i
            · subst e; exact h2 g3.2
            · exact HI.out j g1 (by omega) g3
          generalize n % i = x at *
          generalize m % i = y at *
          clear h1 h2
          go_wp2_with fail
          go_round
          case rel => exact ⟨i + 1, by omega, by omega, by go_num, HI2⟩
          case measure => simp [intOf]; omega
      · have b1 : (((n % i : Nat) : Int) == 0) = false := by rw [beq_eq_false_iff_ne]; omega
        have HI2 : Hid (∀ j, 2 ≤ j → j < i + 1 → ¬ (n % j = 0 ∧ m % j = 0)) := fun j g1 g2 g3 => by
          by_cases e : j = i
          · subst e; exact h1 g3.1
          · exact HI.out j g1 (by omega) g3
        generalize n % i = x at *
        generalize m % i = y at *
        clear h1
        go_wp2_with fail
        go_round
        case rel => exact ⟨i + 1, by omega, by omega, by go_num, HI2⟩
        case measure => simp [intOf]; omega
    · have hlt2 : ¬ (i : Int) ≤ (n : Int) := by omega
      have HC : Hid (cmb n m = false) := by
        unfold Hid
        rw [cmb_iff n m (by omega)]
        intro j g1 g2 g3
        have hle := Nat.le_of_dvd (by omega) g2
        exact HI.out j g1 (by omega) ⟨Nat.mod_eq_zero_of_dvd g2, Nat.mod_eq_zero_of_dvd g3⟩
      go_wp2_with fail
      go_ret
      exact ⟨by rw [HC.out]; rfl, rfl⟩

set_option maxRecDepth 100000 in
theorem rpower_any (q : Nat) (w : World) (h5 : 5 ≤ q) (h4 : q ≤ 2147483647) :
    Calls Tryd.prog 44 #[.int .i64 q] w fun e w' => ∃ n : Nat, e = .returned (.int .i64 n) ∧ Spo.PowIs q n ∧ n < q ∧ w' = w := by
  go_enter Tryd.func44, Tryd.ntmps44
  go_wp2_with fail
  go_loop [3] (fun iv => ∃ i : Nat, 2 ≤ i ∧ i ≤ q - 2 ∧ iv = .int .i64 i ∧ Hid (∀ j, 2 ≤ j → j < i → ¬ Spo.Apart j (q - 1))) (fun iv => q - (intOf iv).toNat)
  case atStart => exact ⟨2, Nat.le_refl _, by omega, rfl, fun j h1 h2 => by omega⟩
  case round =>
    obtain ⟨i, hi1, hi2, rfl, HI⟩ := hrel
    have hlt2 : (i : Int) < (q : Int) := by omega
    obtain ⟨m, hm⟩ : ∃ m, m = q - 1 := ⟨_, rfl⟩
    have e1 : (q : Int) - 1 = (m : Int) := by omega
    have HCM := hid (rcommon_any i m w hi1 (by omega) (by omega))
    have HMM := hid hm
    clear hm
    cases hc : cmb i m with
    | false =>
      have HP : Hid (Spo.PowIs q i) := ⟨hi1, by rw [← HMM.out]; exact (cmb_iff i m (by omega)).1 hc, HI.out⟩
      rw [hc] at HCM
      go_wp2_with fail
      refine HCM.out.mono ?_
      rintro e w1 ⟨rfl, rfl⟩
      go_wp2_with fail
      go_ret
      exact ⟨i, rfl, HP.out, by omega, rfl⟩
    | true =>
      have hna : ¬ Spo.Apart i (q - 1) := fun h => by
        rw [← HMM.out] at h
        rw [(cmb_iff i m (by omega)).2 h] at hc
        cases hc
      have hlast : i ≠ q - 2 := fun e => hna (by rw [e]; exact Spo.pow_some h5)
      have HI2 : Hid (∀ j, 2 ≤ j → j < i + 1 → ¬ Spo.Apart j (q - 1)) := fun j g1 g2 => by
        by_cases e : j = i
        · subst e; exact hna
        · exact HI.out j g1 (by omega)
      rw [hc] at HCM
      go_wp2_with fail
      refine HCM.out.mono ?_
      rintro e w1 ⟨rfl, rfl⟩
      go_wp2_with fail
      go_round
      case rel => exact ⟨i + 1, by omega, by omega, by go_num, HI2⟩
      case measure => simp [intOf]; omega

/-! ## Constant -/
def cst (q : Nat) (r i : Int) : Int := if r < 0 ∨ 7 < r ∨ i < 0 ∨ 7 < i then 0 else ((8 * r + i + 1) ^ 5 + 3) % (q : Int)
theorem cst_bounds (q : Nat) (r i : Int) (h3 : 3 ≤ q) : 0 ≤ cst q r i ∧ cst q r i < q := by
  unfold cst
  split
  · omega
  · exact emod_bounds _ q h3
theorem pwm_int (q : Nat) (a : Int) (n : Nat) (h3 : 3 ≤ q) : ((Num.pwm q (el q a) n : Nat) : Int) = a ^ n % (q : Int) := by
  rw [Num.pwm_cast, el_cast q a h3, Pol.emod_eq_iff (by omega)]
  exact Dom.pow_congr (Pol.emod_dvd q a) n

set_option maxRecDepth 100000 in
theorem rconst_any (q : Nat) (r i : Int) (w : World) (h3 : 3 ≤ q) (h4 : q ≤ 2147483647) :
    Calls Tryd.prog 45 #[.int .i64 q, .int .i64 r, .int .i64 i] w fun e w' => e = .returned (.int .i64 (cst q r i)) ∧ w' = w := by
  by_cases h : r < 0 ∨ 7 < r ∨ i < 0 ∨ 7 < i
  · have HC : Hid (cst q r i = 0) := by unfold Hid cst; rw [if_pos h]
    have h' : r < 0 ∨ (¬ r < 0 ∧ 7 < r) ∨ (¬ r < 0 ∧ ¬ 7 < r ∧ i < 0) ∨ (¬ r < 0 ∧ ¬ 7 < r ∧ ¬ i < 0 ∧ 7 < i) := by omega
    clear h
    rcases h' with g1 | ⟨g1, g2⟩ | ⟨g1, g2, g3⟩ | ⟨g1, g2, g3, g4⟩
    all_goals
      go_enter Tryd.func45, Tryd.ntmps45
      go_wp2_with fail
      go_ret
      exact ⟨by rw [HC.out]; rfl, rfl⟩
  · have g1 : ¬ r < 0 := by omega
    have g2 : ¬ 7 < r := by omega
    have g3 : ¬ i < 0 := by omega
    have g4 : ¬ 7 < i := by omega
    have HC : Hid (cst q r i = ((8 * r + i + 1) ^ 5 % (q : Int) + 3) % (q : Int)) := by
      unfold Hid cst
      rw [if_neg h]
      rw [Int.emod_add_emod]
    have HPW := hid (rpow_nat q 5 (8 * r + i + 1) w h3 h4 (by omega) (by omega) (by omega))
    rw [pwm_int q _ 5 h3] at HPW
    obtain ⟨b1, b2⟩ := emod_bounds ((8 * r + i + 1) ^ 5) q h3
    obtain ⟨c, hc⟩ : ∃ c, c = (8 * r + i + 1) ^ 5 % (q : Int) := ⟨_, rfl⟩
    rw [← hc] at HC HPW b1 b2
    clear h hc
    go_enter Tryd.func45, Tryd.ntmps45
    go_wp2_with fail
    refine HPW.out.mono ?_
    rintro e w1 ⟨rfl, rfl⟩
    go_wp2_with fail
    refine (radd_any q c 3 _ h3 h4 (by omega) (by omega) (by omega) (by omega)).mono ?_
    rintro e w1 ⟨rfl, rfl⟩
    go_wp2_with fail
    go_ret
    exact ⟨by rw [HC.out]; rfl, rfl⟩

/-! ## Mix -/
def mxs (q : Nat) (f : Nat → Int) (i k : Nat) : Int := Dom.sm (fun j => f j * (invn q ((i + j + 8 : Nat) : Int) : Int) % (q : Int)) k % (q : Int)
def mx (q : Nat) (f : Nat → Int) (i : Nat) : Int := mxs q f i 8
theorem mxs_succ (q : Nat) (f : Nat → Int) (i k : Nat) : (mxs q f i k + f k * (invn q ((i + k + 8 : Nat) : Int) : Int) % (q : Int)) % (q : Int) = mxs q f i (k + 1) := by
  unfold mxs
  simp only [Dom.sm]
  rw [Int.add_emod, Int.emod_emod_of_dvd _ (Int.dvd_refl _), ← Int.add_emod]

set_option maxRecDepth 100000 in
set_option maxHeartbeats 1000000 in
theorem rmix_own (q cap : Nat) (a : Option Addr) (f : Nat → Int) (w : World) (h3 : 3 ≤ q) (h4 : q ≤ 2147483647) (hfit : FitsF 8 f) (hrow : RowF (· < w.heap.size) w a 8 f) :
    Calls Tryd.prog 47 #[.int .i64 q, .slice a 8 cap] w fun e w' => ∃ (g N : Nat) (F : Nat → Value),
      e = .returned (.slice (some ⟨g, 0, none⟩) 8 N) ∧ w.heap.size ≤ g ∧ w'.rowIs g 3 N F ∧ 8 ≤ N ∧ (∀ j, j < 8 → F j = .int .i64 (mx q f j)) ∧ Below w.heap.size w w' := by
  obtain ⟨i0, hi, hz0, hz1, hz2⟩ := info_parts Tryd.infoInt
  have HF := hid hfit
  have HR := hid hrow
  clear hfit hrow
  go_enter Tryd.func47, Tryd.ntmps47
  go_wp2_with fail
  go_loopw [5, 6] (fun v iv wr => ∃ i : Nat, i ≤ 8 ∧ iv = .int .i64 i ∧ wr.ownsRow w.heap.size 3 1 v (ls (mx q f) i).length ((ls (mx q f) i).map (Value.int .i64)) ∧ Below w.heap.size w wr)
    (fun _ iv _ => 8 - (intOf iv).toNat)
  case atStart => exact ⟨0, Nat.zero_le _, rfl, World.ownsRow_nil _ _ _ _, Below.refl _ _⟩
  case round =>
    obtain ⟨i, hi8, rfl, hown, hbel⟩ := hrel
    obtain ⟨wo, rfl⟩ : ∃ wo, wo = wr := ⟨_, rfl⟩
    have hsz := hbel.size
    by_cases hlt : i < 8
    · have hlt2 : (i : Int) < 8 := by omega
      have HLS := hid (ls_succ (mx q f) i)
      have HLL := hid (ls_len (mx q f) i)
      have HMX : Hid (mx q f i = mxs q f i 8) := rfl
      have HRW : Hid (RowF (· < w.heap.size) wo a 8 f) := fun j hj => by
        obtain ⟨bl, ol, e1, e2, e3⟩ := HR.out j hj
        exact ⟨bl, ol, e1, e2, (hbel.cell (p := ⟨bl, ol + j, none⟩) e2).trans e3⟩
      obtain ⟨mi, hmi⟩ : ∃ mi, mi = mx q f i := ⟨_, rfl⟩
      have HMI := hid hmi
      rw [← hmi] at HLS HMX
      generalize ls (mx q f) i = lk at *
      clear hmi
      go_wp2_with fail
      go_loop [7, 8] (fun sv jv => ∃ j : Nat, j ≤ 8 ∧ jv = .int .i64 j ∧ sv = .int .i64 (mxs q f i j)) (fun _ jv => 8 - (intOf jv).toNat)
      case atStart => exact ⟨0, Nat.zero_le _, rfl, by simp [mxs, Dom.sm]⟩
      case round =>
        obtain ⟨j, hj8, rfl, rfl⟩ := hrel
        by_cases hjl : j < 8
        · have hjl2 : (j : Int) < 8 := by omega
          obtain ⟨bl, ol, rfl, hbl, hcl⟩ := HRW.out j hjl
          obtain ⟨y1, y2⟩ := HF.out j hjl
          have HS := hid (mxs_succ q f i j)
          obtain ⟨s1, s2⟩ := emod_bounds (Dom.sm (fun j => f j * (invn q ((i + j + 8 : Nat) : Int) : Int) % (q : Int)) j) q h3
          rw [show Dom.sm (fun j => f j * (invn q ((i + j + 8 : Nat) : Int) : Int) % (q : Int)) j % (q : Int) = mxs q f i j from rfl] at s1 s2
          obtain ⟨d1, d2⟩ := emod_bounds (f j * (invn q ((i + j + 8 : Nat) : Int) : Int)) q h3
          obtain ⟨k, hk⟩ : ∃ k, k = i + j + 8 := ⟨_, rfl⟩
          have ek : (i : Int) + (j : Int) + 8 = (k : Int) := by omega
          rw [← hk] at HS d1 d2
          have hk2 : k ≤ 22 := by omega
          have HDV : Hid (∀ W : World, Calls Tryd.prog 62 #[.int .i64 q, .int .i64 (f j), .int .i64 k] W fun e w' => e = .returned (.int .i64 (f j * (invn q (k : Int) : Int) % (q : Int))) ∧ w' = W) := fun W => rdiv_any q (f j) k W h3 h4 y1 y2 (by omega) (by omega)
          clear hk
          generalize f j * (invn q (k : Int) : Int) % (q : Int) = dv at *
          generalize f j = y at *
          generalize mxs q f i j = sj at *
          go_wp2_with fail
          refine (HDV.out _).mono ?_
          rintro e w1 ⟨rfl, rfl⟩
          go_wp2_with fail
          go_round
          case rel => exact ⟨j + 1, by omega, by go_num, by rw [← HS.out]⟩
          case measure => simp [intOf]; omega
        · have hjl2 : ¬ (j : Int) < 8 := by omega
          obtain rfl : j = 8 := by omega
          rw [← HMX.out]
          go_wp2_with (at_builtin; refine wpList_append_own _ rfl _ _ 22 rfl w.heap.size 3 i0 (.int .i64 0) 1 8 Tryd.underlying22 hi hz0 hz1 hz2 rfl (by decide) _ _ _ rfl (hown.alloc _) ⟨wo.heap.size, 0, none⟩ 1 1 [.int .i64 mi] rfl rfl ?c1 ?c2 ?c3 ?c4 ?c5 ?_)
          try (case c1 =>
            intro j u hj
            match j, hj with
            | 0, hj => simp at hj; subst hj; simp [Addr.add])
          try (case c2 => first | rfl | exact ⟨rfl, rfl⟩ | (intro u hu; simp at hu; subst hu; rfl))
          case c3 => have := HLL.out; unfold maxLen; omega
          case c4 => have := HLL.out; omega
          try (case c5 => first | omega | (simp; omega))
          intro v' w2 hown2 hgrow _
          have hown3 := owns_succ hown2
          have HB : Hid (Below w.heap.size w w2) := (hbel.alloc hsz _).grown hgrow (by simp; omega) (fun k hk => (hown.lt k hk).1)
          have HO := hid hown3
          clear hown2 hown3 hgrow hown hbel
          go_wp2_with fail
          go_roundw
          case rel => exact ⟨i + 1, by omega, by go_num, by rw [HLS.out]; exact HO.out, HB.out⟩
          case measure => simp [intOf]; omega
    · have hlt2 : ¬ (i : Int) < 8 := by omega
      obtain rfl : i = 8 := by omega
      have hll := ls_len (mx q f) 8
      obtain ⟨g, N, F, rfl, hg, hri, hnN, hF⟩ := rowIs_of_owns hown (by rw [hll]; omega)
      rw [hll] at hnN hF
      have HE : Hid (w.heap.size ≤ g ∧ wo.rowIs g 3 N F ∧ 8 ≤ N ∧ (∀ j, j < 8 → F j = .int .i64 (mx q f j)) ∧ Below w.heap.size w wo) :=
        ⟨hg, hri, hnN, fun j hj => by rw [hF j hj, ls_at _ _ _ hj], hbel⟩
      rw [hll]
      clear hri hF hown hll hbel
      go_wp2_with fail
      go_ret
      first
        | exact ⟨g, N, F, rfl, HE.out⟩
        | exact ⟨g, N, rfl, HE.out.1, F, HE.out.2⟩

end Go.Proofs.YtfijhnojflcajaeDoor
