
import Derived.Test.YtlhjifpomchnfaaGreatDoorPlain
import Derived.Test.YtlhjifpomchnfaaGreatDoorPls
import Derived.Test.YtlhjifpomchnfaaGreatDoorDoms
import Derived.Deep.QuietTactic
import Derived.StillTailTactics
import Derived.Laws.AppendOwnNone
set_option maxRecDepth 1000000
set_option maxHeartbeats 8000000
namespace Go.Proofs.YtlhjifpomchnfaaGreatDoor
open Go.RowKit
theorem rall_own (p n cap : Nat) (a : Option Addr) (f : Nat -> Int) (w : World) (h3 : 3 <= p) (hm : p <= 2147483647)
  (hn : n <= 17592186044416) (hfit : FitsF n f) (hrow : RowF (· < w.heap.size) w a n f) :
  Calls Tryz.prog 102 #[.int .i64 p, .slice a n cap] w fun e w' => ∃ v, e = .returned v /\ w'.ownsRow w.heap.size 3 1 v (ls (fun j => f j % (p : Int)) n).length ((ls (fun j => f j % (p : Int)) n).map (Value.int .i64)) /\ Below w.heap.size w w' := by
 obtain ⟨i0, hi, hz0, hz1, hz2⟩ := info_parts Tryz.infoInt
 have HF := hid hfit
 have HR := hid hrow
 clear hfit hrow
 go_enter Tryz.func102, Tryz.ntmps102
 go_wp2_with fail
 go_loopw [5, 6] (fun v iv wr => ∃ k : Nat, k <= n /\ iv = .int .i64 k /\ wr.ownsRow w.heap.size 3 1 v (ls (fun j => f j % (p : Int)) k).length ((ls (fun j => f j % (p : Int)) k).map (Value.int .i64)) /\ Below w.heap.size w wr)
  (fun _ iv _ => n - (intOf iv).toNat)
 case atStart => exact ⟨0, Nat.zero_le _, rfl, World.ownsRow_nil _ _ _ _, Below.refl _ _⟩
 case round =>
  obtain ⟨k, hk, rfl, hown, hbel⟩ := hrel
  have hsz := hbel.size
  by_cases hlt : k < n
  ·have hlt2 : (k : Int) < (n : Int) := by omega
   obtain ⟨bl, ol, rfl, hbl, hcl⟩ := HR.out k hlt
   have hcl2 := (hbel.cell (p := ⟨bl, ol + k, none⟩) hbl).trans hcl
   obtain ⟨hx1, hx2⟩ := HF.out k hlt
   have HLS := hid (ls_succ (fun j => f j % (p : Int)) k)
   have HLL := hid (ls_len (fun j => f j % (p : Int)) k)
   generalize f k = x at *
   clear hcl
   go_wp2_with fail
   refine (rof_any p x _ h3 hm hx1 hx2).mono ?_
   rintro e w1 ⟨rfl, rfl⟩
   generalize ls (fun j => f j % (p : Int)) k = lk at *
   go_wp2_with (at_builtin; refine wpList_append_own _ rfl _ _ 22 rfl w.heap.size 3 i0 (.int .i64 0) 1 8 Tryz.underlying22 hi hz0 hz1 hz2 rfl (by decide) _ _ _ rfl (hown.alloc _) ⟨w1.heap.size, 0, none⟩ 1 1 [.int .i64 (x % (p : Int))] rfl rfl ?c1 ?c2 ?c3 ?c4 ?c5 ?_)
   case c1 =>
    intro j u hj
    match j, hj with
    | 0, hj => simp at hj; subst hj; simp [Addr.add]
   case c2 => intro u hu; simp at hu; subst hu; rfl
   case c3 => have := HLL.out; unfold maxLen; omega
   case c4 => have := HLL.out; omega
   case c5 => simp; omega
   intro v' w2 hown2 hgrow _
   have hown3 := owns_succ hown2
   have HB : Hid (Below w.heap.size w w2) := (hbel.alloc hsz _).grown hgrow (by simp; omega) (fun k hk => (hown.lt k hk).1)
   have HO := hid hown3
   clear hown2 hown3 hgrow hown hbel
   go_wp2_with fail
   go_roundw
   case rel => exact ⟨k + 1, by omega, by go_num, by rw [HLS.out]; exact HO.out, HB.out⟩
   case measure => simp [intOf]; omega
  ·have hlt2 : ¬ (k : Int) < (n : Int) := by omega
   obtain rfl : k = n := by omega
   have HO := hid hown
   clear hown
   go_wp2_with fail
   go_ret
   exact ⟨_, rfl, HO.out, hbel⟩
def cmb (n m : Nat) : Bool := (List.range (n + 1)).any (fun i => decide (2 <= i) && n % i == 0 && m % i == 0)
theorem cmb_iff (n m : Nat) (hn : 1 <= n) : cmb n m = false ↔ Spo.Apart n m := by
 unfold cmb
 rw [List.any_eq_false]
 constructor
 ·intro h i hi h1 h2
  have hle := Nat.le_of_dvd (by omega) h1
  have := h i (List.mem_range.2 (by omega))
  simp [hi, Nat.mod_eq_zero_of_dvd h1, Nat.mod_eq_zero_of_dvd h2] at this
 ·intro h i _
  by_cases hi : 2 <= i
  ·by_cases h1 : n % i = 0
   ·have := h i hi (Nat.dvd_of_mod_eq_zero h1)
    have h2 : ¬ m % i = 0 := fun e => this (Nat.dvd_of_mod_eq_zero e)
    simp [h1, h2]
   ·simp [h1]
  ·simp [hi]
theorem rcommon_any (n m : Nat) (w : World) (hn : 2 <= n) (hn2 : n <= 2147483647) (hm : m <= 2147483647) :
  Calls Tryz.prog 245 #[.int .i64 n, .int .i64 m] w fun e w' => e = .returned (.bool (cmb n m)) /\ w' = w := by
 go_enter Tryz.func245, Tryz.ntmps245
 go_wp2_with fail
 go_loop [5] (fun iv => ∃ i : Nat, 2 <= i /\ i <= n + 1 /\ iv = .int .i64 i /\ Hid (∀ j, 2 <= j -> j < i -> ¬ (n % j = 0 /\ m % j = 0))) (fun iv => n + 1 - (intOf iv).toNat)
 case atStart => exact ⟨2, Nat.le_refl _, by omega, rfl, fun j h1 h2 => by omega⟩
 case round =>
  obtain ⟨i, hi1, hi2, rfl, HI⟩ := hrel
  by_cases hlt : i <= n
  ·have hlt2 : (i : Int) <= (n : Int) := by omega
   have hz : ((i : Int) == 0) = false := by rw [beq_eq_false_iff_ne]; omega
   have en : (n : Int) % (i : Int) = ((n % i : Nat) : Int) := by rw [Int.natCast_emod]
   have em : (m : Int) % (i : Int) = ((m % i : Nat) : Int) := by rw [Int.natCast_emod]
   by_cases h1 : n % i = 0
   ·have b1 : (((n % i : Nat) : Int) == 0) = true := by rw [h1]; rfl
    by_cases h2 : m % i = 0
    ·have b2 : (((m % i : Nat) : Int) == 0) = true := by rw [h2]; rfl
     have HC : Hid (cmb n m = true) := by
      unfold Hid cmb
      rw [List.any_eq_true]
      exact ⟨i, List.mem_range.2 (by omega), by simp [hi1, h1, h2]⟩
     generalize n % i = x at *
     generalize m % i = y at *
     clear h1 h2
     go_wp2_with fail
     go_ret
     exact ⟨by rw [HC.out]; rfl, rfl⟩
    ·have b2 : (((m % i : Nat) : Int) == 0) = false := by rw [beq_eq_false_iff_ne]; omega
     have HI2 : Hid (∀ j, 2 <= j -> j < i + 1 -> ¬ (n % j = 0 /\ m % j = 0)) := fun j g1 g2 g3 => by
      by_cases e : j = i
      ·subst e; exact h2 g3.2
      ·exact HI.out j g1 (by omega) g3
     generalize n % i = x at *
     generalize m % i = y at *
     clear h1 h2
     go_wp2_with fail
     go_round
     case rel => exact ⟨i + 1, by omega, by omega, by go_num, HI2⟩
     case measure => simp [intOf]; omega
   ·have b1 : (((n % i : Nat) : Int) == 0) = false := by rw [beq_eq_false_iff_ne]; omega
    have HI2 : Hid (∀ j, 2 <= j -> j < i + 1 -> ¬ (n % j = 0 /\ m % j = 0)) := fun j g1 g2 g3 => by
     by_cases e : j = i
     ·subst e; exact h1 g3.1
     ·exact HI.out j g1 (by omega) g3
    generalize n % i = x at *
    generalize m % i = y at *
    clear h1
    go_wp2_with fail
    go_round
    case rel => exact ⟨i + 1, by omega, by omega, by go_num, HI2⟩
    case measure => simp [intOf]; omega
  ·have hlt2 : ¬ (i : Int) <= (n : Int) := by omega
   have HC : Hid (cmb n m = false) := by
    unfold Hid
    rw [cmb_iff n m (by omega)]
    intro j g1 g2 g3
    have hle := Nat.le_of_dvd (by omega) g2
    exact HI.out j g1 (by omega) ⟨Nat.mod_eq_zero_of_dvd g2, Nat.mod_eq_zero_of_dvd g3⟩
   go_wp2_with fail
   go_ret
   exact ⟨by rw [HC.out]; rfl, rfl⟩
theorem rpower_any (q : Nat) (w : World) (h5 : 5 <= q) (h4 : q <= 2147483647) :
  Calls Tryz.prog 211 #[.int .i64 q] w fun e w' => ∃ n : Nat, e = .returned (.int .i64 n) /\ Spo.PowIs q n /\ n < q /\ w' = w := by
 go_enter Tryz.func211, Tryz.ntmps211
 go_wp2_with fail
 go_loop [3] (fun iv => ∃ i : Nat, 2 <= i /\ i <= q - 2 /\ iv = .int .i64 i /\ Hid (∀ j, 2 <= j -> j < i -> ¬ Spo.Apart j (q - 1))) (fun iv => q - (intOf iv).toNat)
 case atStart => exact ⟨2, Nat.le_refl _, by omega, rfl, fun j h1 h2 => by omega⟩
 case round =>
  obtain ⟨i, hi1, hi2, rfl, HI⟩ := hrel
  have hlt2 : (i : Int) < (q : Int) := by omega
  obtain ⟨m, hm⟩ := exE (q - 1)
  have e1 : (q : Int) - 1 = (m : Int) := by omega
  have HCM := hid (rcommon_any i m w hi1 (by omega) (by omega))
  have HMM := hid hm
  clear hm
  cases hc : cmb i m with
  | false =>
   have HP : Hid (Spo.PowIs q i) := ⟨hi1, by rw [<- HMM.out]; exact (cmb_iff i m (by omega)).1 hc, HI.out⟩
   rw [hc] at HCM
   go_wp2_with fail
   refine HCM.out.mono ?_
   rintro e w1 ⟨rfl, rfl⟩
   go_wp2_with fail
   go_ret
   exact ⟨i, rfl, HP.out, by omega, rfl⟩
  | true =>
   have hna : ¬ Spo.Apart i (q - 1) := fun h => by
    rw [<- HMM.out] at h
    rw [(cmb_iff i m (by omega)).2 h] at hc
    cases hc
   have hlast : i ≠ q - 2 := fun e => hna (by rw [e]; exact Spo.pow_some h5)
   have HI2 : Hid (∀ j, 2 <= j -> j < i + 1 -> ¬ Spo.Apart j (q - 1)) := fun j g1 g2 => by
    by_cases e : j = i
    ·subst e; exact hna
    ·exact HI.out j g1 (by omega)
   rw [hc] at HCM
   go_wp2_with fail
   refine HCM.out.mono ?_
   rintro e w1 ⟨rfl, rfl⟩
   go_wp2_with fail
   go_round
   case rel => exact ⟨i + 1, by omega, by omega, by go_num, HI2⟩
   case measure => simp [intOf]; omega
def cst (q : Nat) (r i : Int) : Int := if r < 0 ∨ 7 < r ∨ i < 0 ∨ 7 < i then 0 else ((8 * r + i + 1) ^ 5 + 3) % (q : Int)
theorem cst_bounds (q : Nat) (r i : Int) (h3 : 3 <= q) : 0 <= cst q r i /\ cst q r i < q := by
 unfold cst
 split
 ·omega
 ·exact emod_bounds _ q h3
theorem pwm_int (q : Nat) (a : Int) (n : Nat) (h3 : 3 <= q) : ((Num.pwm q (el q a) n : Nat) : Int) = a ^ n % (q : Int) := by
 rw [Num.pwm_cast, el_cast q a h3, Pol.emod_eq_iff (by omega)]
 exact Dom.pow_congr (Pol.emod_dvd q a) n
theorem rconst_any (q : Nat) (r i : Int) (w : World) (h3 : 3 <= q) (h4 : q <= 2147483647) :
  Calls Tryz.prog 212 #[.int .i64 q, .int .i64 r, .int .i64 i] w fun e w' => e = .returned (.int .i64 (cst q r i)) /\ w' = w := by
 by_cases h : r < 0 ∨ 7 < r ∨ i < 0 ∨ 7 < i
 ·have HC : Hid (cst q r i = 0) := by unfold Hid cst; rw [if_pos h]
  have h' : r < 0 ∨ (¬ r < 0 /\ 7 < r) ∨ (¬ r < 0 /\ ¬ 7 < r /\ i < 0) ∨ (¬ r < 0 /\ ¬ 7 < r /\ ¬ i < 0 /\ 7 < i) := by omega
  clear h
  rcases h' with g1 | ⟨g1, g2⟩ | ⟨g1, g2, g3⟩ | ⟨g1, g2, g3, g4⟩
  all_goals
   go_enter Tryz.func212, Tryz.ntmps212
   go_wp2_with fail
   go_ret
   exact ⟨by rw [HC.out]; rfl, rfl⟩
 ·have g1 : ¬ r < 0 := by omega
  have g2 : ¬ 7 < r := by omega
  have g3 : ¬ i < 0 := by omega
  have g4 : ¬ 7 < i := by omega
  have HC : Hid (cst q r i = ((8 * r + i + 1) ^ 5 % (q : Int) + 3) % (q : Int)) := by
   unfold Hid cst
   rw [if_neg h]
   rw [Int.emod_add_emod]
  have HPW := hid (rpow_nat q 5 (8 * r + i + 1) w h3 h4 (by omega) (by omega) (by omega))
  rw [pwm_int q _ 5 h3] at HPW
  obtain ⟨b1, b2⟩ := emod_bounds ((8 * r + i + 1) ^ 5) q h3
  obtain ⟨c, hc⟩ := exE ((8 * r + i + 1) ^ 5 % (q : Int))
  rw [<- hc] at HC HPW b1 b2
  clear h hc
  go_enter Tryz.func212, Tryz.ntmps212
  go_wp2_with fail
  refine HPW.out.mono ?_
  rintro e w1 ⟨rfl, rfl⟩
  go_wp2_with fail
  refine (radd_any q c 3 _ h3 h4 (by omega) (by omega) (by omega) (by omega)).mono ?_
  rintro e w1 ⟨rfl, rfl⟩
  go_wp2_with fail
  go_ret
  exact ⟨by rw [HC.out]; rfl, rfl⟩
def mxs (q : Nat) (f : Nat -> Int) (i k : Nat) : Int := Dom.sm (fun j => f j * (invn q ((i + j + 8 : Nat) : Int) : Int) % (q : Int)) k % (q : Int)
def mx (q : Nat) (f : Nat -> Int) (i : Nat) : Int := mxs q f i 8
theorem mxs_succ (q : Nat) (f : Nat -> Int) (i k : Nat) : (mxs q f i k + f k * (invn q ((i + k + 8 : Nat) : Int) : Int) % (q : Int)) % (q : Int) = mxs q f i (k + 1) := by
 unfold mxs
 simp only [Dom.sm]
 rw [Int.add_emod, Int.emod_emod_of_dvd _ (Int.dvd_refl _), <- Int.add_emod]
theorem rmix_own (q cap : Nat) (a : Option Addr) (f : Nat -> Int) (w : World) (h3 : 3 <= q) (h4 : q <= 2147483647) (hfit : FitsF 8 f) (hrow : RowF (· < w.heap.size) w a 8 f) :
  Calls Tryz.prog 213 #[.int .i64 q, .slice a 8 cap] w fun e w' => ∃ (g N : Nat) (F : Nat -> Value),
   e = .returned (.slice (some ⟨g, 0, none⟩) 8 N) /\ w.heap.size <= g /\ w'.rowIs g 3 N F /\ 8 <= N /\ (∀ j, j < 8 -> F j = .int .i64 (mx q f j)) /\ Below w.heap.size w w' := by
 obtain ⟨i0, hi, hz0, hz1, hz2⟩ := info_parts Tryz.infoInt
 have HF := hid hfit
 have HR := hid hrow
 clear hfit hrow
 go_enter Tryz.func213, Tryz.ntmps213
 go_wp2_with fail
 go_loopw [5, 6] (fun v iv wr => ∃ i : Nat, i <= 8 /\ iv = .int .i64 i /\ wr.ownsRow w.heap.size 3 1 v (ls (mx q f) i).length ((ls (mx q f) i).map (Value.int .i64)) /\ Below w.heap.size w wr)
  (fun _ iv _ => 8 - (intOf iv).toNat)
 case atStart => exact ⟨0, Nat.zero_le _, rfl, World.ownsRow_nil _ _ _ _, Below.refl _ _⟩
 case round =>
  obtain ⟨i, hi8, rfl, hown, hbel⟩ := hrel
  obtain ⟨wo, rfl⟩ := exE (wr)
  have hsz := hbel.size
  by_cases hlt : i < 8
  ·have hlt2 : (i : Int) < 8 := by omega
   have HLS := hid (ls_succ (mx q f) i)
   have HLL := hid (ls_len (mx q f) i)
   have HMX : Hid (mx q f i = mxs q f i 8) := rfl
   have HRW : Hid (RowF (· < w.heap.size) wo a 8 f) := fun j hj => by
    obtain ⟨bl, ol, e1, e2, e3⟩ := HR.out j hj
    exact ⟨bl, ol, e1, e2, (hbel.cell (p := ⟨bl, ol + j, none⟩) e2).trans e3⟩
   obtain ⟨mi, hmi⟩ := exE (mx q f i)
   have HMI := hid hmi
   rw [<- hmi] at HLS HMX
   generalize ls (mx q f) i = lk at *
   clear hmi
   go_wp2_with fail
   go_loop [7, 8] (fun sv jv => ∃ j : Nat, j <= 8 /\ jv = .int .i64 j /\ sv = .int .i64 (mxs q f i j)) (fun _ jv => 8 - (intOf jv).toNat)
   case atStart => exact ⟨0, Nat.zero_le _, rfl, by simp [mxs, Dom.sm]⟩
   case round =>
    obtain ⟨j, hj8, rfl, rfl⟩ := hrel
    by_cases hjl : j < 8
    ·have hjl2 : (j : Int) < 8 := by omega
     obtain ⟨bl, ol, rfl, hbl, hcl⟩ := HRW.out j hjl
     obtain ⟨y1, y2⟩ := HF.out j hjl
     have HS := hid (mxs_succ q f i j)
     obtain ⟨s1, s2⟩ := emod_bounds (Dom.sm (fun j => f j * (invn q ((i + j + 8 : Nat) : Int) : Int) % (q : Int)) j) q h3
     rw [show Dom.sm (fun j => f j * (invn q ((i + j + 8 : Nat) : Int) : Int) % (q : Int)) j % (q : Int) = mxs q f i j from rfl] at s1 s2
     obtain ⟨d1, d2⟩ := emod_bounds (f j * (invn q ((i + j + 8 : Nat) : Int) : Int)) q h3
     obtain ⟨k, hk⟩ := exE (i + j + 8)
     have ek : (i : Int) + (j : Int) + 8 = (k : Int) := by omega
     rw [<- hk] at HS d1 d2
     have hk2 : k <= 22 := by omega
     have HDV : Hid (∀ W : World, Calls Tryz.prog 246 #[.int .i64 q, .int .i64 (f j), .int .i64 k] W fun e w' => e = .returned (.int .i64 (f j * (invn q (k : Int) : Int) % (q : Int))) /\ w' = W) := fun W => rdiv_any q (f j) k W h3 h4 y1 y2 (by omega) (by omega)
     clear hk
     generalize f j * (invn q (k : Int) : Int) % (q : Int) = dv at *
     generalize f j = y at *
     generalize mxs q f i j = sj at *
     go_wp2_with fail
     refine (HDV.out _).mono ?_
     rintro e w1 ⟨rfl, rfl⟩
     go_wp2_with fail
     go_round
     case rel => exact ⟨j + 1, by omega, by go_num, by rw [<- HS.out]⟩
     case measure => simp [intOf]; omega
    ·have hjl2 : ¬ (j : Int) < 8 := by omega
     obtain rfl : j = 8 := by omega
     rw [<- HMX.out]
     go_wp2_with (at_builtin; refine wpList_append_own _ rfl _ _ 22 rfl w.heap.size 3 i0 (.int .i64 0) 1 8 Tryz.underlying22 hi hz0 hz1 hz2 rfl (by decide) _ _ _ rfl (hown.alloc _) ⟨wo.heap.size, 0, none⟩ 1 1 [.int .i64 mi] rfl rfl ?c1 ?c2 ?c3 ?c4 ?c5 ?_)
     try (case c1 =>
      intro j u hj
      match j, hj with
      | 0, hj => simp at hj; subst hj; simp [Addr.add])
     try (case c2 => first | rfl | exact ⟨rfl, rfl⟩ | (intro u hu; simp at hu; subst hu; rfl))
     case c3 => have := HLL.out; unfold maxLen; omega
     case c4 => have := HLL.out; omega
     try (case c5 => first | omega | (simp; omega))
     intro v' w2 hown2 hgrow _
     have hown3 := owns_succ hown2
     have HB : Hid (Below w.heap.size w w2) := (hbel.alloc hsz _).grown hgrow (by simp; omega) (fun k hk => (hown.lt k hk).1)
     have HO := hid hown3
     clear hown2 hown3 hgrow hown hbel
     go_wp2_with fail
     go_roundw
     case rel => exact ⟨i + 1, by omega, by go_num, by rw [HLS.out]; exact HO.out, HB.out⟩
     case measure => simp [intOf]; omega
  ·have hlt2 : ¬ (i : Int) < 8 := by omega
   obtain rfl : i = 8 := by omega
   have hll := ls_len (mx q f) 8
   obtain ⟨g, N, F, rfl, hg, hri, hnN, hF⟩ := rowIs_of_owns hown (by rw [hll]; omega)
   rw [hll] at hnN hF
   have HE : Hid (w.heap.size <= g /\ wo.rowIs g 3 N F /\ 8 <= N /\ (∀ j, j < 8 -> F j = .int .i64 (mx q f j)) /\ Below w.heap.size w wo) :=
    ⟨hg, hri, hnN, fun j hj => by rw [hF j hj, ls_at _ _ _ hj], hbel⟩
   rw [hll]
   clear hri hF hown hll hbel
   go_wp2_with fail
   go_ret
   first
    | exact ⟨g, N, F, rfl, HE.out⟩
    | exact ⟨g, N, rfl, HE.out.1, F, HE.out.2⟩
def stir (q n : Nat) (f : Nat -> Int) : Nat -> Nat -> Int
 | 0, j => f j % (q : Int)
 | k + 1, j => mx q (fun i => (stir q n f k i + cst q k i) ^ n % (q : Int)) j
theorem mx_bounds (q : Nat) (f : Nat -> Int) (j : Nat) (h3 : 3 <= q) : 0 <= mx q f j /\ mx q f j < q := emod_bounds _ q h3
theorem stir_bounds (q n : Nat) (f : Nat -> Int) (k j : Nat) (h3 : 3 <= q) : 0 <= stir q n f k j /\ stir q n f k j < q := by
 cases k with
 | zero => exact emod_bounds _ q h3
 | succ k => exact mx_bounds _ _ _ h3
theorem rperm_any (q n cap : Nat) (a : Option Addr) (f : Nat -> Int) (w : World) (h5 : 5 <= q) (h4 : q <= 2147483647) (hpn : Spo.PowIs q n) (hfit : FitsF 8 f) (hrow : RowF (· < w.heap.size) w a 8 f) :
  Calls Tryz.prog 171 #[.int .i64 q, .slice a 8 cap] w fun e w' => ∃ (g N : Nat) (F : Nat -> Value),
   e = .returned (.slice (some ⟨g, 0, none⟩) 8 N) /\ w.heap.size <= g /\ w'.rowIs g 3 N F /\ 8 <= N /\ (∀ j, j < 8 -> F j = .int .i64 (stir q n f 8 j)) /\ Below w.heap.size w w' := by
 have h3 : 3 <= q := by omega
 have HAL := hid (rall_own q 8 cap a f w h3 h4 (by omega) hfit hrow)
 have HPW : Hid (∀ W : World, Calls Tryz.prog 211 #[.int .i64 q] W fun e w' => ∃ n : Nat, e = .returned (.int .i64 n) /\ Spo.PowIs q n /\ n < q /\ w' = W) := fun W => rpower_any q W h5 h4
 have HPN := hid hpn
 clear hfit hrow hpn
 go_enter Tryz.func171, Tryz.ntmps171
 go_wp2_with fail
 refine HAL.out.mono ?_
 rintro e w1 ⟨v, rfl, hown, hb1⟩
 have hll := ls_len (fun j => f j % (q : Int)) 8
 obtain ⟨g1, N1, F1, rfl, hg1, hri1, hN1, hF1⟩ := rowIs_of_owns hown (by rw [hll]; omega)
 rw [hll] at hN1 hF1 ⊢
 have HRI1 := hid hri1
 have HF1 : Hid (∀ j, j < 8 -> F1 j = .int .i64 (stir q n f 0 j)) := fun j hj => by rw [hF1 j hj, ls_at _ _ _ hj]; rfl
 have HB1 := hid hb1
 clear hll hown hri1 hF1 hb1 HAL
 go_wp2_with fail
 refine (HPW.out _).mono ?_
 rintro e w2 ⟨n', rfl, hpn', hnq, rfl⟩
 obtain rfl : n' = n := Spo.PowIs.unique hpn' HPN.out
 clear hpn' HPW
 go_wp2_with fail
 go_loopw [5, 7] (fun ov rv wr => ∃ (k g N : Nat) (F : Nat -> Value), k <= 8 /\ rv = .int .i64 k /\ ov = .slice (some ⟨g, 0, none⟩) 8 N /\ w.heap.size <= g /\ Hid (wr.rowIs g 3 N F) /\ 8 <= N /\ Hid (∀ j, j < 8 -> F j = .int .i64 (stir q n' f k j)) /\ Hid (Below w.heap.size w wr))
  (fun _ rv _ => 8 - (intOf rv).toNat)
 case atStart => exact ⟨0, g1, N1, F1, Nat.zero_le _, rfl, rfl, hg1, HRI1, hN1, HF1, HB1⟩
 case round =>
  obtain ⟨k, g, N, F, hk, rfl, rfl, hg, hri, hN, hF, hbel⟩ := hrel
  obtain ⟨wo, rfl⟩ := exE (wr)
  by_cases hlt : k < 8
  ·have hlt2 : (k : Int) < 8 := by omega
   have HPB : Hid (∀ j, 0 <= stir q n' f k j /\ stir q n' f k j < q) := fun j => stir_bounds q n' f k j h3
   have HPS : Hid (∀ j, stir q n' f (k + 1) j = mx q (fun i => (stir q n' f k i + cst q k i) ^ n' % (q : Int)) j) := fun _ => rfl
   obtain ⟨P, hP⟩ : ∃ P, P = fun j => stir q n' f k j := ⟨_, rfl⟩
   have HPE : Hid (∀ j, stir q n' f k j = P j) := fun j => by rw [hP]
   simp only [HPE.out] at HPB HPS hF
   clear hP HPE
   go_wp2_with fail
   go_loopw [8] (fun iv wr => ∃ (i : Nat) (F' : Nat -> Value), i <= 8 /\ iv = .int .i64 i /\ Hid (wr.rowIs g 3 N F') /\ Hid (∀ j, j < i -> F' j = .int .i64 ((P j + cst q k j) ^ n' % (q : Int))) /\ Hid (∀ j, i <= j -> j < 8 -> F' j = .int .i64 (P j)) /\ Hid (Below w.heap.size w wr))
    (fun iv _ => 8 - (intOf iv).toNat)
   case atStart => exact ⟨0, F, Nat.zero_le _, rfl, hri, fun j hj => by omega, fun j _ hj => hF.out j hj, hbel⟩
   case round =>
    obtain ⟨i, F', hi, rfl, hri', hlo, hhi, hbel'⟩ := hrel
    by_cases hil : i < 8
    ·have hil2 : (i : Int) < 8 := by omega
     have hok := hri'.out.cell (i := i) (by omega)
     rw [hhi.out i (Nat.le_refl _) hil] at hok
     have hos := hri'.out.frozen i
     obtain ⟨p1, p2⟩ := HPB.out i
     obtain ⟨c1, c2⟩ := cst_bounds q k i h3
     have HCO : Hid (∀ W : World, Calls Tryz.prog 212 #[.int .i64 q, .int .i64 k, .int .i64 i] W fun e w' => e = .returned (.int .i64 (cst q k i)) /\ w' = W) := fun W => rconst_any q k i W h3 h4
     have HPO : Hid (∀ W : World, Calls Tryz.prog 89 #[.int .i64 q, .int .i64 (P i + cst q k i), .int .i64 n'] W fun e w' => e = .returned (.int .i64 ((P i + cst q k i) ^ n' % (q : Int))) /\ w' = W) := fun W => by
      rw [<- pwm_int q _ n' h3]; exact rpow_nat q n' _ W h3 h4 (by omega) (by omega) (by omega)
     have HRI2 : Hid ((wr.setCell ⟨g, i, none⟩ (.int .i64 ((P i + cst q k i) ^ n' % (q : Int)))).rowIs g 3 N (fun j => if j = i then .int .i64 ((P i + cst q k i) ^ n' % (q : Int)) else F' j)) := hri'.out.set i _
     have HLO : Hid (∀ j, j < i + 1 -> (fun j => if j = i then Value.int .i64 ((P i + cst q k i) ^ n' % (q : Int)) else F' j) j = .int .i64 ((P j + cst q k j) ^ n' % (q : Int))) := fun j hj => by
      show (if j = i then _ else _) = _
      by_cases e : j = i
      ·rw [if_pos e, e]
      ·rw [if_neg e]; exact hlo.out j (by omega)
     have HHI : Hid (∀ j, i + 1 <= j -> j < 8 -> (fun j => if j = i then Value.int .i64 ((P i + cst q k i) ^ n' % (q : Int)) else F' j) j = .int .i64 (P j)) := fun j g1 g2 => by
      show (if j = i then _ else _) = _
      rw [if_neg (by omega)]; exact hhi.out j (by omega) g2
     have HBN := hid (hbel'.out.setCell (p := ⟨g, i, none⟩) hg (.int .i64 ((P i + cst q k i) ^ n' % (q : Int))))
     clear hri' hlo hhi
     obtain ⟨z, hz⟩ := exE ((P i + cst q k i) ^ n' % (q : Int))
     rw [<- hz] at HPO HRI2 HLO HHI HBN
     clear hz
     generalize cst q k i = c at *
     generalize P i = x at *
     go_wp2_with fail
     refine (HCO.out _).mono ?_
     rintro e w3 ⟨rfl, rfl⟩
     go_wp2_with fail
     refine (HPO.out _).mono ?_
     rintro e w4 ⟨rfl, rfl⟩
     go_wp2_with fail
     go_roundw
     case rel => exact ⟨i + 1, _, by omega, by go_num, HRI2, HLO, HHI, HBN⟩
     case measure => simp [intOf]; omega
    ·have hil2 : ¬ (i : Int) < 8 := by omega
     obtain rfl : i = 8 := by omega
     obtain ⟨w5, rfl⟩ := exE (wr)
     have HMI := hid (rmix_own q N (some ⟨g, 0, none⟩) (fun j => (P j + cst q k j) ^ n' % (q : Int)) w5 h3 h4 (fun j hj => by have := emod_bounds ((P j + cst q k j) ^ n') q h3; show _ <= (P j + cst q k j) ^ n' % (q : Int) /\ (P j + cst q k j) ^ n' % (q : Int) <= _; omega)
      (fun j hj => ⟨g, 0, rfl, hri'.out.lt, by rw [Nat.zero_add, hri'.out.cell (show j < N by omega), hlo.out j hj]⟩))
     clear hri' hlo hhi hri hF hbel
     go_wp2_with fail
     refine HMI.out.mono ?_
     rintro e w6 ⟨g6, N6, F6, rfl, hg6, hri6, hN6, hF6, hb6⟩
     have HRI6 := hid hri6
     have HF6 : Hid (∀ j, j < 8 -> F6 j = .int .i64 (stir q n' f (k + 1) j)) := fun j hj => by rw [HPS.out]; exact hF6 j hj
     have HB6 : Hid (Below w.heap.size w w6) := hbel'.out.trans (hb6.mono hbel'.out.size)
     have hg6' : w.heap.size <= g6 := by have := hbel'.out.size; omega
     clear hri6 hF6 hb6 HMI
     go_wp2_with fail
     go_roundw
     case rel => exact ⟨k + 1, g6, N6, F6, by omega, by go_num, rfl, hg6', HRI6, hN6, HF6, HB6⟩
     case measure => simp [intOf]; omega
  ·have hlt2 : ¬ (k : Int) < 8 := by omega
   obtain rfl : k = 8 := by omega
   have HE : Hid (w.heap.size <= g /\ wo.rowIs g 3 N F /\ 8 <= N /\ (∀ j, j < 8 -> F j = .int .i64 (stir q n' f 8 j)) /\ Below w.heap.size w wo) := ⟨hg, hri.out, hN, hF.out, hbel.out⟩
   go_wp2_with fail
   go_ret
   first
    | exact ⟨g, N, F, rfl, HE.out⟩
    | exact ⟨g, N, rfl, HE.out.1, F, HE.out.2⟩
def pdf (q : Nat) (f : Nat -> Int) (n j : Nat) : Int := if j < n then f j % (q : Int) else if j = n then 1 else 0
def pln (n : Nat) : Nat := 4 * (n / 4 + 1)
theorem ls_same {f g : Nat -> Int} {n : Nat} (h : ∀ j, j < n -> f j = g j) : ls f n = ls g n := by
 unfold ls
 exact List.map_congr_left (fun j hj => h j (List.mem_range.1 hj))
def lenV : Value -> Nat
 | .slice _ n _ => n
 | _ => 0
theorem owns_len {w : World} {base : Nat} {v : Value} {zs : List Int} (h : w.ownsRow base 3 1 v zs.length (zs.map (Value.int .i64))) : ∃ a c, v = .slice a zs.length c := by
 obtain ⟨a, c, h1, _⟩ := lst_of_owns h
 exact ⟨a, c, h1⟩
theorem rpad_own (q n cap : Nat) (a : Option Addr) (f : Nat -> Int) (w : World) (h3 : 3 <= q) (h4 : q <= 2147483647) (hn : n <= 17592186044400) (hfit : FitsF n f) (hrow : RowF (· < w.heap.size) w a n f) :
  Calls Tryz.prog 170 #[.int .i64 q, .slice a n cap] w fun e w' => ∃ v, e = .returned v /\ w'.ownsRow w.heap.size 3 1 v (ls (pdf q f n) (pln n)).length ((ls (pdf q f n) (pln n)).map (Value.int .i64)) /\ Below w.heap.size w w' := by
 obtain ⟨i0, hi, hz0, hz1, hz2⟩ := info_parts Tryz.infoInt
 have HAL := hid (rall_own q n cap a f w h3 h4 (by omega) hfit hrow)
 rw [ls_same (g := pdf q f n) (fun j hj => by unfold pdf; rw [if_pos hj])] at HAL
 have HP0 : Hid (pdf q f n n = 1) := by unfold Hid pdf; rw [if_neg (Nat.lt_irrefl _), if_pos rfl]
 have HP1 : Hid (∀ j, n < j -> pdf q f n j = 0) := fun j hj => by unfold pdf; rw [if_neg (by omega), if_neg (by omega)]
 have HLS := hid (ls_succ (pdf q f n))
 have HLL := hid (ls_len (pdf q f n))
 have hpn : pln n <= n + 4 /\ n + 1 <= pln n /\ pln n % 4 = 0 := by unfold pln; omega
 obtain ⟨T, hT⟩ := exE (pln n)
 rw [<- hT] at hpn ⊢
 obtain ⟨t1, t2, t3⟩ := hpn
 obtain ⟨P, hP⟩ := exE (pdf q f n)
 rw [<- hP] at HAL HP0 HP1 HLS HLL ⊢
 clear hfit hrow hT hP
 go_enter Tryz.func170, Tryz.ntmps170
 go_wp2_with fail
 refine HAL.out.mono ?_
 rintro e w1 ⟨v, rfl, hown, hb1⟩
 have HL0 := hid (HLL.out n)
 have hsz := hb1.size
 have HL1 := hid (HLS.out n)
 rw [HP0.out] at HL1
 generalize ls P n = lk at *
 go_wp2_with (at_builtin; refine wpList_append_own _ rfl _ _ 22 rfl w.heap.size 3 i0 (.int .i64 0) 1 8 Tryz.underlying22 hi hz0 hz1 hz2 rfl (by decide) _ _ _ rfl (hown.alloc _) ⟨w1.heap.size, 0, none⟩ 1 1 [.int .i64 1] rfl rfl ?c1 ?c2 ?c3 ?c4 ?c5 ?_)
 try (case c1 =>
  intro j u hj
  match j, hj with
  | 0, hj => simp at hj; subst hj; simp [Addr.add])
 try (case c2 => first | rfl | exact ⟨rfl, rfl⟩ | (intro u hu; simp at hu; subst hu; rfl))
 case c3 => have := HL0.out; unfold maxLen; omega
 case c4 => have := HL0.out; omega
 try (case c5 => have := HL0.out; first | omega | (simp; omega))
 intro v' w2 hown2 hgrow _
 have hown3 := owns_succ hown2
 have HB : Hid (Below w.heap.size w w2) := (hb1.alloc hsz _).grown hgrow (by simp; omega) (fun k hk => (hown.lt k hk).1)
 have HO : Hid (w2.ownsRow w.heap.size 3 1 v' (ls P (n + 1)).length ((ls P (n + 1)).map (Value.int .i64))) := by unfold Hid; rw [HL1.out]; exact hown3
 clear hown2 hown3 hgrow hown hb1 hsz HL0 HL1 HAL
 go_wp2_with fail
 go_loopw [5] (fun v wr => ∃ k : Nat, n + 1 <= k /\ k <= T /\ Hid (wr.ownsRow w.heap.size 3 1 v (ls P k).length ((ls P k).map (Value.int .i64))) /\ Hid (Below w.heap.size w wr) /\ lenV v = k)
  (fun v _ => T - lenV v)
 case atStart =>
  refine ⟨n + 1, Nat.le_refl _, t2, HO, HB, ?_⟩
  obtain ⟨a', c', e⟩ := owns_len HO.out
  rw [e]; simp only [lenV]; exact HLL.out _
 case round =>
  obtain ⟨k, hk1, hk2, hown, hbel, hlv⟩ := hrel
  obtain ⟨a', c', rfl⟩ := owns_len hown.out
  have hlk := HLL.out k
  have hsz := hbel.out.size
  rw [hlk]
  have HOW : Hid (wr.ownsRow w.heap.size 3 1 (.slice a' k c') (ls P k).length ((ls P k).map (Value.int .i64))) := by
   have := hown.out
   rw [hlk] at this
   unfold Hid; rw [hlk]; exact this
  by_cases hz : k % 4 = 0
  ·have hkT : k = T := by omega
   have b1 : (((k % 4 : Nat) : Int) != 0) = false := by rw [hz]; rfl
   have e1 : (k : Int) % 4 = ((k % 4 : Nat) : Int) := by omega
   have HE : Hid (wr.ownsRow w.heap.size 3 1 (.slice a' k c') (ls P T).length ((ls P T).map (Value.int .i64))) := by rw [<- hkT]; exact HOW
   clear hz hkT hlk hlv hown
   generalize k % 4 = x at *
   go_wp2_with fail
   go_ret
   exact ⟨_, rfl, HE.out, hbel.out⟩
  ·have b1 : (((k % 4 : Nat) : Int) != 0) = true := by rw [bne_iff_ne]; omega
   have e1 : (k : Int) % 4 = ((k % 4 : Nat) : Int) := by omega
   have hkT : k < T := by omega
   have HL1 := hid (HLS.out k)
   rw [HP1.out k (by omega)] at HL1
   have hown2 := HOW.out
   have HLK2 := hid (HLL.out k)
   have HLN := hid (HLL.out (k + 1))
   clear hz hlk hlv hown
   generalize k % 4 = x at *
   generalize ls P k = lk at *
   go_wp2_with (at_builtin; refine wpList_append_own _ rfl _ _ 22 rfl w.heap.size 3 i0 (.int .i64 0) 1 8 Tryz.underlying22 hi hz0 hz1 hz2 rfl (by decide) _ _ _ rfl (hown2.alloc _) ⟨wr.heap.size, 0, none⟩ 1 1 [.int .i64 0] rfl rfl ?c1 ?c2 ?c3 ?c4 ?c5 ?_)
   try (case c1 =>
    intro j u hj
    match j, hj with
    | 0, hj => simp at hj; subst hj; simp [Addr.add])
   try (case c2 => first | rfl | exact ⟨rfl, rfl⟩ | (intro u hu; simp at hu; subst hu; rfl))
   case c3 => have := HLK2.out; unfold maxLen; omega
   case c4 => have := HLK2.out; omega
   try (case c5 => have := HLK2.out; first | omega | (simp; omega))
   intro v' w3 hown4 hgrow _
   have hown3 := owns_succ hown4
   have HB3 : Hid (Below w.heap.size w w3) := (hbel.out.alloc hsz _).grown hgrow (by simp; omega) (fun k hk => (hown2.lt k hk).1)
   have HO3 : Hid (w3.ownsRow w.heap.size 3 1 v' (ls P (k + 1)).length ((ls P (k + 1)).map (Value.int .i64))) := by unfold Hid; rw [HL1.out]; exact hown3
   have HLV : Hid (lenV v' = k + 1) := by
    obtain ⟨a2, c2, e⟩ := owns_len HO3.out
    unfold Hid
    rw [e]; simp only [lenV]; exact HLN.out
   clear hown4 hown3 hgrow hown2 hbel HLK2
   go_wp2_with fail
   go_roundw
   case rel => exact ⟨k + 1, by omega, by omega, HO3, HB3, HLV.out⟩
   case measure => rw [HLV.out]; simp only [lenV]; omega
def soak (q : Nat) (s P : Nat -> Int) (t : Nat) (j : Nat) : Int := if j < 4 then (s j + P (4 * t + j)) % (q : Int) else s j
def hst (q n : Nat) (P : Nat -> Int) : Nat -> Nat -> Int
 | 0, _ => 0
 | t + 1, j => stir q n (soak q (hst q n P t) P t) 8 j
theorem hst_bounds (q n : Nat) (P : Nat -> Int) (t j : Nat) (h3 : 3 <= q) : 0 <= hst q n P t j /\ hst q n P t j < q := by
 cases t with
 | zero => exact ⟨Int.le_refl _, by show (0 : Int) < q; omega⟩
 | succ t => exact stir_bounds _ _ _ _ _ h3
theorem pdf_bounds (q : Nat) (f : Nat -> Int) (n j : Nat) (h3 : 3 <= q) : 0 <= pdf q f n j /\ pdf q f n j < q := by
 unfold pdf
 split
 ·exact emod_bounds _ q h3
 ·split <;> omega
theorem rhash_any (q n len cap : Nat) (a : Option Addr) (f : Nat -> Int) (w : World) (h5 : 5 <= q) (h4 : q <= 2147483647) (hpn : Spo.PowIs q n) (hlen : len <= 17592186044400) (hfit : FitsF len f) (hrow : RowF (· < w.heap.size) w a len f) :
  Calls Tryz.prog 92 #[.int .i64 q, .slice a len cap] w fun e w' => ∃ (g N : Nat) (F : Nat -> Value),
   e = .returned (.slice (some ⟨g, 0, none⟩) 4 N) /\ w.heap.size <= g /\ w'.rowIs g 3 N F /\ 8 <= N /\ (∀ j, j < 4 -> F j = .int .i64 (hst q n (pdf q f len) (len / 4 + 1) j)) /\ Below w.heap.size w w' := by
 have h3 : 3 <= q := by omega
 have hmx : Tryz.prog.follows .mixedOrders = true := by kernel_rfl
 have HPN := hid hpn
 have hmk := fun n h1 h2 w => run_make_row' (P := Tryz.prog) 22 3 (.int .i64 0) 8 Tryz.underlying22 Tryz.infoInt rfl .i64 .i64 n h1 h2 w
 have hmk2 : ∀ w : World, Sem.run Tryz.prog (Instr.makeSlice 22 (.int .i64 8) (.int .i64 8)) w = Result.ok (.slice (some ⟨w.heap.size, 0, none⟩) 8 8) (w.alloc (.cells (madeCells #[.int .i64 0] 8) 3)) := hmk 8 (by omega) (by omega)
 clear hmk
 have HPA : Hid (∀ W : World, Below w.heap.size w W -> Calls Tryz.prog 170 #[.int .i64 q, .slice a len cap] W fun e w' => ∃ v, e = .returned v /\ w'.ownsRow W.heap.size 3 1 v (ls (pdf q f len) (pln len)).length ((ls (pdf q f len) (pln len)).map (Value.int .i64)) /\ Below W.heap.size W w') :=
  fun W h => rpad_own q len cap a f W h3 h4 hlen hfit (fun j hj => by
   obtain ⟨bl, ol, e1, e2, e3⟩ := hrow j hj
   exact ⟨bl, ol, e1, by have := h.size; omega, (h.cell (p := ⟨bl, ol + j, none⟩) e2).trans e3⟩)
 have HPB : Hid (∀ j, 0 <= pdf q f len j /\ pdf q f len j < q) := fun j => pdf_bounds q f len j h3
 obtain ⟨P, hP⟩ := exE (pdf q f len)
 obtain ⟨B, hB⟩ := exE (len / 4 + 1)
 obtain ⟨T, hT⟩ := exE (pln len)
 have hTB : T = 4 * B := by rw [hT, hB]; rfl
 have hTl : T <= len + 4 := by rw [hT]; unfold pln; omega
 have hB1 : 1 <= B := by omega
 rw [<- hP, <- hT] at HPA
 rw [<- hP] at HPB
 rw [<- hP, <- hB]
 have HTB := hid hTB
 have hTp : 0 < T := by omega
 clear hfit hrow hpn hP hB hT hTB
 go_enter Tryz.func92, Tryz.ntmps92
 go_wp2_with fail
 have HM0 : Hid ((w.alloc (.cells (madeCells #[.int .i64 0] 8) 3)).rowIs w.heap.size 3 8 (fun _ => .int .i64 0)) := (World.rowIs_made _ _ _ _).congr (fun j _ => rfl)
 have HB0 : Hid (Below w.heap.size w (w.alloc (.cells (madeCells #[.int .i64 0] 8) 3))) := (Below.refl _ _).alloc (Nat.le_refl _) _
 have hs0 : w.heap.size < (w.alloc (.cells (madeCells #[.int .i64 0] 8) 3)).heap.size := by simp
 refine (HPA.out _ HB0.out).mono ?_
 generalize w.alloc (.cells (madeCells #[.int .i64 0] 8) 3) = W0 at *
 rintro e w1 ⟨v, rfl, hown, hb1⟩
 have hll := ls_len P T
 obtain ⟨gm, Nm, Fm, rfl, hgm, hrim, hNm, hFm⟩ := rowIs_of_owns hown (by rw [hll]; exact hTp)
 rw [hll] at hNm hFm ⊢
 have HMC : Hid (∀ j, j < T -> w1.cell? ⟨gm, j, none⟩ = some (.int .i64 (P j))) := fun j hj => by rw [<- ls_at P T j hj, <- hFm j hj]; exact hrim.cell (by omega)
 have hgml := hrim.lt
 have HRI1 : Hid (w1.rowIs w.heap.size 3 8 (fun _ => .int .i64 0)) := HM0.out.of_block (hb1.block _ hs0)
 have HB1 : Hid (Below w.heap.size w w1) := HB0.out.trans (hb1.mono HB0.out.size)
 have hg0 : w.heap.size ≠ gm := by omega
 have hgmw : w.heap.size <= gm := by omega
 clear hll hown hrim hFm hNm hb1 HPA HM0 HB0 hs0 hgm
 go_wp2_with fail
 go_loopw [5, 7] (fun sv iv wr => ∃ (t g N : Nat) (F : Nat -> Value), t <= B /\ iv = .int .i64 ((4 * t : Nat) : Int) /\ sv = .slice (some ⟨g, 0, none⟩) 8 N /\ w.heap.size <= g /\ g ≠ gm /\ gm < wr.heap.size /\ Hid (wr.rowIs g 3 N F) /\ 8 <= N /\ Hid (∀ j, j < 8 -> F j = .int .i64 (hst q n P t j)) /\ Hid (∀ j, j < T -> wr.cell? ⟨gm, j, none⟩ = some (.int .i64 (P j))) /\ Hid (Below w.heap.size w wr))
  (fun _ iv _ => T - (intOf iv).toNat)
 case atStart => exact ⟨0, w.heap.size, 8, fun _ => .int .i64 0, Nat.zero_le _, rfl, rfl, Nat.le_refl _, hg0, hgml, HRI1, Nat.le_refl _, fun j hj => rfl, HMC, HB1⟩
 case round =>
  obtain ⟨t, g, N, F, ht, rfl, rfl, hg, hgne, hgl, hri, hN, hF, hmc, hbel⟩ := hrel
  obtain ⟨wo, rfl⟩ := exE (wr)
  obtain ⟨t4, ht4⟩ := exE (4 * t)
  rw [<- ht4]
  have hTB' := HTB.out
  by_cases hlt : t < B
  ·have hlt2 : (t4 : Int) < (T : Int) := by omega
   have h43 : t4 + 3 < T := by omega
   have HT4 := hid ht4
   have HHB : Hid (∀ j, 0 <= hst q n P t j /\ hst q n P t j < q) := fun j => hst_bounds q n P t j h3
   have HHS : Hid (∀ j, hst q n P (t + 1) j = stir q n (soak q (hst q n P t) P t) 8 j) := fun _ => rfl
   obtain ⟨S, hS⟩ := exE (hst q n P t)
   rw [<- hS] at HHB HHS hF
   have HSK : Hid (∀ j, soak q S P t j = if j < 4 then (S j + P (t4 + j)) % (q : Int) else S j) := fun j => by unfold soak; rw [HT4.out]
   obtain ⟨K, hK⟩ := exE (soak q S P t)
   rw [<- hK] at HHS HSK
   clear hS hK ht4 hTB'
   go_wp2_with fail
   go_loopw [8] (fun kv wr => ∃ (k : Nat) (F' : Nat -> Value), k <= 4 /\ kv = .int .i64 k /\ Hid (wr.rowIs g 3 N F') /\ Hid (∀ j, j < k -> F' j = .int .i64 (K j)) /\ Hid (∀ j, k <= j -> j < 8 -> F' j = .int .i64 (S j)) /\ Hid (∀ j, j < T -> wr.cell? ⟨gm, j, none⟩ = some (.int .i64 (P j))) /\ Hid (Below w.heap.size w wr) /\ gm < wr.heap.size)
    (fun kv _ => 4 - (intOf kv).toNat)
   case atStart => exact ⟨0, F, Nat.zero_le _, rfl, hri, fun j hj => by omega, fun j _ hj => hF.out j hj, hmc, hbel, hgl⟩
   case round =>
    obtain ⟨k, F', hk, rfl, hri', hlo, hhi, hmc', hbel', hgl'⟩ := hrel
    by_cases hkl : k < 4
    ·have hkl2 : (k : Int) < 4 := by omega
     have hok := hri'.out.cell (i := k) (by omega)
     rw [hhi.out k (Nat.le_refl _) (by omega)] at hok
     have hos := hri'.out.frozen k
     have hmk' := hmc'.out (t4 + k) (by omega)
     obtain ⟨s1, s2⟩ := HHB.out k
     obtain ⟨p1, p2⟩ := HPB.out (t4 + k)
     have HKK := hid (HSK.out k)
     rw [if_pos hkl] at HKK
     obtain ⟨u, hu⟩ := exE (t4 + k)
     rw [<- hu] at hmk' HKK p1 p2
     have eu : (t4 : Int) + (k : Int) = (u : Int) := by omega
     have huT : (u : Int) < (T : Int) := by omega
     obtain ⟨z1, z2⟩ := emod_bounds (S k + P u) q h3
     have HRI2 : Hid ((wr.setCell ⟨g, k, none⟩ (.int .i64 (K k))).rowIs g 3 N (fun j => if j = k then .int .i64 (K k) else F' j)) := hri'.out.set k _
     have HLO : Hid (∀ j, j < k + 1 -> (fun j => if j = k then Value.int .i64 (K k) else F' j) j = .int .i64 (K j)) := fun j hj => by
      show (if j = k then _ else _) = _
      by_cases e : j = k
      ·rw [if_pos e, e]
      ·rw [if_neg e]; exact hlo.out j (by omega)
     have HHI : Hid (∀ j, k + 1 <= j -> j < 8 -> (fun j => if j = k then Value.int .i64 (K k) else F' j) j = .int .i64 (S j)) := fun j g1 g2 => by
      show (if j = k then _ else _) = _
      rw [if_neg (by omega)]; exact hhi.out j (by omega) g2
     have HMC2 : Hid (∀ j, j < T -> (wr.setCell ⟨g, k, none⟩ (.int .i64 (K k))).cell? ⟨gm, j, none⟩ = some (.int .i64 (P j))) := fun j hj => by
      rw [World.cell?_setCell_other _ _ _ _ (by intro e; injection e with e1 _ _; exact hgne e1)]; exact hmc'.out j hj
     have HBN := hid (hbel'.out.setCell (p := ⟨g, k, none⟩) hg (.int .i64 (K k)))
     have hgl2 : gm < (wr.setCell ⟨g, k, none⟩ (.int .i64 (K k))).heap.size := by simp [World.setCell]; exact hgl'
     rw [HKK.out] at HRI2 HLO HHI HMC2 HBN hgl2
     clear hri' hlo hhi hmc' hu HKK
     obtain ⟨z, hz⟩ := exE ((S k + P u) % (q : Int))
     rw [<- hz] at HRI2 HLO HHI HMC2 HBN hgl2 z1 z2
     have ez : (S k + P u) % (q : Int) = z := hz.symm
     clear hz
     generalize S k = x at *
     generalize P u = y at *
     go_wp2_with fail
     have wr1 : IntKind.i64.wrap (u : Int) = (u : Int) := Go.IntWalk.i64_in _ (by omega)
     have wr2 : IntKind.i64.wrap (x + y) = x + y := Go.IntWalk.i64_in _ (by omega)
     have wr3 : IntKind.i64.wrap ((x + y).tmod (q : Int)) = z := by rw [Int.tmod_eq_emod_of_nonneg (by omega), ez]; exact Go.IntWalk.i64_in _ (by omega)
     have hqz : ((q : Int) == 0) = false := by rw [beq_eq_false_iff_ne]; omega
     have hk8 : (k : Int) < 8 := by omega
     have hq1 : ¬ ((q : Int) = 0) := by omega
     have hq2 : ¬ q = 0 := by omega
     go_still_tail 15, hmx
     go_wp2_with fail
     go_roundw
     case rel => exact ⟨k + 1, _, by omega, by go_num, HRI2, HLO, HHI, HMC2, HBN.out.drew, hgl2⟩
     case measure => simp [intOf]; omega
    ·have hkl2 : ¬ (k : Int) < 4 := by omega
     obtain rfl : k = 4 := by omega
     obtain ⟨w5, rfl⟩ := exE (wr)
     have HKV : Hid (∀ j, j < 8 -> F' j = .int .i64 (K j)) := fun j hj => by
      by_cases e : j < 4
      ·exact hlo.out j e
      ·rw [hhi.out j (by omega) hj, HSK.out j, if_neg e]
     have HKB : Hid (∀ j, 0 <= K j /\ K j < q) := fun j => by
      rw [HSK.out j]
      split
      ·exact emod_bounds _ q h3
      ·exact HHB.out j
     have HPM := hid (rperm_any q n N (some ⟨g, 0, none⟩) K w5 h5 h4 HPN.out (fun j hj => by have := HKB.out j; omega) (fun j hj => ⟨g, 0, rfl, hri'.out.lt, by rw [Nat.zero_add, hri'.out.cell (show j < N by omega), HKV.out j hj]⟩))
     have HMC5 := hid hmc'.out
     clear hri' hlo hhi hmc' hri hF hmc hbel hgl
     go_wp2_with fail
     refine HPM.out.mono ?_
     rintro e w6 ⟨g6, N6, F6, rfl, hg6, hri6, hN6, hF6, hb6⟩
     have HRI6 := hid hri6
     have HF6 : Hid (∀ j, j < 8 -> F6 j = .int .i64 (hst q n P (t + 1) j)) := fun j hj => by rw [HHS.out]; exact hF6 j hj
     have HB6 : Hid (Below w.heap.size w w6) := hbel'.out.trans (hb6.mono hbel'.out.size)
     have HMC6 : Hid (∀ j, j < T -> w6.cell? ⟨gm, j, none⟩ = some (.int .i64 (P j))) := fun j hj => (hb6.cell (p := ⟨gm, j, none⟩) hgl').trans (HMC5.out j hj)
     have hg6' : w.heap.size <= g6 := by have := hbel'.out.size; omega
     have hne6 : g6 ≠ gm := by omega
     have hgl6 : gm < w6.heap.size := by have := hb6.size; omega
     have e4 : (t4 : Int) + 4 = ((4 * (t + 1) : Nat) : Int) := by have := HT4.out; omega
     clear hri6 hF6 hb6 HPM
     go_wp2_with fail
     go_roundw
     case rel => exact ⟨t + 1, g6, N6, F6, by omega, by go_num, rfl, hg6', hne6, hgl6, HRI6, hN6, HF6, HMC6, HB6⟩
     case measure => simp [intOf]; omega
  ·have hlt2 : ¬ (t4 : Int) < (T : Int) := by omega
   obtain rfl : t = B := by omega
   have HE : Hid (w.heap.size <= g /\ wo.rowIs g 3 N F /\ 8 <= N /\ (∀ j, j < 4 -> F j = .int .i64 (hst q n P t j)) /\ Below w.heap.size w wo) := ⟨hg, hri.out, hN, fun j hj => hF.out j (by omega), hbel.out⟩
   have hN4 : (4 : Int) <= (N : Int) := by omega
   clear hTB' ht4
   go_wp2_with fail
   go_ret
   first
    | exact ⟨g, N, F, rfl, HE.out⟩
    | exact ⟨g, N, rfl, HE.out.1, F, HE.out.2⟩
def samb (q : Nat) (xs ys : List Int) : Bool := decide (xs.map (· % (q : Int)) = ys.map (· % (q : Int)))
theorem samb_true {q : Nat} {xs ys : List Int} (hl : xs.length = ys.length) (h : ∀ j, j < xs.length -> zat xs j % (q : Int) = zat ys j % (q : Int)) : samb q xs ys = true := by
 unfold samb
 rw [decide_eq_true_eq]
 refine List.ext_getElem (by simpa using hl) (fun j h1 h2 => ?_)
 rw [List.length_map] at h1 h2
 have := h j h1
 simpa [zat, h1, h2] using this
theorem bezout : ∀ (b a : Nat), ∃ x y : Int, (a : Int) * x + (b : Int) * y = (Nat.gcd a b : Nat) := by
 intro b
 induction b using Nat.strongRecOn with
 | _ b ih =>
  intro a
  by_cases h : b = 0
  ·subst h; exact ⟨1, 0, by simp⟩
  ·obtain ⟨x, y, hxy⟩ := ih (a % b) (Nat.mod_lt _ (by omega)) b
   refine ⟨y, x - (a / b : Nat) * y, ?_⟩
   have h1 : Nat.gcd b (a % b) = Nat.gcd a b := by rw [Nat.gcd_comm b (a % b), <- Nat.gcd_rec, Nat.gcd_comm]
   rw [<- h1, <- hxy]
   have h2 : (a : Int) = (b : Int) * ((a / b : Nat) : Int) + ((a % b : Nat) : Int) := by
    have := Nat.div_add_mod a b
    exact_mod_cast this.symm
   generalize ((a / b : Nat) : Int) = d at *
   generalize ((a % b : Nat) : Int) = m at *
   rw [h2]
   grind
theorem inv_some {n m : Nat} (hm : 2 <= m) (h : Nat.gcd n m = 1) : ∃ d : Nat, n * d % m = 1 := by
 obtain ⟨x, y, hxy⟩ := bezout m n
 rw [h] at hxy
 have h0 : 0 <= x % (m : Int) := Int.emod_nonneg _ (by omega)
 refine ⟨(x % (m : Int)).toNat, ?_⟩
 have h1 : ((n * (x % (m : Int)).toNat % m : Nat) : Int) = 1 := by
  push_cast
  rw [Int.toNat_of_nonneg h0, Int.mul_emod, Int.emod_emod_of_dvd _ (Int.dvd_refl _), <- Int.mul_emod]
  have e : (n : Int) * x = 1 + (m : Int) * (-y) := by rw [Int.mul_neg]; push_cast at hxy; omega
  rw [e, Int.add_mul_emod_self_left]
  exact Int.emod_eq_of_lt (by omega) (by omega)
 exact_mod_cast h1
theorem mx_congr {q : Nat} {f g : Nat -> Int} (hq : 0 < q) (h : ∀ j, j < 8 -> f j % (q : Int) = g j % (q : Int)) (i : Nat) : mx q f i = mx q g i := by
 unfold mx mxs
 rw [Pol.emod_eq_iff hq]
 refine Dom.sm_congr (fun j hj => ?_)
 rw [show f j * (invn q ((i + j + 8 : Nat) : Int) : Int) % (q : Int) = g j * (invn q ((i + j + 8 : Nat) : Int) : Int) % (q : Int) from by rw [Int.mul_emod, h j hj, <- Int.mul_emod], Int.sub_self]
 exact Int.dvd_zero _
theorem stir_congr {q n : Nat} {f g : Nat -> Int} (hq : 0 < q) (h : ∀ j, j < 8 -> f j % (q : Int) = g j % (q : Int)) : ∀ k j, j < 8 -> stir q n f k j = stir q n g k j
 | 0, j, hj => h j hj
 | k + 1, j, _ => mx_congr hq (fun i hi => by rw [stir_congr hq h k i hi]) j
theorem owns_one (w : World) (x : Int) : (w.alloc (.cells #[.int .i64 x] 3)).ownsRow w.heap.size 3 1 (.slice (some ⟨w.heap.size, 0, none⟩) 1 1) [x].length ([x].map (Value.int .i64)) :=
 ⟨by simp, .inr ⟨w.heap.size, 1, #[.int .i64 x], rfl, Nat.le_refl _, heap_alloc_new w _, Nat.le_refl _, by unfold maxLen; omega, rfl, by simp⟩⟩
theorem wpList_appendL {ops : Array Oper} {rest : List Oper} {o : Oper} {act : Act} {Q : Exit -> Act -> World -> Prop} (W : World) (base n0 : Nat) (hgd : o.guard = none) (s x : Operand)
  (ho : o.op = .call { callee := .builtin .append, args := #[s, x], argTypes := #[22, 22] }) (v : Value) (hs : act.eval s = v) (zs ys : List Int)
  (hown : W.ownsRow base 3 1 v zs.length (zs.map (Value.int .i64))) (av : Option Addr) (cap : Nat) (hx : act.eval x = .slice av ys.length cap) (hlen : zs.length + ys.length <= 17592186044416) (hbase : base <= W.heap.size) (hl : Lst n0 W av cap ys)
  (h : ∀ v' w2, w2.ownsRow base 3 1 v' (zs ++ ys).length ((zs ++ ys).map (Value.int .i64)) -> Below base W w2 -> wpList Tryz.prog ops Q rest (act.put o.dst v') w2) :
  wpList Tryz.prog ops Q (o :: rest) act W := by
 obtain ⟨i0, hi, hz0, hz1, hz2⟩ := info_parts Tryz.infoInt
 cases av with
 | none =>
  have hc := hl.nil rfl
  have hr := hl.room
  obtain rfl : cap = 0 := hc
  obtain rfl : ys = [] := List.length_eq_zero_iff.1 (by omega)
  refine wpList_append_own_none hgd s x 22 ho base 3 i0 1 Tryz.underlying22 hi _ _ _ hs hown hx ?_
  exact h v W (by rw [List.append_nil]; exact hown) (Below.refl _ _)
 | some ad =>
  refine wpList_append_own _ hgd s x 22 ho base 3 i0 (.int .i64 0) 1 8 Tryz.underlying22 hi hz0 hz1 hz2 rfl (by decide) _ _ _ hs hown ad ys.length cap (ys.map (Value.int .i64)) hx (by simp) ?_ ?_ (by unfold maxLen; omega) (by omega) hbase ?_
  ·intro j u hu
   have hj : j < ys.length := by
    rcases Nat.lt_or_ge j ys.length with g | g
    ·exact g
    ·simp [g] at hu
   obtain ⟨b, off, h1, h2, h5⟩ := hl.row j hj
   cases h1
   have hadd : (⟨b, off, none⟩ : Addr).add j = ⟨b, off + j, none⟩ := by unfold Addr.add; split <;> simp_all
   rw [hadd]
   refine h5.trans ?_
   simp [zat, hj] at hu ⊢
   exact hu
  ·intro u hu; obtain ⟨y, _, rfl⟩ := List.mem_map.1 hu; rfl
  ·intro v' w2 hown2 hgrow _
   refine h v' w2 ?_ ((Below.refl base W).grown hgrow hbase (fun k hk => (hown.lt k hk).1))
   rw [List.length_append, List.map_append]
   exact hown2
def digl (q n : Nat) (l : List Int) : List Int := ls (hst q n (pdf q (zat l) l.length) (l.length / 4 + 1)) 4
theorem digl_len (q n : Nat) (l : List Int) : (digl q n l).length = 4 := ls_len _ _
theorem digl_fits {q : Nat} (h3 : 3 <= q) (h4 : q <= 2147483647) (n : Nat) (l : List Int) : Fits (digl q n l) := fun j hj => by
 rw [digl_len] at hj
 unfold digl
 rw [ls_at _ _ _ hj]
 have := hst_bounds q n (pdf q (zat l) l.length) (l.length / 4 + 1) j h3
 omega
def LstD (w : World) (g N : Nat) (l : List Int) : Prop := Lst w.heap.size w (some ⟨g, 0, none⟩) N l /\ ∃ c f, w.heap[g]? = some (.cells c 3 f)
def Dg (w : World) (l : List Int) (e : Ending) (w' : World) : Prop := ∃ (g N : Nat), e = .returned (.slice (some ⟨g, 0, none⟩) 4 N) /\ w.heap.size <= g /\ LstD w' g N l /\ Below w.heap.size w w'
theorem rhash_dg (q n cap : Nat) (a : Option Addr) (l : List Int) (w : World) (h5 : 5 <= q) (h4 : q <= 2147483647) (hpn : Spo.PowIs q n) (hlen : l.length <= 17592186044400) (hfit : Fits l) (hrow : RowB w.heap.size w a l) :
  Calls Tryz.prog 92 #[.int .i64 q, .slice a l.length cap] w (Dg w (digl q n l)) :=
 (rhash_any q n l.length cap a (zat l) w h5 h4 hpn hlen hfit hrow.f).mono fun _ _ ⟨g, N, _, h1, h2, h3, h6, h7, h8⟩ =>
  ⟨g, N, h1, h2, ⟨⟨fun j hj => by
   rw [digl_len] at hj
   exact ⟨g, 0, rfl, h3.lt, by rw [Nat.zero_add, h3.cell (show j < N by omega), h7 j hj]; unfold digl; rw [ls_at _ _ _ hj]⟩, by rw [digl_len]; omega, fun e => by cases e⟩, by obtain ⟨c, e, _⟩ := h3; exact ⟨c, _, e⟩⟩, h8⟩
theorem fits_cons {x : Int} {zs : List Int} (hx : -9223372036854775808 <= x /\ x <= 9223372036854775807) (h : Fits zs) : Fits (x :: zs) := fun j hj => by
 cases j with
 | zero => simpa [zat] using hx
 | succ j => simpa [zat] using h j (by simpa using hj)
theorem fits_append {xs ys : List Int} (h1 : Fits xs) (h2 : Fits ys) : Fits (xs ++ ys) := fun j hj => by
 by_cases g : j < xs.length
 ·have := h1 j g; simpa [zat, List.getElem?_append, g] using this
 ·have := h2 (j - xs.length) (by rw [List.length_append] at hj; omega); simpa [zat, List.getElem?_append, g] using this
theorem rleaf_any (q n cap : Nat) (a : Option Addr) (row : List Int) (w : World) (h5 : 5 <= q) (h4 : q <= 2147483647) (hpn : Spo.PowIs q n) (hlen : row.length <= 17592186044000) (hfit : Fits row) (hl : Lst w.heap.size w a cap row) :
  Calls Tryz.prog 94 #[.int .i64 q, .slice a row.length cap] w (Dg w (digl q n (0 :: row))) := by
 have HPN := hid hpn
 have HF : Hid (Fits (0 :: row)) := fits_cons (by omega) hfit
 have HL := hid hl
 clear hpn hfit hl
 have HO := hid (owns_one w 0)
 have HBA : Hid (Below w.heap.size w (w.alloc (.cells #[.int .i64 0] 3))) := (Below.refl _ _).alloc (Nat.le_refl _) _
 have HLA : Hid (Lst w.heap.size (w.alloc (.cells #[.int .i64 0] 3)) a cap row) := HL.out.below HBA.out
 go_enter Tryz.func94, Tryz.ntmps94
 go_wp2_with (at_builtin; refine wpList_appendL (w.alloc (.cells #[.int .i64 0] 3)) w.heap.size w.heap.size rfl _ _ rfl _ rfl [0] row HO.out a cap rfl (by simp; omega) HBA.out.size HLA.out ?_)
 intro v' w2 hown0 hb2
 have hown : w2.ownsRow w.heap.size 3 1 v' (0 :: row).length ((0 :: row).map (Value.int .i64)) := hown0
 clear hown0
 have HB2 : Hid (Below w.heap.size w w2) := HBA.out.trans hb2
 obtain ⟨a2, c2, rfl, hl2⟩ := lst_of_owns hown
 have HH := hid (rhash_dg q n c2 a2 (0 :: row) w2 h5 h4 HPN.out (by simp; omega) HF.out hl2.row)
 clear hown hb2 hl2
 generalize (0 :: row) = lr at *
 go_wp2_with fail
 refine HH.out.mono ?_
 rintro e w3 ⟨g, N, rfl, h6, h7, h8⟩
 have HE : Hid (w.heap.size <= g /\ LstD w3 g N (digl q n lr) /\ Below w.heap.size w w3) := ⟨by have := HB2.out.size; omega, h7, HB2.out.trans (h8.mono HB2.out.size)⟩
 clear h6 h7 h8
 go_wp2_with fail
 go_ret
 exact ⟨g, N, rfl, HE.out⟩
theorem rnode_any (q n ca cb : Nat) (aa ab : Option Addr) (A B : List Int) (w : World) (h5 : 5 <= q) (h4 : q <= 2147483647) (hpn : Spo.PowIs q n) (hlen : A.length + B.length <= 17592186044000) (hfa : Fits A) (hfb : Fits B) (hla : Lst w.heap.size w aa ca A) (hlb : Lst w.heap.size w ab cb B) :
  Calls Tryz.prog 96 #[.int .i64 q, .slice aa A.length ca, .slice ab B.length cb] w (Dg w (digl q n (1 :: (A ++ B)))) := by
 have HPN := hid hpn
 have HF : Hid (Fits (1 :: (A ++ B))) := fits_cons (by omega) (fits_append hfa hfb)
 have HLA := hid hla
 have HLB := hid hlb
 clear hpn hfa hfb hla hlb
 have HO := hid (owns_one w 1)
 have HBA : Hid (Below w.heap.size w (w.alloc (.cells #[.int .i64 1] 3))) := (Below.refl _ _).alloc (Nat.le_refl _) _
 go_enter Tryz.func96, Tryz.ntmps96
 go_wp2_with (at_builtin; refine wpList_appendL (w.alloc (.cells #[.int .i64 1] 3)) w.heap.size w.heap.size rfl _ _ rfl _ rfl [1] A HO.out aa ca rfl (by simp; omega) HBA.out.size (HLA.out.below HBA.out) ?_)
 intro v2 w2 hown2 hb2
 have HB2 : Hid (Below w.heap.size w w2) := HBA.out.trans hb2
 have HO2 : Hid (w2.ownsRow w.heap.size 3 1 v2 (1 :: A).length ((1 :: A).map (Value.int .i64))) := hown2
 have hsz2 := HB2.out.size
 clear hown2 hb2
 obtain ⟨L2, hL2⟩ := exE (1 :: A)
 have HL2 := hid hL2
 have hl2 : L2.length = A.length + 1 := by rw [hL2]; rfl
 have HL2L := hid hl2
 rw [<- hL2] at HO2
 clear hL2 hl2
 go_wp2_with (at_builtin; refine wpList_appendL w2 w.heap.size w.heap.size rfl _ _ rfl _ rfl L2 B HO2.out ab cb rfl (by rw [HL2L.out]; omega) hsz2 (HLB.out.below HB2.out) ?_)
 intro v3 w3 hown3 hb3
 have HB3 : Hid (Below w.heap.size w w3) := HB2.out.trans hb3
 have HL3 : Hid (L2 ++ B = 1 :: (A ++ B)) := by unfold Hid; rw [HL2.out]; rfl
 rw [<- List.length_append, <- List.map_append, HL3.out] at hown3
 obtain ⟨a3, c3, rfl, hl3⟩ := lst_of_owns hown3
 have HH := hid (rhash_dg q n c3 a3 (1 :: (A ++ B)) w3 h5 h4 HPN.out (by simp; omega) HF.out hl3.row)
 clear hown3 hb3 hl3 HL3
 obtain ⟨lr, hlr⟩ := exE (1 :: (A ++ B))
 rw [<- hlr] at HH ⊢
 have HLR := hid hlr
 clear hlr
 go_wp2_with fail
 refine HH.out.mono ?_
 rintro e w4 ⟨g, N, rfl, h6, h7, h8⟩
 have HE : Hid (w.heap.size <= g /\ LstD w4 g N (digl q n (1 :: (A ++ B))) /\ Below w.heap.size w w4) := ⟨by have := HB3.out.size; omega, by rw [<- HLR.out]; exact h7, HB3.out.trans (h8.mono HB3.out.size)⟩
 clear h6 h7 h8
 go_wp2_with fail
 go_ret
 exact ⟨g, N, rfl, HE.out⟩
def lftA : Nat -> Nat -> Nat -> Nat
 | 0, m, _ => m
 | k + 1, m, n => if m * 2 < n then lftA k (m * 2) n else m
def lft (n : Nat) : Nat := lftA n 1 n
theorem lftA_spec : ∀ (k m n : Nat), 1 <= m -> n <= m + k -> n <= 2 * lftA k m n /\ m <= lftA k m n /\ (lftA k m n = m ∨ lftA k m n < n)
 | 0, m, n, h1, h2 => ⟨by simp only [lftA]; omega, Nat.le_refl _, Or.inl rfl⟩
 | k + 1, m, n, h1, h2 => by
  simp only [lftA]
  by_cases h : m * 2 < n
  ·rw [if_pos h]
   obtain ⟨a, b, c⟩ := lftA_spec k (m * 2) n (by omega) (by omega)
   exact ⟨a, by omega, Or.inr (by omega)⟩
  ·rw [if_neg h]
   exact ⟨by omega, Nat.le_refl _, Or.inl rfl⟩
theorem lft_spec (n : Nat) : n <= 2 * lft n /\ 1 <= lft n /\ (2 <= n -> lft n < n) := by
 obtain ⟨a, b, c⟩ := lftA_spec n 1 n (Nat.le_refl _) (by omega)
 exact ⟨a, b, fun h => by unfold lft; omega⟩
theorem rleft_any (n : Nat) (w : World) (hn : n <= 2305843009213693951) :
  Calls Tryz.prog 95 #[.int .i64 n] w fun e w' => e = .returned (.int .i64 (lft n : Nat)) /\ w' = w := by
 go_enter Tryz.func95, Tryz.ntmps95
 go_wp2_with fail
 go_loop [3] (fun mv => ∃ (k m : Nat), mv = .int .i64 m /\ 1 <= m /\ m <= n + 1 /\ n <= m + k /\ Hid (lftA k m n = lft n)) (fun mv => n + 1 - (intOf mv).toNat)
 case atStart => exact ⟨n, 1, rfl, Nat.le_refl _, by omega, by omega, rfl⟩
 case round =>
  obtain ⟨k, m, rfl, h1, h2, h6, HI⟩ := hrel
  by_cases h : m * 2 < n
  ·have e1 : (m : Int) * 2 < (n : Int) := by omega
   have hk : 0 < k := by omega
   obtain ⟨k', rfl⟩ : ∃ k', k = k' + 1 := ⟨k - 1, by omega⟩
   have HI2 : Hid (lftA k' (m * 2) n = lft n) := by
    have := HI.out
    rw [lftA, if_pos h] at this
    exact this
   go_wp2_with fail
   go_round
   case rel => exact ⟨k', m * 2, by go_num, by omega, by omega, by omega, HI2⟩
   case measure => simp [intOf]; omega
  ·have e1 : ¬ (m : Int) * 2 < (n : Int) := by omega
   have HE : Hid (lft n = m) := by
    unfold Hid
    rw [<- HI.out]
    cases k with
    | zero => rfl
    | succ k => rw [lftA, if_neg h]
   go_wp2_with fail
   go_ret
   exact ⟨by rw [HE.out]; rfl, rfl⟩
def rat (rows : List (List Int)) (k : Nat) : List Int := rows.getD k []
structure LstR (n0 : Nat) (w : World) (a : Option Addr) (cap : Nat) (rows : List (List Int)) : Prop where
 row : ∀ k, k < rows.length -> ∃ b o ak ck, a = some ⟨b, o, none⟩ /\ b < n0 /\ w.cell? ⟨b, o + k, none⟩ = some (.slice ak (rat rows k).length ck) /\ Lst n0 w ak ck (rat rows k)
 room : rows.length <= cap
 nil : a = none -> cap = 0
theorem LstR.below {n0 : Nat} {A B : World} {a : Option Addr} {cap : Nat} {rows : List (List Int)} (h : Below n0 A B) (r : LstR n0 A a cap rows) : LstR n0 B a cap rows :=
 ⟨fun k hk => by
  obtain ⟨b, o, ak, ck, h1, h2, h3, h4⟩ := r.row k hk
  exact ⟨b, o, ak, ck, h1, h2, (h.cell (p := ⟨b, o + k, none⟩) h2).trans h3, h4.below h⟩, r.room, r.nil⟩
theorem LstR.mono {n0 n1 : Nat} {A : World} {a : Option Addr} {cap : Nat} {rows : List (List Int)} (h : n0 <= n1) (r : LstR n0 A a cap rows) : LstR n1 A a cap rows :=
 ⟨fun k hk => by
  obtain ⟨b, o, ak, ck, h1, h2, h3, h4⟩ := r.row k hk
  exact ⟨b, o, ak, ck, h1, by omega, h3, h4.mono h⟩, r.room, r.nil⟩
theorem rat_take {rows : List (List Int)} {m k : Nat} (h : k < m) : rat (rows.take m) k = rat rows k := by
 unfold rat
 simp [h]
theorem rat_drop (rows : List (List Int)) (m k : Nat) : rat (rows.drop m) k = rat rows (m + k) := by
 unfold rat
 simp [List.getElem?_drop]
theorem LstR.take {n0 : Nat} {w : World} {a : Option Addr} {cap : Nat} {rows : List (List Int)} (r : LstR n0 w a cap rows) (m : Nat) : LstR n0 w a cap (rows.take m) :=
 ⟨fun k hk => by
  rw [List.length_take] at hk
  rw [rat_take (by omega)]
  exact r.row k (by omega), by have := r.room; rw [List.length_take]; omega, r.nil⟩
theorem LstR.drop {n0 : Nat} {w : World} {b o cap : Nat} {rows : List (List Int)} (r : LstR n0 w (some ⟨b, o, none⟩) cap rows) (m : Nat) : LstR n0 w (some ⟨b, o + m, none⟩) (cap - m) (rows.drop m) :=
 ⟨fun k hk => by
  rw [List.length_drop] at hk
  obtain ⟨b', o', ak, ck, h1, h2, h3, h4⟩ := r.row (m + k) (by omega)
  injection h1 with h1
  injection h1 with e1 e2 _
  subst e1; subst e2
  rw [rat_drop]
  exact ⟨b, o + m, ak, ck, rfl, h2, by rw [Nat.add_assoc]; exact h3, h4⟩, by have := r.room; rw [List.length_drop]; omega, fun e => by cases e⟩
def FitsR (rows : List (List Int)) : Prop := ∀ k, k < rows.length -> Fits (rat rows k) /\ (rat rows k).length <= 17592186044000
theorem FitsR.take {rows : List (List Int)} (h : FitsR rows) (m : Nat) : FitsR (rows.take m) := fun k hk => by
 rw [List.length_take] at hk
 rw [rat_take (by omega)]
 exact h k (by omega)
theorem FitsR.drop {rows : List (List Int)} (h : FitsR rows) (m : Nat) : FitsR (rows.drop m) := fun k hk => by
 rw [List.length_drop] at hk
 rw [rat_drop]
 exact h (m + k) (by omega)
def rtf (q n : Nat) : Nat -> List (List Int) -> List Int
 | 0, _ => []
 | k + 1, rows => if rows.length = 1 then digl q n (0 :: rat rows 0) else digl q n (1 :: (rtf q n k (rows.take (lft rows.length)) ++ rtf q n k (rows.drop (lft rows.length))))
theorem rtf_len (q n k : Nat) (rows : List (List Int)) (h : 1 <= k) : (rtf q n k rows).length = 4 := by
 cases k with
 | zero => omega
 | succ k => simp only [rtf]; split <;> exact digl_len _ _ _
theorem rtf_fits {q : Nat} (h3 : 3 <= q) (h4 : q <= 2147483647) (n k : Nat) (rows : List (List Int)) : Fits (rtf q n k rows) := by
 cases k with
 | zero => intro j hj; simp [rtf] at hj
 | succ k => simp only [rtf]; split <;> exact digl_fits h3 h4 _ _
theorem rtf_more (q n : Nat) : ∀ (k j : Nat) (rows : List (List Int)), 1 <= rows.length -> rows.length <= k -> k <= j -> rtf q n j rows = rtf q n k rows
 | 0, _, rows, h1, h2, _ => by omega
 | k + 1, j, rows, h1, h2, h3 => by
  obtain ⟨j', rfl⟩ : ∃ j', j = j' + 1 := ⟨j - 1, by omega⟩
  simp only [rtf]
  by_cases h : rows.length = 1
  ·rw [if_pos h, if_pos h]
  ·rw [if_neg h, if_neg h]
   obtain ⟨_, l2, l3⟩ := lft_spec rows.length
   have := l3 (by omega)
   rw [rtf_more q n k j' _ (by rw [List.length_take]; omega) (by rw [List.length_take]; omega) (by omega), rtf_more q n k j' _ (by rw [List.length_drop]; omega) (by rw [List.length_drop]; omega) (by omega)]
theorem rroot_any2 (q n : Nat) (h5 : 5 <= q) (h4 : q <= 2147483647) (hpn : Spo.PowIs q n) : ∀ (k cap : Nat) (a : Option Addr) (rows : List (List Int)) (w : World), 1 <= rows.length -> rows.length <= k -> rows.length <= 2305843009213693951 -> FitsR rows -> LstR w.heap.size w a cap rows ->
  Calls Tryz.prog 43 #[.int .i64 q, .slice a rows.length cap] w (Dg w (rtf q n k rows))
 | 0, _, _, rows, _, h1, h2, _, _, _ => by omega
 | k + 1, cap, a, rows, w, h1, h2, hmx, hfit, hl => by
  have HPN := hid hpn
  have h3 : 3 <= q := by omega
  have HFR := hid hfit
  have HL := hid hl
  by_cases hone : rows.length = 1
  ·obtain ⟨b, o, ak, ck, rfl, hb, hc, hlk⟩ := hl.row 0 (by omega)
   rw [Nat.add_zero] at hc
   have HF0 := HFR.out 0 (by omega)
   have HLE := hid (rleaf_any q n ck ak (rat rows 0) w h5 h4 hpn HF0.2 HF0.1 hlk)
   have HRT : Hid (rtf q n (k + 1) rows = digl q n (0 :: rat rows 0)) := by unfold Hid; simp only [rtf]; rw [if_pos hone]
   rw [HRT.out, hone]
   clear hl hfit hone HRT hlk h1 h2 hmx HF0
   generalize rat rows 0 = row at *
   go_enter Tryz.func43, Tryz.ntmps43
   go_wp2_with fail
   refine HLE.out.mono ?_
   rintro e w3 ⟨g, N, rfl, h6, h7, h8⟩
   have HE : Hid (w.heap.size <= g /\ LstD w3 g N (digl q n (0 :: row)) /\ Below w.heap.size w w3) := ⟨h6, h7, h8⟩
   clear h6 h7 h8
   go_wp2_with fail
   go_ret
   exact ⟨g, N, rfl, HE.out⟩
  ·obtain ⟨_, l2, l3⟩ := lft_spec rows.length
   have l3' := l3 (by omega)
   have HRT : Hid (rtf q n (k + 1) rows = digl q n (1 :: (rtf q n k (rows.take (lft rows.length)) ++ rtf q n k (rows.drop (lft rows.length))))) := by unfold Hid; simp only [rtf]; rw [if_neg hone]
   have HLF := hid (fun W : World => rleft_any rows.length W hmx)
   obtain ⟨b, o, _, _, rfl, _, _, _⟩ := hl.row 0 (by omega)
   obtain ⟨m, hm⟩ := exE (lft rows.length)
   rw [<- hm] at HRT HLF l2 l3'
   have hroom := hl.room
   have HTK : Hid ((rows.take m).length = m) := by unfold Hid; rw [List.length_take]; omega
   have HDK : Hid ((rows.drop m).length = rows.length - m) := List.length_drop
   have HIA : Hid (∀ W : World, Below w.heap.size w W -> Calls Tryz.prog 43 #[.int .i64 q, .slice (some ⟨b, o, none⟩) m cap] W (Dg W (rtf q n k (rows.take m)))) := fun W h => by
    have := rroot_any2 q n h5 h4 hpn k cap (some ⟨b, o, none⟩) (rows.take m) W (by rw [HTK.out]; omega) (by rw [HTK.out]; omega) (by rw [HTK.out]; omega) (hfit.take m) (((hl.take m).below h).mono h.size)
    rwa [HTK.out] at this
   have HIB : Hid (∀ W : World, Below w.heap.size w W -> Calls Tryz.prog 43 #[.int .i64 q, .slice (some ⟨b, o + m, none⟩) (rows.length - m) (cap - m)] W (Dg W (rtf q n k (rows.drop m)))) := fun W h => by
    have := rroot_any2 q n h5 h4 hpn k (cap - m) (some ⟨b, o + m, none⟩) (rows.drop m) W (by rw [HDK.out]; omega) (by rw [HDK.out]; omega) (by rw [HDK.out]; omega) (hfit.drop m) (((hl.drop m).below h).mono h.size)
    rwa [HDK.out] at this
   have hk1 : 1 <= k := by omega
   have HLA : Hid ((rtf q n k (rows.take m)).length = 4) := rtf_len q n k _ hk1
   have HLB : Hid ((rtf q n k (rows.drop m)).length = 4) := rtf_len q n k _ hk1
   have HFA := hid (rtf_fits h3 h4 n k (rows.take m))
   have HFB := hid (rtf_fits h3 h4 n k (rows.drop m))
   obtain ⟨RA, hRA⟩ := exE (rtf q n k (rows.take m))
   obtain ⟨RB, hRB⟩ := exE (rtf q n k (rows.drop m))
   rw [<- hRA] at HRT HIA HLA HFA
   rw [<- hRB] at HRT HIB HLB HFB
   rw [HRT.out]
   have hob : ((rows.length : Int) == 1) = false := by rw [beq_eq_false_iff_ne]; omega
   have e1 : (m : Int) <= (rows.length : Int) := by omega
   have e2 : (m : Int) <= (cap : Int) := by omega
   have e3 : ¬ cap = m := by omega
   have e4 : (rows.length : Int) <= (cap : Int) := by omega
   generalize rows.length = len at *
   clear hl hfit hone HRT hm l3 HTK HDK HL HFR hRA hRB h1 h2
   go_enter Tryz.func43, Tryz.ntmps43
   go_wp2_with fail
   refine (HLF.out _).mono ?_
   rintro e w1 ⟨rfl, rfl⟩
   go_wp2_with fail
   refine (HIA.out _ (Below.refl _ _)).mono ?_
   rintro e w2 ⟨ga, Na, rfl, h6, h7, h8⟩
   have HB2 := hid h8
   have HA2 := hid h7.1
   clear h6 h7 h8
   go_wp2_with fail
   refine (HIB.out _ HB2.out).mono ?_
   rintro e w3 ⟨gb, Nb, rfl, h6, h7, h8⟩
   have HB3 : Hid (Below w1.heap.size w1 w3) := HB2.out.trans (h8.mono HB2.out.size)
   have HA3 := hid ((HA2.out.below h8).mono h8.size)
   have HND := hid (rnode_any q n Na Nb (some ⟨ga, 0, none⟩) (some ⟨gb, 0, none⟩) RA RB w3 h5 h4 HPN.out (by rw [HLA.out, HLB.out]; omega) HFA.out HFB.out HA3.out h7.1)
   rw [HLA.out, HLB.out] at HND
   clear h6 h7 h8
   go_wp2_with fail
   refine HND.out.mono ?_
   rintro e w4 ⟨g, N, rfl, h6, h7, h8⟩
   have HE : Hid (w1.heap.size <= g /\ LstD w4 g N (digl q n (1 :: (RA ++ RB))) /\ Below w1.heap.size w1 w4) := ⟨by have := HB3.out.size; omega, h7, HB3.out.trans (h8.mono HB3.out.size)⟩
   clear h6 h7 h8
   go_wp2_with fail
   go_ret
   exact ⟨g, N, rfl, HE.out⟩
def smb (ps : List Int) (a b : Int) : Bool := ps.any (fun x => decide (a <= x /\ x < b))
theorem smb_iff {ps : List Int} {a b : Int} : smb ps a b = true ↔ ∃ j, j < ps.length /\ a <= zat ps j /\ zat ps j < b := by
 unfold smb
 rw [List.any_eq_true]
 constructor
 ·rintro ⟨x, hx, h⟩
  obtain ⟨j, hj, rfl⟩ := List.getElem_of_mem hx
  exact ⟨j, hj, by simpa [zat, hj] using h⟩
 ·rintro ⟨j, hj, h⟩
  exact ⟨ps[j], List.getElem_mem hj, by simpa [zat, hj] using h⟩
theorem smb_false {ps : List Int} {a b : Int} (h : ∀ j, j < ps.length -> ¬ (a <= zat ps j /\ zat ps j < b)) : smb ps a b = false := by
 rw [Bool.eq_false_iff]
 intro e
 obtain ⟨j, hj, h1⟩ := smb_iff.1 e
 exact h j hj h1
theorem rsome_any (cap : Nat) (av : Option Addr) (ps : List Int) (a b : Int) (w : World) (hlen : ps.length <= 281474976710656) (hrow : RowB w.heap.size w av ps) :
  Calls Tryz.prog 175 #[.slice av ps.length cap, .int .i64 a, .int .i64 b] w fun e w' => e = .returned (.bool (smb ps a b)) /\ w' = w := by
 have HR := hid hrow
 clear hrow
 go_enter Tryz.func175, Tryz.ntmps175
 go_wp2_with fail
 go_loop [7] (fun i => ∃ k : Nat, k <= ps.length /\ i = .int .i64 k /\ Hid (∀ j, j < k -> ¬ (a <= zat ps j /\ zat ps j < b))) (fun i => ps.length - (intOf i).toNat)
 case atStart => exact ⟨0, Nat.zero_le _, rfl, fun j hj => by omega⟩
 case round =>
  obtain ⟨k, hk, rfl, hno⟩ := hrel
  by_cases hlt : k < ps.length
  ·have hlt2 : (k : Int) < (ps.length : Int) := by omega
   obtain ⟨b1, o1, rfl, _, hc1⟩ := HR.out k hlt
   have HS : Hid (a <= zat ps k -> zat ps k < b -> smb ps a b = true) := fun h1 h2 => smb_iff.2 ⟨k, hlt, h1, h2⟩
   have HN : Hid (¬ (a <= zat ps k /\ zat ps k < b) -> ∀ j, j < k + 1 -> ¬ (a <= zat ps j /\ zat ps j < b)) := fun h j hj => by
    by_cases e : j = k
    ·subst e; exact h
    ·exact hno.out j (by omega)
   generalize zat ps k = x at *
   by_cases h1 : a <= x
   ·by_cases h2 : x < b
    ·have HT := hid (HS.out h1 h2)
     clear HS HN hno
     go_wp2_with fail
     go_ret
     exact ⟨ret_bool HT.out.symm, rfl⟩
    ·have HT := hid (HN.out (fun h => h2 h.2))
     clear HS HN hno
     go_wp2_with fail
     go_round
     case rel => exact ⟨k + 1, by omega, by go_num, HT⟩
     case measure => simp [intOf]; omega
   ·have HT := hid (HN.out (fun h => h1 h.1))
    clear HS HN hno
    go_wp2_with fail
    go_round
    case rel => exact ⟨k + 1, by omega, by go_num, HT⟩
    case measure => simp [intOf]; omega
  ·obtain rfl : k = ps.length := by omega
   have HT := hid (smb_false hno.out)
   go_wp2_with fail
   go_ret
   exact ⟨ret_bool HT.out.symm, rfl⟩
def Asc (os : List Int) : Prop := os.Pairwise (· < ·)
def OnceIs (ps os : List Int) : Prop := Asc os /\ ∀ x, x ∈ os ↔ x ∈ ps
theorem asc_unique : ∀ {us vs : List Int}, Asc us -> Asc vs -> (∀ x, x ∈ us ↔ x ∈ vs) -> us = vs
 | [], [], _, _, _ => rfl
 | [], b :: vs, _, _, h => absurd ((h b).2 (List.mem_cons_self ..)) (by simp)
 | a :: us, [], _, _, h => absurd ((h a).1 (List.mem_cons_self ..)) (by simp)
 | a :: us, b :: vs, h1, h2, h => by
  have ha := List.pairwise_cons.1 h1
  have hb := List.pairwise_cons.1 h2
  have e : a = b := by
   rcases List.mem_cons.1 ((h a).1 (List.mem_cons_self ..)) with g | g
   ·exact g
   ·rcases List.mem_cons.1 ((h b).2 (List.mem_cons_self ..)) with k | k
    ·exact k.symm
    ·have := hb.1 a g; have := ha.1 b k; omega
  subst e
  rw [asc_unique ha.2 hb.2 (fun x => ?_)]
  constructor
  ·intro hx
   rcases List.mem_cons.1 ((h x).1 (List.mem_cons_of_mem _ hx)) with g | g
   ·have := ha.1 x hx; omega
   ·exact g
  ·intro hx
   rcases List.mem_cons.1 ((h x).2 (List.mem_cons_of_mem _ hx)) with g | g
   ·have := hb.1 x hx; omega
   ·exact g
theorem OnceIs.unique {ps us vs : List Int} (h : OnceIs ps us) (k : OnceIs ps vs) : us = vs := asc_unique h.1 k.1 (fun x => (h.2 x).trans (k.2 x).symm)
theorem asc_le : ∀ {os ps : List Int}, Asc os -> (∀ x, x ∈ os -> x ∈ ps) -> os.length <= ps.length
 | [], _, _, _ => Nat.zero_le _
 | a :: os, ps, h, hs => by
  have ha := List.pairwise_cons.1 h
  have hm := hs a (List.mem_cons_self ..)
  have := asc_le (os := os) (ps := ps.erase a) ha.2 (fun x hx => (List.mem_erase_of_ne (by have := ha.1 x hx; omega)).2 (hs x (List.mem_cons_of_mem _ hx)))
  rw [List.length_erase_of_mem hm] at this
  have hp : 0 < ps.length := List.length_pos_of_mem hm
  simp only [List.length_cons]
  omega
theorem asc_snoc {os : List Int} {x : Int} (h : Asc os) (hx : ∀ y, y ∈ os -> y < x) : Asc (os ++ [x]) := by
 refine List.pairwise_append.2 ⟨h, List.pairwise_singleton _ _, fun a ha b hb => ?_⟩
 rw [List.mem_singleton] at hb
 rw [hb]
 exact hx a ha
theorem asc_last {os : List Int} (h : Asc os) (h0 : 0 < os.length) : ∀ y, y ∈ os -> y <= zat os (os.length - 1) := fun y hy => by
 obtain ⟨i, hi, rfl⟩ := List.getElem_of_mem hy
 rw [show zat os (os.length - 1) = os[os.length - 1] from by simp [zat, show os.length - 1 < os.length by omega]]
 by_cases e : i = os.length - 1
 ·subst e; exact Int.le_refl _
 ·exact Int.le_of_lt (List.pairwise_iff_getElem.1 h i (os.length - 1) hi (by omega) (by omega))
theorem zat_mem {zs : List Int} {j : Nat} (h : j < zs.length) : zat zs j ∈ zs := by
 rw [show zat zs j = zs[j] from by simp [zat, h]]; exact List.getElem_mem h
theorem mem_zat {zs : List Int} {x : Int} (h : x ∈ zs) : ∃ j, j < zs.length /\ zat zs j = x := by
 obtain ⟨i, hi, rfl⟩ := List.getElem_of_mem h
 exact ⟨i, hi, by simp [zat, hi]⟩
def Cand (os : List Int) (x : Int) : Prop := ∀ y, y ∈ os -> y < x
def BestIs (ps os : List Int) (k : Nat) (v : Value) : Prop :=
 (v = .int .i64 (-1) /\ ∀ j, j < k -> ¬ Cand os (zat ps j)) ∨ (∃ m : Nat, v = .int .i64 m /\ m < k /\ Cand os (zat ps m) /\ ∀ j, j < k -> Cand os (zat ps j) -> zat ps m <= zat ps j)
theorem BestIs.skip {ps os : List Int} {k : Nat} {v : Value} (h : BestIs ps os k v) (hn : ¬ Cand os (zat ps k)) : BestIs ps os (k + 1) v := by
 rcases h with ⟨h1, h2⟩ | ⟨m, h1, h2, h3, h4⟩
 ·exact .inl ⟨h1, fun j hj => by
   by_cases e : j = k
   ·subst e; exact hn
   ·exact h2 j (by omega)⟩
 ·exact .inr ⟨m, h1, by omega, h3, fun j hj hc => by
   by_cases e : j = k
   ·subst e; exact absurd hc hn
   ·exact h4 j (by omega) hc⟩
theorem BestIs.first {ps os : List Int} {k : Nat} (h : BestIs ps os k (.int .i64 (-1))) (hc : Cand os (zat ps k)) : BestIs ps os (k + 1) (.int .i64 k) := by
 rcases h with ⟨h1, h2⟩ | ⟨m, h1, _⟩
 ·exact .inr ⟨k, rfl, by omega, hc, fun j hj hj2 => by
   by_cases e : j = k
   ·subst e; exact Int.le_refl _
   ·exact absurd hj2 (h2 j (by omega))⟩
 ·injection h1 with _ h1; omega
theorem BestIs.less {ps os : List Int} {k m : Nat} (h : BestIs ps os k (.int .i64 m)) (hc : Cand os (zat ps k)) (hl : zat ps k < zat ps m) : BestIs ps os (k + 1) (.int .i64 k) := by
 rcases h with ⟨h1, _⟩ | ⟨m', h1, h2, h3, h4⟩
 ·injection h1 with _ h1; omega
 ·injection h1 with _ h1
  obtain rfl : m = m' := by omega
  exact .inr ⟨k, rfl, by omega, hc, fun j hj hj2 => by
   by_cases e : j = k
   ·subst e; exact Int.le_refl _
   ·have := h4 j (by omega) hj2; omega⟩
theorem BestIs.more {ps os : List Int} {k m : Nat} (h : BestIs ps os k (.int .i64 m)) (hl : ¬ zat ps k < zat ps m) : BestIs ps os (k + 1) (.int .i64 m) := by
 rcases h with ⟨h1, _⟩ | ⟨m', h1, h2, h3, h4⟩
 ·injection h1 with _ h1; omega
 ·injection h1 with _ h1
  obtain rfl : m = m' := by omega
  exact .inr ⟨m, rfl, by omega, h3, fun j hj hj2 => by
   by_cases e : j = k
   ·subst e; omega
   ·exact h4 j (by omega) hj2⟩
end Go.Proofs.YtlhjifpomchnfaaGreatDoor
