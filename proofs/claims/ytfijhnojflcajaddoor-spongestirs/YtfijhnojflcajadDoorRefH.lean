/- attestref3, the digests: Permute, Pad, Hash; attestref1.Same; attestlaw3.differ. -/
import Derived.Test.YtfijhnojflcajadDoorRefG
namespace Go.Proofs.YtfijhnojflcajadDoor
open Go.RowKit

/-! ## Permute -/
/-- a state after k rounds -/
def stir (q n : Nat) (f : Nat → Int) : Nat → Nat → Int
  | 0, j => f j % (q : Int)
  | k + 1, j => mx q (fun i => (stir q n f k i + cst q k i) ^ n % (q : Int)) j
theorem mx_bounds (q : Nat) (f : Nat → Int) (j : Nat) (h3 : 3 ≤ q) : 0 ≤ mx q f j ∧ mx q f j < q := emod_bounds _ q h3
theorem stir_bounds (q n : Nat) (f : Nat → Int) (k j : Nat) (h3 : 3 ≤ q) : 0 ≤ stir q n f k j ∧ stir q n f k j < q := by
  cases k with
  | zero => exact emod_bounds _ q h3
  | succ k => exact mx_bounds _ _ _ h3

set_option maxRecDepth 100000 in
set_option maxHeartbeats 1000000 in
theorem rperm_any (q n cap : Nat) (a : Option Addr) (f : Nat → Int) (w : World) (h5 : 5 ≤ q) (h4 : q ≤ 2147483647) (hpn : Spo.PowIs q n) (hfit : FitsF 8 f) (hrow : RowF (· < w.heap.size) w a 8 f) :
    Calls Tryd.prog 31 #[.int .i64 q, .slice a 8 cap] w fun e w' => ∃ (g N : Nat) (F : Nat → Value),
      e = .returned (.slice (some ⟨g, 0, none⟩) 8 N) ∧ w.heap.size ≤ g ∧ w'.rowIs g 3 N F ∧ 8 ≤ N ∧ (∀ j, j < 8 → F j = .int .i64 (stir q n f 8 j)) ∧ Below w.heap.size w w' := by
  have h3 : 3 ≤ q := by omega
  have HAL := hid (rall_own q 8 cap a f w h3 h4 (by omega) hfit hrow)
  have HPW : Hid (∀ W : World, Calls Tryd.prog 21 #[.int .i64 q] W fun e w' => ∃ n : Nat, e = .returned (.int .i64 n) ∧ Spo.PowIs q n ∧ n < q ∧ w' = W) := fun W => rpower_any q W h5 h4
  have HPN := hid hpn
  clear hfit hrow hpn
  go_enter Tryd.func31, Tryd.ntmps31
  go_wp2_with fail
  refine HAL.out.mono ?_
  rintro e w1 ⟨v, rfl, hown, hb1⟩
  have hll := ls_len (fun j => f j % (q : Int)) 8
  obtain ⟨g1, N1, F1, rfl, hg1, hri1, hN1, hF1⟩ := rowIs_of_owns hown (by rw [hll]; omega)
  rw [hll] at hN1 hF1 ⊢
  have HRI1 := hid hri1
  have HF1 : Hid (∀ j, j < 8 → F1 j = .int .i64 (stir q n f 0 j)) := fun j hj => by rw [hF1 j hj, ls_at _ _ _ hj]; rfl
  have HB1 := hid hb1
  clear hll hown hri1 hF1 hb1 HAL
  go_wp2_with fail
  refine (HPW.out _).mono ?_
  rintro e w2 ⟨n', rfl, hpn', hnq, rfl⟩
  obtain rfl : n' = n := Spo.PowIs.unique hpn' HPN.out
  clear hpn' HPW
  go_wp2_with fail
  go_loopw [5, 7] (fun ov rv wr => ∃ (k g N : Nat) (F : Nat → Value), k ≤ 8 ∧ rv = .int .i64 k ∧ ov = .slice (some ⟨g, 0, none⟩) 8 N ∧ w.heap.size ≤ g ∧ Hid (wr.rowIs g 3 N F) ∧ 8 ≤ N ∧ Hid (∀ j, j < 8 → F j = .int .i64 (stir q n' f k j)) ∧ Hid (Below w.heap.size w wr))
    (fun _ rv _ => 8 - (intOf rv).toNat)
  case atStart => exact ⟨0, g1, N1, F1, Nat.zero_le _, rfl, rfl, hg1, HRI1, hN1, HF1, HB1⟩
  case round =>
    obtain ⟨k, g, N, F, hk, rfl, rfl, hg, hri, hN, hF, hbel⟩ := hrel
    obtain ⟨wo, rfl⟩ : ∃ wo, wo = wr := ⟨_, rfl⟩
    by_cases hlt : k < 8
    · have hlt2 : (k : Int) < 8 := by omega
      have HPB : Hid (∀ j, 0 ≤ stir q n' f k j ∧ stir q n' f k j < q) := fun j => stir_bounds q n' f k j h3
      have HPS : Hid (∀ j, stir q n' f (k + 1) j = mx q (fun i => (stir q n' f k i + cst q k i) ^ n' % (q : Int)) j) := fun _ => rfl
      obtain ⟨P, hP⟩ : ∃ P, P = fun j => stir q n' f k j := ⟨_, rfl⟩
      have HPE : Hid (∀ j, stir q n' f k j = P j) := fun j => by rw [hP]
      simp only [HPE.out] at HPB HPS hF
      clear hP HPE
      go_wp2_with fail
      go_loopw [8] (fun iv wr => ∃ (i : Nat) (F' : Nat → Value), i ≤ 8 ∧ iv = .int .i64 i ∧ Hid (wr.rowIs g 3 N F') ∧ Hid (∀ j, j < i → F' j = .int .i64 ((P j + cst q k j) ^ n' % (q : Int))) ∧ Hid (∀ j, i ≤ j → j < 8 → F' j = .int .i64 (P j)) ∧ Hid (Below w.heap.size w wr))
        (fun iv _ => 8 - (intOf iv).toNat)
      case atStart => exact ⟨0, F, Nat.zero_le _, rfl, hri, fun j hj => by omega, fun j _ hj => hF.out j hj, hbel⟩
      case round =>
        obtain ⟨i, F', hi, rfl, hri', hlo, hhi, hbel'⟩ := hrel
        by_cases hil : i < 8
        · have hil2 : (i : Int) < 8 := by omega
          have hok := hri'.out.cell (i := i) (by omega)
          rw [hhi.out i (Nat.le_refl _) hil] at hok
          have hos := hri'.out.frozen i
          obtain ⟨p1, p2⟩ := HPB.out i
          obtain ⟨c1, c2⟩ := cst_bounds q k i h3
          have HCO : Hid (∀ W : World, Calls Tryd.prog 23 #[.int .i64 q, .int .i64 k, .int .i64 i] W fun e w' => e = .returned (.int .i64 (cst q k i)) ∧ w' = W) := fun W => rconst_any q k i W h3 h4
          have HPO : Hid (∀ W : World, Calls Tryd.prog 53 #[.int .i64 q, .int .i64 (P i + cst q k i), .int .i64 n'] W fun e w' => e = .returned (.int .i64 ((P i + cst q k i) ^ n' % (q : Int))) ∧ w' = W) := fun W => by
            rw [← pwm_int q _ n' h3]; exact rpow_nat q n' _ W h3 h4 (by omega) (by omega) (by omega)
          have HRI2 : Hid ((wr.setCell ⟨g, i, none⟩ (.int .i64 ((P i + cst q k i) ^ n' % (q : Int)))).rowIs g 3 N (fun j => if j = i then .int .i64 ((P i + cst q k i) ^ n' % (q : Int)) else F' j)) := hri'.out.set i _
          have HLO : Hid (∀ j, j < i + 1 → (fun j => if j = i then Value.int .i64 ((P i + cst q k i) ^ n' % (q : Int)) else F' j) j = .int .i64 ((P j + cst q k j) ^ n' % (q : Int))) := fun j hj => by
            show (if j = i then _ else _) = _
            by_cases e : j = i
            · rw [if_pos e, e]
            · rw [if_neg e]; exact hlo.out j (by omega)
          have HHI : Hid (∀ j, i + 1 ≤ j → j < 8 → (fun j => if j = i then Value.int .i64 ((P i + cst q k i) ^ n' % (q : Int)) else F' j) j = .int .i64 (P j)) := fun j g1 g2 => by
            show (if j = i then _ else _) = _
            rw [if_neg (by omega)]; exact hhi.out j (by omega) g2
          have HBN := hid (hbel'.out.setCell (p := ⟨g, i, none⟩) hg (.int .i64 ((P i + cst q k i) ^ n' % (q : Int))))
          clear hri' hlo hhi
          obtain ⟨z, hz⟩ : ∃ z, z = (P i + cst q k i) ^ n' % (q : Int) := ⟨_, rfl⟩
          rw [← hz] at HPO HRI2 HLO HHI HBN
          clear hz
          generalize cst q k i = c at *
          generalize P i = x at *
          go_wp2_with fail
          refine (HCO.out _).mono ?_
          rintro e w3 ⟨rfl, rfl⟩
          go_wp2_with fail
          refine (HPO.out _).mono ?_
          rintro e w4 ⟨rfl, rfl⟩
          go_wp2_with fail
          go_roundw
          case rel => exact ⟨i + 1, _, by omega, by go_num, HRI2, HLO, HHI, HBN⟩
          case measure => simp [intOf]; omega
        · have hil2 : ¬ (i : Int) < 8 := by omega
          obtain rfl : i = 8 := by omega
          obtain ⟨w5, rfl⟩ : ∃ w5, w5 = wr := ⟨_, rfl⟩
          have HMI := hid (rmix_own q N (some ⟨g, 0, none⟩) (fun j => (P j + cst q k j) ^ n' % (q : Int)) w5 h3 h4 (fun j hj => by have := emod_bounds ((P j + cst q k j) ^ n') q h3; show _ ≤ (P j + cst q k j) ^ n' % (q : Int) ∧ (P j + cst q k j) ^ n' % (q : Int) ≤ _; omega)
            (fun j hj => ⟨g, 0, rfl, hri'.out.lt, by rw [Nat.zero_add, hri'.out.cell (show j < N by omega), hlo.out j hj]⟩))
          clear hri' hlo hhi hri hF hbel
          go_wp2_with fail
          refine HMI.out.mono ?_
          rintro e w6 ⟨g6, N6, F6, rfl, hg6, hri6, hN6, hF6, hb6⟩
          have HRI6 := hid hri6
          have HF6 : Hid (∀ j, j < 8 → F6 j = .int .i64 (stir q n' f (k + 1) j)) := fun j hj => by rw [HPS.out]; exact hF6 j hj
          have HB6 : Hid (Below w.heap.size w w6) := hbel'.out.trans (hb6.mono hbel'.out.size)
          have hg6' : w.heap.size ≤ g6 := by have := hbel'.out.size; omega
          clear hri6 hF6 hb6 HMI
          go_wp2_with fail
          go_roundw
          case rel => exact ⟨k + 1, g6, N6, F6, by omega, by go_num, rfl, hg6', HRI6, hN6, HF6, HB6⟩
          case measure => simp [intOf]; omega
    · have hlt2 : ¬ (k : Int) < 8 := by omega
      obtain rfl : k = 8 := by omega
      have HE : Hid (w.heap.size ≤ g ∧ wo.rowIs g 3 N F ∧ 8 ≤ N ∧ (∀ j, j < 8 → F j = .int .i64 (stir q n' f 8 j)) ∧ Below w.heap.size w wo) := ⟨hg, hri.out, hN, hF.out, hbel.out⟩
      go_wp2_with fail
      go_ret
      first
        | exact ⟨g, N, F, rfl, HE.out⟩
        | exact ⟨g, N, rfl, HE.out.1, F, HE.out.2⟩

/-! ## Pad -/
def pdf (q : Nat) (f : Nat → Int) (n j : Nat) : Int := if j < n then f j % (q : Int) else if j = n then 1 else 0
/-- how long a list is with what stands behind it -/
def pln (n : Nat) : Nat := 4 * (n / 4 + 1)

theorem ls_same {f g : Nat → Int} {n : Nat} (h : ∀ j, j < n → f j = g j) : ls f n = ls g n := by
  unfold ls
  exact List.map_congr_left (fun j hj => h j (List.mem_range.1 hj))

/-- how long a slice is -/
def lenV : Value → Nat
  | .slice _ n _ => n
  | _ => 0
theorem owns_len {w : World} {base : Nat} {v : Value} {zs : List Int} (h : w.ownsRow base 3 1 v zs.length (zs.map (Value.int .i64))) : ∃ a c, v = .slice a zs.length c := by
  obtain ⟨a, c, h1, _⟩ := lst_of_owns h
  exact ⟨a, c, h1⟩

end Go.Proofs.YtfijhnojflcajadDoor
