/- attestref3, the digests: common, Power, Constant, Mix, Permute, Pad, Hash; attestref1.All as a list of its own. -/
import Derived.Test.YtfijhnojflcajaePlain
import Derived.Test.YtfijhnojflcajaePls
import Derived.Test.YtfijhnojflcajaeDoms
import Derived.Deep.QuietTactic
import Derived.StillTailTactics
namespace Go.Proofs.Ytfijhnojflcajae
open Go.RowKit


set_option maxHeartbeats 1000000 in
theorem rall_own (p n cap : Nat) (a : Option Addr) (f : Nat → Int) (w : World) (h3 : 3 ≤ p) (hm : p ≤ 2147483647)
    (hn : n ≤ 17592186044416) (hfit : FitsF n f) (hrow : RowF (· < w.heap.size) w a n f) :
    Calls Try.prog 9 #[.int .i64 p, .slice a n cap] w fun e w' => ∃ v, e = .returned v ∧ w'.ownsRow w.heap.size 3 1 v (ls (fun j => f j % (p : Int)) n).length ((ls (fun j => f j % (p : Int)) n).map (Value.int .i64)) ∧ Below w.heap.size w w' := by
  obtain ⟨i0, hi, hz0, hz1, hz2⟩ := info_parts Try.infoInt
  have HF := hid hfit
  have HR := hid hrow
  clear hfit hrow
  go_enter Try.func9, Try.ntmps9
  go_wp2_with fail
  go_loopw [5, 6] (fun v iv wr => ∃ k : Nat, k ≤ n ∧ iv = .int .i64 k ∧ wr.ownsRow w.heap.size 3 1 v (ls (fun j => f j % (p : Int)) k).length ((ls (fun j => f j % (p : Int)) k).map (Value.int .i64)) ∧ Below w.heap.size w wr)
    (fun _ iv _ => n - (intOf iv).toNat)
  case atStart => exact ⟨0, Nat.zero_le _, rfl, World.ownsRow_nil _ _ _ _, Below.refl _ _⟩
  case round =>
    obtain ⟨k, hk, rfl, hown, hbel⟩ := hrel
    have hsz := hbel.size
    by_cases hlt : k < n
    · have hlt2 : (k : Int) < (n : Int) := by omega
      obtain ⟨bl, ol, rfl, hbl, hcl⟩ := HR.out k hlt
      have hcl2 := (hbel.cell (p := ⟨bl, ol + k, none⟩) hbl).trans hcl
      obtain ⟨hx1, hx2⟩ := HF.out k hlt
      have HLS := hid (ls_succ (fun j => f j % (p : Int)) k)
      have HLL := hid (ls_len (fun j => f j % (p : Int)) k)
      generalize f k = x at *
      clear hcl
      go_wp2_with fail
      refine (rof_any p x _ h3 hm hx1 hx2).mono ?_
      rintro e w1 ⟨rfl, rfl⟩
      generalize ls (fun j => f j % (p : Int)) k = lk at *
      go_wp2_with (at_builtin; refine wpList_append_own _ rfl _ _ 22 rfl w.heap.size 3 i0 (.int .i64 0) 1 8 Try.underlying22 hi hz0 hz1 hz2 rfl (by decide) _ _ _ rfl (hown.alloc _) ⟨w1.heap.size, 0, none⟩ 1 1 [.int .i64 (x % (p : Int))] rfl rfl ?c1 ?c2 ?c3 ?c4 ?c5 ?_)
      case c1 =>
        intro j u hj
        match j, hj with
        | 0, hj => simp at hj; subst hj; simp [Addr.add]
      case c2 => intro u hu; simp at hu; subst hu; rfl
      case c3 => have := HLL.out; unfold maxLen; omega
      case c4 => have := HLL.out; omega
      case c5 => simp; omega
      intro v' w2 hown2 hgrow _
      have hown3 := owns_succ hown2
      have HB : Hid (Below w.heap.size w w2) := (hbel.alloc hsz _).grown hgrow (by simp; omega) (fun k hk => (hown.lt k hk).1)
      have HO := hid hown3
      clear hown2 hown3 hgrow hown hbel
      go_wp2_with fail
      go_roundw
      case rel => exact ⟨k + 1, by omega, by go_num, by rw [HLS.out]; exact HO.out, HB.out⟩
      case measure => simp [intOf]; omega
    · have hlt2 : ¬ (k : Int) < (n : Int) := by omega
      obtain rfl : k = n := by omega
      have HO := hid hown
      clear hown
      go_wp2_with fail
      go_ret
      exact ⟨_, rfl, HO.out, hbel⟩

/-! ## common, Power -/
def cmb (n m : Nat) : Bool := (List.range (n + 1)).any (fun i => decide (2 ≤ i) && n % i == 0 && m % i == 0)
theorem cmb_iff (n m : Nat) (hn : 1 ≤ n) : cmb n m = false ↔ Spo.Apart n m := by
  unfold cmb
  rw [List.any_eq_false]
  constructor
  · intro h i hi h1 h2
    have hle := Nat.le_of_dvd (by omega) h1
    have := h i (List.mem_range.2 (by omega))
    simp [hi, Nat.mod_eq_zero_of_dvd h1, Nat.mod_eq_zero_of_dvd h2] at this
  · intro h i _
    by_cases hi : 2 ≤ i
    · by_cases h1 : n % i = 0
      · have := h i hi (Nat.dvd_of_mod_eq_zero h1)
        have h2 : ¬ m % i = 0 := fun e => this (Nat.dvd_of_mod_eq_zero e)
        simp [h1, h2]
      · simp [h1]
    · simp [hi]

/-! ## Constant -/
def cst (q : Nat) (r i : Int) : Int := if r < 0 ∨ 7 < r ∨ i < 0 ∨ 7 < i then 0 else ((8 * r + i + 1) ^ 5 + 3) % (q : Int)
theorem cst_bounds (q : Nat) (r i : Int) (h3 : 3 ≤ q) : 0 ≤ cst q r i ∧ cst q r i < q := by
  unfold cst
  split
  · omega
  · exact emod_bounds _ q h3
theorem pwm_int (q : Nat) (a : Int) (n : Nat) (h3 : 3 ≤ q) : ((Num.pwm q (el q a) n : Nat) : Int) = a ^ n % (q : Int) := by
  rw [Num.pwm_cast, el_cast q a h3, Pol.emod_eq_iff (by omega)]
  exact Dom.pow_congr (Pol.emod_dvd q a) n

/-! ## Mix -/
def mxs (q : Nat) (f : Nat → Int) (i k : Nat) : Int := Dom.sm (fun j => f j * (invn q ((i + j + 8 : Nat) : Int) : Int) % (q : Int)) k % (q : Int)
def mx (q : Nat) (f : Nat → Int) (i : Nat) : Int := mxs q f i 8
theorem mxs_succ (q : Nat) (f : Nat → Int) (i k : Nat) : (mxs q f i k + f k * (invn q ((i + k + 8 : Nat) : Int) : Int) % (q : Int)) % (q : Int) = mxs q f i (k + 1) := by
  unfold mxs
  simp only [Dom.sm]
  rw [Int.add_emod, Int.emod_emod_of_dvd _ (Int.dvd_refl _), ← Int.add_emod]

end Go.Proofs.Ytfijhnojflcajae
