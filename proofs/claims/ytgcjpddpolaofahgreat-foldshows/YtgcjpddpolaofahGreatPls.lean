/- lives gives a field, and the law FieldFermat answers true for every input, its calls by their contracts. What package poly's Degree, Trim, Add, Sub and their helpers answer, for every list: new lists without zeros at their end; nothing that was there has turned. What package poly's Add and Sub answer, for every two lists. What package poly's addTimes and Mul answer. What package poly's Eval and Derive answer, and attestref1's Eval. What package attestref1 answers of polynomials: Degree, All, Trim, At, Plus, Scaled, Minus, Times, for every list. attestsame.Spoil writes to its own list alone; and lists that stay alive while a law goes on. append([]int{}, l...): a list copied, a nil one too. -/
import Derived.Test.YtgcjpddpolaofahGreatFld
import Derived.Test.YtgcjpddpolaofahGreatPlain
import Derived.Deep.OwnRows
import Derived.RegionTactic
import Derived.Deep.RegionWith
import Derived.BigRegion
import Derived.Deep.QuietTactic
import Derived.BigQuiet
import Derived.Laws.AppendOwnNone
namespace Go.Proofs.YtgcjpddpolaofahGreat
open Go.RowKit

theorem prime17 : Num.Prime 17 := by
  refine ⟨by decide, fun d hd => ?_⟩
  have hle : d ≤ 17 := Nat.le_of_dvd (by decide) hd
  have key : ∀ e, e ≤ 17 → 17 % e = 0 → e = 1 ∨ e = 17 := by decide
  exact key d hle (Nat.mod_eq_zero_of_dvd hd)

theorem two_of16 (q : Nat) (hq : Num.Prime q) (hd : q ∣ 16) : q = 2 := by
  have hle : q ≤ 16 := Nat.le_of_dvd (by decide) hd
  have key : ∀ e, e ≤ 16 → 16 % e = 0 → 2 ≤ e → e = 2 ∨ (4 ∣ e) := by decide
  rcases key q hle (Nat.mod_eq_zero_of_dvd hd) hq.1 with g | g
  · exact g
  · rcases hq.2 2 (Nat.dvd_trans (by decide) g) with h | h <;> omega

theorem prime2 : Num.Prime 2 := by
  refine ⟨by decide, fun d hd => ?_⟩
  have := Nat.le_of_dvd (by decide) hd
  have h0 : d ≠ 0 := by rintro rfl; have := Nat.eq_zero_of_zero_dvd hd; omega
  omega

theorem gen17 : Num.GenIs 17 3 := by
  refine Or.inl ⟨by decide, by decide, fun q hq hd => ?_, fun x h1 h2 h => ?_⟩
  · have := two_of16 q hq hd
    subst this
    decide
  · have h8 := h 2 prime2 (by decide)
    have hx : x = 1 ∨ x = 2 := by omega
    rcases hx with rfl | rfl <;> exact h8 (by decide)

/-- p factors make the element itself -/
theorem powz_p (p : Nat) (a : Int) (hp : Num.Prime p) (h3 : 3 ≤ p) : ((powz p a p : Nat) : Int) = a % (p : Int) := by
  obtain ⟨a1, a2⟩ := emod_bounds a p h3
  by_cases hz : a % (p : Int) = 0
  · unfold powz
    rw [if_pos ⟨hz, by omega⟩, hz]; rfl
  · rw [powz_nat p a p hp h3 hz]
    have hs0 : 0 < (a % (p : Int)).toNat := by omega
    have hsp : (a % (p : Int)).toNat < p := by omega
    have e : p % (p - 1) = 1 := by
      rw [show p = 1 + (p - 1) from by omega, Nat.add_sub_cancel_left, Nat.add_mod_right, Nat.mod_eq_of_lt (by omega)]
    rw [← Num.pwm_mod hp hs0 hsp p, e, Num.pwm_one p _ hsp]
    omega

end Go.Proofs.YtgcjpddpolaofahGreat

namespace Go.Proofs.YtgcjpddpolaofahGreat
open Go.RowKit

/-- n numbers that can be read, in a block of which P holds -/
def RowF (P : Nat → Prop) (w : World) (a : Option Addr) (n : Nat) (f : Nat → Int) : Prop :=
  ∀ k, k < n → ∃ b o, a = some ⟨b, o, none⟩ ∧ P b ∧ w.cell? ⟨b, o + k, none⟩ = some (.int .i64 (f k))
def FitsF (n : Nat) (f : Nat → Int) : Prop := ∀ j, j < n → -9223372036854775808 ≤ f j ∧ f j ≤ 9223372036854775807
theorem RowP.f {P : Nat → Prop} {w : World} {a : Option Addr} {zs : List Int} (h : RowP P w a zs) : RowF P w a zs.length (zat zs) := h
theorem RowB.f {n0 : Nat} {w : World} {a : Option Addr} {zs : List Int} (h : RowB n0 w a zs) : RowF (· < n0) w a zs.length (zat zs) := h
theorem Cells.f {g n : Nat} {f : Nat → Int} {w : World} (h : Cells g 0 n f w) : RowF (· = g) w (some ⟨g, 0, none⟩) n f := fun k hk => ⟨g, 0, rfl, rfl, h.cells k hk⟩

/-- how many are left without the zeros at the end -/
def tpn (p : Nat) (f : Nat → Int) (n : Nat) : Nat := Pol.tp p f n
theorem tpn_le (p : Nat) (f : Nat → Int) (n : Nat) : tpn p f n ≤ n := Pol.tp_le p f n

set_option maxHeartbeats 400000 in
theorem deg_any (p b n cap : Nat) (P : Nat → Prop) (a : Option Addr) (f : Nat → Int) (w : World) (h3 : 3 ≤ p) (hm : p ≤ 2147483647) (hp : w.cell? ⟨b, 0, none⟩ = some (.int .i64 p))
    (hn : n ≤ 9223372036854775807) (hfit : FitsF n f) (hrow : RowF P w a n f) :
    Calls Tryz.prog 25 #[.pointer (some ⟨b, 0, none⟩), .slice a n cap] w fun e w' => e = .returned (.int .i64 ((tpn p f n : Int) - 1)) ∧ w' = w := by
  have HF := hid hfit
  have HR := hid hrow
  clear hfit hrow
  go_enter Tryz.func25, Tryz.ntmps25
  go_wp2_with fail
  go_loop [5] (fun iv => ∃ k : Nat, k ≤ n ∧ iv = .int .i64 ((k : Int) - 1) ∧ Hid (tpn p f n = tpn p f k)) (fun iv => (intOf iv + 1).toNat)
  case atStart => exact ⟨n, Nat.le_refl _, rfl, rfl⟩
  case round =>
    obtain ⟨k, hk, rfl, hT⟩ := hrel
    cases k with
    | zero =>
      have e0 : Hid ((tpn p f n : Int) - 1 = ((0 : Nat) : Int) - 1) := by unfold Hid; rw [hT.out]; rfl
      go_wp2_with fail
      go_ret
      exact ⟨ret_int (by rw [e0.out]; rfl), rfl⟩
    | succ j =>
      have hj : j < n := by omega
      have e1 : (((j + 1 : Nat) : Int) - 1) = (j : Int) := by omega
      rw [e1]
      have hj0 : (0 : Int) ≤ (j : Int) := by omega
      have hjn : (j : Int) < (n : Int) := by omega
      obtain ⟨bl, ol, rfl, _, hcl⟩ := HR.out j hj
      obtain ⟨hx1, hx2⟩ := HF.out j hj
      have HS : Hid (f j % (p : Int) = 0 → tpn p f (j + 1) = tpn p f j) := fun h => by unfold tpn; rw [Pol.tp, if_pos h]
      have HE : Hid (f j % (p : Int) ≠ 0 → tpn p f (j + 1) = j + 1) := fun h => by unfold tpn; rw [Pol.tp, if_neg h]
      generalize f j = x at *
      clear e1
      go_wp2_with fail
      refine (of_any p b x w h3 hm hp hx1 hx2).mono ?_
      rintro e w1 ⟨rfl, rfl⟩
      by_cases hz : x % (p : Int) = 0
      · have hzb : (x % (p : Int) == 0) = true := by rw [hz]; rfl
        have HS2 := hid (hT.out.trans (HS.out hz))
        clear hz HS HE
        go_wp2_with fail
        go_round
        case rel => exact ⟨j, by omega, rfl, HS2⟩
        case measure => simp [intOf]
      · have hzb : (x % (p : Int) == 0) = false := by rw [beq_eq_false_iff_ne]; exact hz
        have HS2 := hid (hT.out.trans (HE.out hz))
        clear hz HS HE
        go_wp2_with fail
        go_ret
        exact ⟨ret_int (by rw [HS2.out]; omega), rfl⟩

set_option maxHeartbeats 1000000 in
theorem trim_full (p b cap : Nat) (P : Nat → Prop) (a : Option Addr) (zs : List Int) (w : World) (h3 : 3 ≤ p) (hm : p ≤ 2147483647) (hp : w.cell? ⟨b, 0, none⟩ = some (.int .i64 p))
    (hn : zs.length ≤ 35184372088832) (hfit : Fits zs) (hrow : RowP P w a zs) (hP : ∀ k, P k → k < w.heap.size) :
    Calls Tryz.prog 64 #[.pointer (some ⟨b, 0, none⟩), .slice a zs.length cap] w fun e w' => e = .returned (.slice (some ⟨w.heap.size, 0, none⟩) (Pol.trim p zs).length (Pol.trim p zs).length) ∧
      Cells w.heap.size 0 (Pol.trim p zs).length (zat (Pol.trim p zs)) w' ∧ Below w.heap.size w w' ∧ w'.heap.size = w.heap.size + 1 ∧ w'.rowIs w.heap.size 3 (Pol.trim p zs).length (fun j => .int .i64 (zat (Pol.trim p zs) j)) := by
  have hb : b < w.heap.size := by
    rcases Nat.lt_or_ge b w.heap.size with g | g
    · exact g
    · simp [World.cell?, Array.getElem?_eq_none g] at hp
  have hd := hid (deg_any p b zs.length cap P a (zat zs) w h3 hm hp (by omega) hfit hrow)
  have HT : Hid (∀ j, j < (Pol.trim p zs).length → zat (Pol.trim p zs) j = zat zs j % (p : Int)) := fun j hj => by
    rw [Pol.trim, Pol.mk_length] at hj
    exact Pol.mk_at p (Pol.cf zs) zs.length j hj
  have hlen : (Pol.trim p zs).length = tpn p (zat zs) zs.length := Pol.mk_length _ _ _
  have hle := tpn_le p (zat zs) zs.length
  rw [← hlen] at hd hle
  have HF := hid hfit
  have HR := hid hrow
  have HPP := hid hP
  clear hfit hrow hlen hP
  have hmk := fun n h1 h2 w => run_make_row' (P := Tryz.prog) 22 3 (.int .i64 0) 8 Tryz.underlying22 Tryz.infoInt rfl .i64 .i64 n h1 h2 w
  have hmk2 := hmk (Pol.trim p zs).length (by omega) (by omega)
  clear hmk
  generalize (Pol.trim p zs).length = t at *
  generalize Pol.trim p zs = ts at *
  have e1 : (t : Int) - 1 + 1 = (t : Int) := by omega
  go_enter Tryz.func64, Tryz.ntmps64
  go_wp2_with fail
  refine hd.out.mono ?_
  rintro e w1 ⟨rfl, rfl⟩
  go_wp2_with fail
  go_loopw [14] (fun iv wr => ∃ (k : Nat) (o : Nat → Int), k ≤ t ∧ iv = .int .i64 k ∧ Hid (Cells w1.heap.size 0 t o wr) ∧ Hid (∀ j, j < k → o j = zat ts j) ∧ Hid (Below w1.heap.size w1 wr) ∧ wr.heap.size = w1.heap.size + 1 ∧ Hid (wr.rowIs w1.heap.size 3 t (fun j => .int .i64 (o j))))
    (fun iv _ => t - (intOf iv).toNat)
  case atStart =>
    refine ⟨0, fun _ => 0, Nat.zero_le _, rfl, ⟨fun j hj => ?_, fun j hj => ?_⟩, fun j hj => by omega, ?_, by simp, World.rowIs_made _ _ _ _⟩
    · rw [World.cell?_alloc_at _ _ _ _ (by simp)]
      simp [madeCells, hj, Nat.mod_one]
    · simp
    · exact (Below.refl _ _).alloc (Nat.le_refl _) _
  case round =>
    obtain ⟨k, o, hk, rfl, hout, hoj, hbel, hsz, hri⟩ := hrel
    by_cases hlt : k < t
    · have hlt2 : (k : Int) < (t : Int) := by omega
      have hlt3 : (k : Int) < (zs.length : Int) := by omega
      obtain ⟨bl, ol, rfl, hbl, hcl⟩ := HR.out k (by omega)
      have hbl2 := HPP.out _ hbl
      have hcl2 := (hbel.out.cell (p := ⟨bl, ol + k, none⟩) hbl2).trans hcl
      have hok := hout.out.cells k hlt
      have hos := hout.out.soft k hlt
      rw [Nat.zero_add] at hok hos
      have hpc := (hbel.out.cell (p := ⟨b, 0, none⟩) hb).trans hp
      obtain ⟨hx1, hx2⟩ := HF.out k (by omega)
      have HS := hid (HT.out k hlt)
      have HC := hid (hout.out.set (zat zs k % (p : Int)) hlt)
      have HB := hid (hbel.out.setCell (p := ⟨w1.heap.size, 0 + k, none⟩) (by simp) (.int .i64 (zat zs k % (p : Int))))
      have HJ : Hid (∀ j, j < k + 1 → up o k (zat zs k % (p : Int)) j = zat ts j) := fun j hj => by
        unfold up
        by_cases hjk : j = k
        · rw [if_pos hjk, hjk]; exact HS.out.symm
        · rw [if_neg hjk]; exact hoj.out j (by omega)
      have HRI : Hid ((wr.setCell ⟨w1.heap.size, k, none⟩ (.int .i64 (zat zs k % (p : Int)))).rowIs w1.heap.size 3 t (fun j => .int .i64 (up o k (zat zs k % (p : Int)) j))) :=
        (hri.out.set k (.int .i64 (zat zs k % (p : Int)))).congr (fun j _ => by show (if j = k then _ else _) = Value.int .i64 (up o k _ j); unfold up; split <;> rfl)
      rw [Nat.zero_add] at HC HB
      generalize zat zs k = x at *
      clear hcl HS
      go_wp2_with fail
      refine (of_any p b x _ h3 hm hpc hx1 hx2).mono ?_
      rintro e w2 ⟨rfl, rfl⟩
      go_wp2_with fail
      go_roundw
      case rel => exact ⟨k + 1, _, by omega, by go_num, HC, HJ, HB, by simp [World.setCell]; exact hsz, HRI⟩
      case measure => simp [intOf]; omega
    · have hlt2 : ¬ (k : Int) < (t : Int) := by omega
      go_wp2_with fail
      go_ret
      exact ⟨rfl, hout.out.congr (fun j hj => hoj.out j (by omega)), hbel.out, hsz, hri.out.congr (fun j hj => by rw [hoj.out j (by omega)])⟩

theorem trim_any (p b cap : Nat) (P : Nat → Prop) (a : Option Addr) (zs : List Int) (w : World) (h3 : 3 ≤ p) (hm : p ≤ 2147483647) (hp : w.cell? ⟨b, 0, none⟩ = some (.int .i64 p))
    (hn : zs.length ≤ 35184372088832) (hfit : Fits zs) (hrow : RowP P w a zs) (hP : ∀ k, P k → k < w.heap.size) :
    Calls Tryz.prog 64 #[.pointer (some ⟨b, 0, none⟩), .slice a zs.length cap] w fun e w' => e = .returned (.slice (some ⟨w.heap.size, 0, none⟩) (Pol.trim p zs).length (Pol.trim p zs).length) ∧
      Cells w.heap.size 0 (Pol.trim p zs).length (zat (Pol.trim p zs)) w' ∧ Below w.heap.size w w' ∧ w'.heap.size = w.heap.size + 1 :=
  (trim_full p b cap P a zs w h3 hm hp hn hfit hrow hP).mono fun _ _ h => ⟨h.1, h.2.1, h.2.2.1, h.2.2.2.1⟩

end Go.Proofs.YtgcjpddpolaofahGreat

namespace Go.Proofs.YtgcjpddpolaofahGreat
open Go.RowKit

theorem ret_slice {a : Option Addr} {n m c : Nat} (h : n = m) : Ending.returned (.slice a n c) = .returned (.slice a m c) := by rw [h]

/-- the longer length -/
def mxn (n m : Nat) : Nat := max n m

theorem add_list (p : Nat) (xs ys : List Int) : (Pol.padd p xs ys).length = tpn p (fun j => zat xs j + zat ys j) (mxn xs.length ys.length) ∧ ∀ j, j < (Pol.padd p xs ys).length → zat (Pol.padd p xs ys) j = (zat xs j + zat ys j) % (p : Int) :=
  ⟨Pol.mk_length _ _ _, fun j hj => by rw [Pol.padd, Pol.mk_length] at hj; exact Pol.mk_at p _ _ j hj⟩
theorem sub_list (p : Nat) (xs ys : List Int) : (Pol.psub p xs ys).length = tpn p (fun j => zat xs j - zat ys j) (mxn xs.length ys.length) ∧ ∀ j, j < (Pol.psub p xs ys).length → zat (Pol.psub p xs ys) j = (zat xs j - zat ys j) % (p : Int) :=
  ⟨Pol.mk_length _ _ _, fun j hj => by rw [Pol.psub, Pol.mk_length] at hj; exact Pol.mk_at p _ _ j hj⟩

end Go.Proofs.YtgcjpddpolaofahGreat

namespace Go.Proofs.YtgcjpddpolaofahGreat
open Go.RowKit

/-- so many times y added from place i on, the first k places of it -/
def addf (p : Nat) (f y : Nat → Int) (x : Int) (i k : Nat) : Nat → Int := fun j => if i ≤ j ∧ j < i + k then (f j + y (j - i) * x) % (p : Int) else f j

theorem addf_zero (p : Nat) (f y : Nat → Int) (x : Int) (i : Nat) : addf p f y x i 0 = f := by
  funext j; unfold addf; rw [if_neg (by omega)]
theorem addf_succ (p : Nat) (f y : Nat → Int) (x : Int) (i k : Nat) : up (addf p f y x i k) (i + k) ((f (i + k) + y k * x % (p : Int)) % (p : Int)) = addf p f y x i (k + 1) := by
  funext j; unfold up addf
  by_cases h : j = i + k
  · subst h; rw [if_pos rfl, if_pos (by omega), Nat.add_sub_cancel_left, Int.add_emod (f (i + k)), Int.emod_emod_of_dvd _ (Int.dvd_refl _), ← Int.add_emod]
  · rw [if_neg h]
    by_cases h2 : i ≤ j ∧ j < i + k
    · rw [if_pos h2, if_pos (by omega)]
    · rw [if_neg h2, if_neg (by omega)]
theorem addf_at (p : Nat) (f y : Nat → Int) (x : Int) (i k : Nat) : addf p f y x i k (i + k) = f (i + k) := by unfold addf; rw [if_neg (by omega)]

/-! ## Mul -/
/-- the product's places while the first i of a are taken -/
def pm (p : Nat) (f g : Nat → Int) (i : Nat) : Nat → Int := fun j => Pol.mul (Pol.lo i f) g j % (p : Int)

theorem pm_zero (p : Nat) (f g : Nat → Int) (j : Nat) : pm p f g 0 j = 0 := by
  unfold pm; rw [Pol.lo_zero, Pol.zero_mul]; simp [Pol.zero]
theorem pm_succ (p : Nat) (f : Nat → Int) (ys : List Int) (i : Nat) : addf p (pm p f (zat ys) i) (zat ys) (f i) i ys.length = pm p f (zat ys) (i + 1) := by
  funext j
  unfold addf pm
  rw [Pol.lo_mul_succ]
  simp only [Pol.add, Pol.sh, Pol.sc]
  by_cases h : j < i
  · rw [if_neg (by omega), if_pos h, Int.add_zero]
  · by_cases h2 : j < i + ys.length
    · rw [if_pos (by omega), if_neg h, Int.add_emod (Pol.mul (Pol.lo i f) (zat ys) j % (p : Int)), Int.emod_emod_of_dvd _ (Int.dvd_refl _), ← Int.add_emod, Int.mul_comm (f i)]
    · rw [if_neg (by omega), if_neg h]
      have : zat ys (j - i) = 0 := by simp [zat, show ys.length ≤ j - i from by omega]
      rw [this]; simp
theorem pm_bounds (p : Nat) (f g : Nat → Int) (i j : Nat) (h3 : 3 ≤ p) : 0 ≤ pm p f g i j ∧ pm p f g i j < p := emod_bounds _ p h3

theorem pm_done (p : Nat) (hp : Num.Prime p) (xs ys : List Int) (hx : Pol.Can p xs) (hy : Pol.Can p ys) (h1 : 0 < xs.length) (h2 : 0 < ys.length) :
    (Pol.pmul p xs ys).length = xs.length + ys.length - 1 ∧ ∀ j, j < xs.length + ys.length - 1 → zat (Pol.pmul p xs ys) j = pm p (zat xs) (zat ys) xs.length j := by
  have hl := Pol.pmul_len hp hx hy h1 h2
  refine ⟨hl, fun j hj => ?_⟩
  rw [← hl, Pol.pmul, Pol.mk_length] at hj
  have := Pol.mk_at p (Pol.mul (Pol.cf xs) (Pol.cf ys)) _ j hj
  rw [show zat (Pol.pmul p xs ys) j = (Pol.pmul p xs ys).getD j 0 from rfl, Pol.pmul, this]
  unfold pm
  rw [show Pol.lo xs.length (zat xs) = Pol.cf xs from Pol.lo_len xs]
  rfl

theorem trim_fits {p : Nat} (h3 : 3 ≤ p) (hm : p ≤ 2147483647) (zs : List Int) : Fits (Pol.trim p zs) := fun j hj => by
  have := (Pol.trim_can (p := p) (Nat.lt_of_lt_of_le (by decide) h3) zs).elem j hj
  have e : zat (Pol.trim p zs) j = (Pol.trim p zs).getD j 0 := rfl
  omega
theorem can_fits {p : Nat} (hm : p ≤ 2147483647) {zs : List Int} (h : Pol.Can p zs) : Fits zs := fun j hj => by
  have := h.elem j hj
  have e : zat zs j = zs.getD j 0 := rfl
  omega
theorem pmul_trim {p : Nat} (h3 : 3 ≤ p) (xs ys : List Int) : Pol.pmul p (Pol.trim p xs) (Pol.trim p ys) = Pol.pmul p xs ys :=
  Pol.mk_congr (by omega) (Pol.pmul_b p _ _) (Pol.pmul_b p _ _) ((Pol.trim_eqp p xs).mul (Pol.trim_eqp p ys))

end Go.Proofs.YtgcjpddpolaofahGreat

namespace Go.Proofs.YtgcjpddpolaofahGreat
open Go.RowKit

/-- what a polynomial is at an element -/
def evz (p : Nat) (zs : List Int) (x : Int) : Int := Pol.ps (zat zs) x zs.length % (p : Int)
theorem evz_bounds (p : Nat) (zs : List Int) (x : Int) (h3 : 3 ≤ p) : 0 ≤ evz p zs x ∧ evz p zs x < p := emod_bounds _ p h3

def hzm (p : Nat) (f : Nat → Int) (x : Int) (n k : Nat) : Int := Pol.hz f x n k % (p : Int)
theorem hzm_succ (p : Nat) (f : Nat → Int) (x : Int) (n k : Nat) : (hzm p f x n k * x % (p : Int) + f (n - 1 - k)) % (p : Int) = hzm p f x n (k + 1) := by
  unfold hzm
  rw [Pol.hz, Int.mul_emod, Int.emod_emod_of_dvd _ (Int.dvd_refl _), ← Int.mul_emod, Int.add_emod, Int.emod_emod_of_dvd _ (Int.dvd_refl _), ← Int.add_emod]

set_option maxHeartbeats 1000000 in
theorem eval_any (p b cap : Nat) (P : Nat → Prop) (a : Option Addr) (zs : List Int) (x : Int) (w : World) (h3 : 3 ≤ p) (hm : p ≤ 2147483647) (hp : w.cell? ⟨b, 0, none⟩ = some (.int .i64 p))
    (hn : zs.length ≤ 281474976710656) (hfit : Fits zs) (hx1 : -9223372036854775808 ≤ x) (hx2 : x ≤ 9223372036854775807) (hrow : RowP P w a zs) :
    Calls Tryz.prog 66 #[.pointer (some ⟨b, 0, none⟩), .slice a zs.length cap, .int .i64 x] w fun e w' => e = .returned (.int .i64 (evz p zs x)) ∧ ∃ n, w' = w.drewN n := by
  have HF := hid hfit
  have HR := hid hrow
  have HE : Hid (hzm p (zat zs) x zs.length zs.length = evz p zs x) := by unfold Hid hzm evz; rw [Pol.hz_ps]
  clear hfit hrow
  go_enter Tryz.func66, Tryz.ntmps66
  go_wp2_with fail
  go_loopw [7, 11] (fun sv iv wr => ∃ k n : Nat, k ≤ zs.length ∧ iv = .int .i64 k ∧ sv = .int .i64 (hzm p (zat zs) x zs.length k) ∧ Hid (wr = w.drewN n)) (fun _ iv _ => zs.length - (intOf iv).toNat)
  case atStart => exact ⟨0, 0, Nat.zero_le _, rfl, by simp [hzm, Pol.hz], rfl⟩
  case round =>
    obtain ⟨k, n, hk, rfl, rfl, HW⟩ := hrel
    have hpc : wr.cell? ⟨b, 0, none⟩ = some (.int .i64 p) := by rw [HW.out]; exact hp
    by_cases hlt : k < zs.length
    · have hlt2 : (k : Int) < (zs.length : Int) := by omega
      have e1 : (zs.length : Int) - 1 - (k : Int) = ((zs.length - 1 - k : Nat) : Int) := by omega
      have hlt3 : ((zs.length - 1 - k : Nat) : Int) < (zs.length : Int) := by omega
      obtain ⟨bl, ol, rfl, hbl, hcl⟩ := HR.out (zs.length - 1 - k) (by omega)
      have hcl2 : wr.cell? ⟨bl, ol + (zs.length - 1 - k), none⟩ = some (.int .i64 (zat zs (zs.length - 1 - k))) := by rw [HW.out]; exact hcl
      have HY := HF.out (zs.length - 1 - k) (by omega)
      have HS := hid (hzm_succ p (zat zs) x zs.length k)
      have hb1 := emod_bounds (Pol.hz (zat zs) x zs.length k) p h3
      have hb2 := emod_bounds (hzm p (zat zs) x zs.length k * x) p h3
      rw [show Pol.hz (zat zs) x zs.length k % (p : Int) = hzm p (zat zs) x zs.length k from rfl] at hb1
      have HM : Hid (∀ w1 : World, w1.cell? ⟨b, 0, none⟩ = some (.int .i64 p) → Calls Tryz.prog 45 #[.pointer (some ⟨b, 0, none⟩), .int .i64 (hzm p (zat zs) x zs.length k), .int .i64 x] w1 fun e w' => e = .returned (.int .i64 (hzm p (zat zs) x zs.length k * x % p)) ∧ w' = w1) :=
        fun w1 h => mul_any p b _ _ w1 h3 hm h (by omega) (by omega) hx1 hx2
      have HA : Hid (∀ w1 : World, w1.cell? ⟨b, 0, none⟩ = some (.int .i64 p) → Calls Tryz.prog 49 #[.pointer (some ⟨b, 0, none⟩), .int .i64 (hzm p (zat zs) x zs.length k * x % (p : Int)), .int .i64 (zat zs (zs.length - 1 - k))] w1 fun e w' => e = .returned (.int .i64 ((hzm p (zat zs) x zs.length k * x % (p : Int) + zat zs (zs.length - 1 - k)) % p)) ∧ w' = w1) :=
        fun w1 h => add_any p b _ _ w1 h3 hm h (by omega) (by omega) HY.1 HY.2
      rw [HS.out] at HA
      generalize hzm p (zat zs) x zs.length k * x % (p : Int) = hx at *
      generalize zat zs (zs.length - 1 - k) = y at *
      generalize hzm p (zat zs) x zs.length k = h0 at *
      generalize zs.length - 1 - k = j at *
      clear HS hcl
      go_wp2_with fail
      go_quiet (first
        | (go_at_call 45; exact Calls.quiet_of_same (HM.out _ hpc))
        | (go_at_call 49; exact Calls.quiet_of_same (HA.out _ hpc)))
      go_wp2_with fail
      go_roundw
      case rel => exact ⟨k + 1, _, by omega, by go_num, rfl, by unfold Hid; rw [HW.out, World.drewN_drewN]⟩
      case measure => simp [intOf]; omega
    · have hlt2 : ¬ (k : Int) < (zs.length : Int) := by omega
      obtain rfl : k = zs.length := by omega
      go_wp2_with fail
      go_ret
      exact ⟨ret_int HE.out, n, HW.out⟩

def psm (p : Nat) (f : Nat → Int) (x : Int) (k : Nat) : Int := Pol.ps f x k % (p : Int)
def pwz (p : Nat) (x : Int) (k : Nat) : Int := x ^ k % (p : Int)
theorem psm_succ (p : Nat) (f : Nat → Int) (x : Int) (k : Nat) : (psm p f x k + f k * pwz p x k % (p : Int)) % (p : Int) = psm p f x (k + 1) := by
  unfold psm pwz
  rw [Pol.ps, Int.mul_emod (f k), Int.emod_emod_of_dvd _ (Int.dvd_refl _), ← Int.mul_emod, Int.add_emod, Int.emod_emod_of_dvd _ (Int.dvd_refl _), Int.emod_emod_of_dvd _ (Int.dvd_refl _), ← Int.add_emod]
theorem pwz_succ (p : Nat) (x : Int) (k : Nat) : pwz p x k * x % (p : Int) = pwz p x (k + 1) := by
  unfold pwz
  rw [Int.pow_succ, Int.mul_emod, Int.emod_emod_of_dvd _ (Int.dvd_refl _), ← Int.mul_emod]

/-- the slope's list -/
def pdv (p : Nat) (zs : List Int) : List Int := Pol.mk p (Pol.dv (Pol.cf zs)) (zs.length - 1)

theorem pdv_list (p : Nat) (zs : List Int) : (pdv p zs).length = tpn p (fun j => zat zs (j + 1) * ((j : Int) + 1)) (zs.length - 1) ∧ ∀ j, j < (pdv p zs).length → zat (pdv p zs) j = zat zs (j + 1) * ((j : Int) + 1) % (p : Int) :=
  ⟨Pol.mk_length _ _ _, fun j hj => by rw [pdv, Pol.mk_length] at hj; exact Pol.mk_at p _ _ j hj⟩

end Go.Proofs.YtgcjpddpolaofahGreat

namespace Go.Proofs.YtgcjpddpolaofahGreat
open Go.RowKit

theorem heap_lt {w : World} {b : Nat} {v : Value} (hp : w.cell? ⟨b, 0, none⟩ = some v) : b < w.heap.size := by
  rcases Nat.lt_or_ge b w.heap.size with g | g
  · exact g
  · simp [World.cell?, Array.getElem?_eq_none g] at hp

theorem padd_ls {p : Nat} (h3 : 3 ≤ p) (xs ys : List Int) : Pol.trim p (ls (fun j => (zat xs j + zat ys j) % (p : Int)) (mxn xs.length ys.length)) = Pol.padd p xs ys := by
  refine Pol.mk_congr (by omega) (Pol.cf_behind p _) (Pol.padd_b p xs ys) (fun j => ?_)
  by_cases hj : j < mxn xs.length ys.length
  · rw [show Pol.cf (ls (fun j => (zat xs j + zat ys j) % (p : Int)) (mxn xs.length ys.length)) j = zat (ls (fun j => (zat xs j + zat ys j) % (p : Int)) (mxn xs.length ys.length)) j from rfl, ls_at _ _ _ hj]
    exact Pol.emod_dvd p _
  · have h : max xs.length ys.length ≤ j := by unfold mxn at hj; omega
    rw [Pol.cf_ge (by rw [ls_len]; omega)]
    simp only [Pol.add]
    rw [Pol.cf_ge (by omega), Pol.cf_ge (by omega)]
    simp

end Go.Proofs.YtgcjpddpolaofahGreat

namespace Go.Proofs.YtgcjpddpolaofahGreat
open Go.RowKit

theorem owns_of_rowIs {w : World} {g n : Nat} {f : Nat → Value} (h : w.rowIs g 3 n f) (hn : n ≤ maxLen) : ∃ xs : List Value, w.ownsRow g 3 1 (.slice (some ⟨g, 0, none⟩) n n) n xs := by
  obtain ⟨c, hb, hs, _⟩ := h
  exact ⟨c.toList, by simp [hs], .inr ⟨g, n, c, rfl, Nat.le_refl _, hb, Nat.le_refl _, hn, by omega, by rw [List.take_of_length_le (by simp [hs])]⟩⟩

/-- lists that can be read now -/
def Alive (w : World) (L : List (Option Addr × List Int)) : Prop := ∀ e, e ∈ L → RowB w.heap.size w e.1 e.2
theorem Alive.step {w w' : World} {L : List (Option Addr × List Int)} (h : Alive w L) (hb : Below w.heap.size w w') : Alive w' L := fun e he => (RowB.below hb (h e he)).mono hb.size
theorem Alive.nil (w : World) : Alive w [] := fun e he => by cases he
theorem Alive.cons {w : World} {L : List (Option Addr × List Int)} {a : Option Addr} {zs : List Int} (h : Alive w L) (r : RowB w.heap.size w a zs) : Alive w ((a, zs) :: L) := fun e he => by
  cases he with
  | head => exact r
  | tail _ he => exact h e he
theorem Alive.drewN {w : World} {L : List (Option Addr × List Int)} (h : Alive w L) (n : Nat) : Alive (w.drewN n) L := fun e he k hk => by
  obtain ⟨b, o, h1, h2, h3⟩ := h e he k hk
  exact ⟨b, o, h1, h2, h3⟩
theorem Alive.at {w : World} {L : List (Option Addr × List Int)} (h : Alive w L) (i : Nat) {a : Option Addr} {zs : List Int} (e : L[i]? = some (a, zs)) : RowB w.heap.size w a zs := h _ (List.mem_of_getElem? e)
theorem ints_same (n0 n1 : Nat) (zs : List Int) (a b : Option Addr) (ca cb : Nat) (w : World) (ha : RowB n0 w a zs) (hb : RowB n1 w b zs) (hx : zs.length ≤ 9223372036854775807) :
    Calls Tryz.prog 11 #[.slice a zs.length ca, .slice b zs.length cb] w fun e w' => e = .returned (.bool true) ∧ ∃ n, w' = w.drewN n :=
  (ints_any zs zs _ _ w (rowZ_of_B ca ha) (rowZ_of_B cb hb) hx hx).mono fun _ _ h => ⟨by rw [h.1, decide_eq_true rfl], h.2⟩

end Go.Proofs.YtgcjpddpolaofahGreat

namespace Go.Proofs.YtgcjpddpolaofahGreat
open Go.RowKit

theorem wpList_copy {ops : Array Oper} {rest : List Oper} {o : Oper} {act : Act} {Q : Exit → Act → World → Prop} (w1 : World) (hgd : o.guard = none) (s x : Operand)
    (ho : o.op = .call { callee := .builtin .append, args := #[s, x], argTypes := #[22, 22] })
    (hs : act.eval s = .slice (some ⟨w1.heap.size, 0, none⟩) 0 0) (av : Option Addr) (cap : Nat) (zs : List Int) (hx : act.eval x = .slice av zs.length cap)
    (hlen : zs.length ≤ 17592186044416) (hl : Lst w1.heap.size w1 av cap zs)
    (h : ∀ a2 c2 w2, Lst w2.heap.size w2 a2 c2 zs → Below w1.heap.size w1 w2 → w1.heap.size < w2.heap.size → wpList Tryz.prog ops Q rest (act.put o.dst (.slice a2 zs.length c2)) w2) :
    wpList Tryz.prog ops Q (o :: rest) act (w1.alloc (.cells #[] 3)) := by
  obtain ⟨i0, hi, hz0, hz1, hz2⟩ := info_parts Tryz.infoInt
  have hown : (w1.alloc (.cells #[] 3)).ownsRow w1.heap.size 3 1 (.slice (some ⟨w1.heap.size, 0, none⟩) 0 0) 0 [] := World.ownsRow_made (size := 1) w1 #[] 0 (Nat.le_refl _) (by unfold maxLen; omega) (by simp)
  have hb0 : Below w1.heap.size w1 (w1.alloc (.cells #[] 3)) := (Below.refl _ _).alloc (Nat.le_refl _) _
  cases av with
  | none =>
    have hc := hl.nil rfl
    have hr := hl.room
    obtain rfl : cap = 0 := hc
    obtain rfl : zs = [] := List.length_eq_zero_iff.1 (by omega)
    refine wpList_append_own_none hgd s x 22 ho w1.heap.size 3 i0 1 Tryz.underlying22 hi _ _ _ hs hown hx ?_
    exact h (some ⟨w1.heap.size, 0, none⟩) 0 _ ⟨fun k hk => by simp at hk, by simp, fun e => by cases e⟩ hb0 (by simp)
  | some ad =>
    refine wpList_append_own _ hgd s x 22 ho w1.heap.size 3 i0 (.int .i64 0) 1 8 Tryz.underlying22 hi hz0 hz1 hz2 rfl (by decide) _ _ _ hs hown ad zs.length cap (zs.map (Value.int .i64)) hx (by simp) ?_ ?_ (by unfold maxLen; omega) (by omega) (by simp) ?_
    · intro j u hu
      have hj : j < zs.length := by
        rcases Nat.lt_or_ge j zs.length with g | g
        · exact g
        · simp [g] at hu
      obtain ⟨b, off, h1, h2, h5⟩ := hl.row j hj
      cases h1
      have hadd : (⟨b, off, none⟩ : Addr).add j = ⟨b, off + j, none⟩ := by unfold Addr.add; split <;> simp_all
      rw [hadd, World.cell?_alloc_lt _ _ ⟨b, off + j, none⟩ h2]
      refine h5.trans ?_
      simp [zat, hj] at hu ⊢
      exact hu
    · intro u hu; obtain ⟨y, _, rfl⟩ := List.mem_map.1 hu; rfl
    · intro v' w2 hown2 hgrow _
      rw [Nat.zero_add, List.nil_append] at hown2
      have hb2 : Below w1.heap.size w1 w2 := hb0.grown hgrow (by simp) (fun k hk => (hown.lt k hk).1)
      obtain ⟨a2, c2, rfl, hl2⟩ := lst_of_owns hown2
      have hg := hgrow.size
      exact h a2 c2 w2 hl2 hb2 (by simp at hg; omega)

theorem wpList_copyG {ops : Array Oper} {rest : List Oper} {o : Oper} {act : Act} {Q : Exit → Act → World → Prop} (w1 : World) (g : Nat) (hgs : w1.heap.size = g) (hgd : o.guard = none) (s x : Operand)
    (ho : o.op = .call { callee := .builtin .append, args := #[s, x], argTypes := #[22, 22] })
    (hs : act.eval s = .slice (some ⟨g, 0, none⟩) 0 0) (av : Option Addr) (cap : Nat) (zs : List Int) (hx : act.eval x = .slice av zs.length cap)
    (hlen : zs.length ≤ 17592186044416) (hl : Lst w1.heap.size w1 av cap zs)
    (h : ∀ a2 c2 w2, Lst w2.heap.size w2 a2 c2 zs → Below w1.heap.size w1 w2 → w1.heap.size < w2.heap.size → wpList Tryz.prog ops Q rest (act.put o.dst (.slice a2 zs.length c2)) w2) :
    wpList Tryz.prog ops Q (o :: rest) act (w1.alloc (.cells #[] 3)) := by
  subst hgs
  exact wpList_copy w1 hgd s x ho hs av cap zs hx hlen hl h

end Go.Proofs.YtgcjpddpolaofahGreat
