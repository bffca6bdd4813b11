/- lives gives a field, and the law FieldFermat answers true for every input, its calls by their contracts. What package poly's Degree, Trim, Add, Sub and their helpers answer, for every list: new lists without zeros at their end; nothing that was there has turned. What package poly's Add and Sub answer, for every two lists. What package poly's addTimes and Mul answer. What package poly's Eval and Derive answer, and attestref1's Eval. What package attestref1 answers of polynomials: Degree, All, Trim, At, Plus, Scaled, Minus, Times, for every list. attestsame.Spoil writes to its own list alone; and lists that stay alive while a law goes on. append([]int{}, l...): a list copied, a nil one too. -/
import Derived.Test.YtfppkjpgihnibaaGreatDoorFld
import Derived.Test.YtfppkjpgihnibaaGreatDoorPlain
import Derived.Deep.OwnRows
import Derived.RegionTactic
import Derived.Deep.RegionWith
import Derived.BigRegion
import Derived.Deep.QuietTactic
import Derived.BigQuiet
import Derived.Laws.AppendOwnNone
namespace Go.Proofs.YtfppkjpgihnibaaGreatDoor
open Go.RowKit

end Go.Proofs.YtfppkjpgihnibaaGreatDoor

namespace Go.Proofs.YtfppkjpgihnibaaGreatDoor
open Go.RowKit

/-- n numbers that can be read, in a block of which P holds -/
def RowF (P : Nat → Prop) (w : World) (a : Option Addr) (n : Nat) (f : Nat → Int) : Prop :=
  ∀ k, k < n → ∃ b o, a = some ⟨b, o, none⟩ ∧ P b ∧ w.cell? ⟨b, o + k, none⟩ = some (.int .i64 (f k))
def FitsF (n : Nat) (f : Nat → Int) : Prop := ∀ j, j < n → -9223372036854775808 ≤ f j ∧ f j ≤ 9223372036854775807
theorem RowP.f {P : Nat → Prop} {w : World} {a : Option Addr} {zs : List Int} (h : RowP P w a zs) : RowF P w a zs.length (zat zs) := h
theorem RowB.f {n0 : Nat} {w : World} {a : Option Addr} {zs : List Int} (h : RowB n0 w a zs) : RowF (· < n0) w a zs.length (zat zs) := h
theorem Cells.f {g n : Nat} {f : Nat → Int} {w : World} (h : Cells g 0 n f w) : RowF (· = g) w (some ⟨g, 0, none⟩) n f := fun k hk => ⟨g, 0, rfl, rfl, h.cells k hk⟩

/-- how many are left without the zeros at the end -/
def tpn (p : Nat) (f : Nat → Int) (n : Nat) : Nat := Pol.tp p f n
theorem tpn_le (p : Nat) (f : Nat → Int) (n : Nat) : tpn p f n ≤ n := Pol.tp_le p f n

set_option maxHeartbeats 400000 in
theorem deg_any (p b n cap : Nat) (P : Nat → Prop) (a : Option Addr) (f : Nat → Int) (w : World) (h3 : 3 ≤ p) (hm : p ≤ 2147483647) (hp : w.cell? ⟨b, 0, none⟩ = some (.int .i64 p))
    (hn : n ≤ 9223372036854775807) (hfit : FitsF n f) (hrow : RowF P w a n f) :
    Calls Tryz.prog 58 #[.pointer (some ⟨b, 0, none⟩), .slice a n cap] w fun e w' => e = .returned (.int .i64 ((tpn p f n : Int) - 1)) ∧ w' = w := by
  have HF := hid hfit
  have HR := hid hrow
  clear hfit hrow
  go_enter Tryz.func58, Tryz.ntmps58
  go_wp2_with fail
  go_loop [5] (fun iv => ∃ k : Nat, k ≤ n ∧ iv = .int .i64 ((k : Int) - 1) ∧ Hid (tpn p f n = tpn p f k)) (fun iv => (intOf iv + 1).toNat)
  case atStart => exact ⟨n, Nat.le_refl _, rfl, rfl⟩
  case round =>
    obtain ⟨k, hk, rfl, hT⟩ := hrel
    cases k with
    | zero =>
      have e0 : Hid ((tpn p f n : Int) - 1 = ((0 : Nat) : Int) - 1) := by unfold Hid; rw [hT.out]; rfl
      go_wp2_with fail
      go_ret
      exact ⟨ret_int (by rw [e0.out]; rfl), rfl⟩
    | succ j =>
      have hj : j < n := by omega
      have e1 : (((j + 1 : Nat) : Int) - 1) = (j : Int) := by omega
      rw [e1]
      have hj0 : (0 : Int) ≤ (j : Int) := by omega
      have hjn : (j : Int) < (n : Int) := by omega
      obtain ⟨bl, ol, rfl, _, hcl⟩ := HR.out j hj
      obtain ⟨hx1, hx2⟩ := HF.out j hj
      have HS : Hid (f j % (p : Int) = 0 → tpn p f (j + 1) = tpn p f j) := fun h => by unfold tpn; rw [Pol.tp, if_pos h]
      have HE : Hid (f j % (p : Int) ≠ 0 → tpn p f (j + 1) = j + 1) := fun h => by unfold tpn; rw [Pol.tp, if_neg h]
      generalize f j = x at *
      clear e1
      go_wp2_with fail
      refine (of_any p b x w h3 hm hp hx1 hx2).mono ?_
      rintro e w1 ⟨rfl, rfl⟩
      by_cases hz : x % (p : Int) = 0
      · have hzb : (x % (p : Int) == 0) = true := by rw [hz]; rfl
        have HS2 := hid (hT.out.trans (HS.out hz))
        clear hz HS HE
        go_wp2_with fail
        go_round
        case rel => exact ⟨j, by omega, rfl, HS2⟩
        case measure => simp [intOf]
      · have hzb : (x % (p : Int) == 0) = false := by rw [beq_eq_false_iff_ne]; exact hz
        have HS2 := hid (hT.out.trans (HE.out hz))
        clear hz HS HE
        go_wp2_with fail
        go_ret
        exact ⟨ret_int (by rw [HS2.out]; omega), rfl⟩

set_option maxHeartbeats 1000000 in
theorem trim_full (p b cap : Nat) (P : Nat → Prop) (a : Option Addr) (zs : List Int) (w : World) (h3 : 3 ≤ p) (hm : p ≤ 2147483647) (hp : w.cell? ⟨b, 0, none⟩ = some (.int .i64 p))
    (hn : zs.length ≤ 35184372088832) (hfit : Fits zs) (hrow : RowP P w a zs) (hP : ∀ k, P k → k < w.heap.size) :
    Calls Tryz.prog 113 #[.pointer (some ⟨b, 0, none⟩), .slice a zs.length cap] w fun e w' => e = .returned (.slice (some ⟨w.heap.size, 0, none⟩) (Pol.trim p zs).length (Pol.trim p zs).length) ∧
      Cells w.heap.size 0 (Pol.trim p zs).length (zat (Pol.trim p zs)) w' ∧ Below w.heap.size w w' ∧ w'.heap.size = w.heap.size + 1 ∧ w'.rowIs w.heap.size 3 (Pol.trim p zs).length (fun j => .int .i64 (zat (Pol.trim p zs) j)) := by
  have hb : b < w.heap.size := by
    rcases Nat.lt_or_ge b w.heap.size with g | g
    · exact g
    · simp [World.cell?, Array.getElem?_eq_none g] at hp
  have hd := hid (deg_any p b zs.length cap P a (zat zs) w h3 hm hp (by omega) hfit hrow)
  have HT : Hid (∀ j, j < (Pol.trim p zs).length → zat (Pol.trim p zs) j = zat zs j % (p : Int)) := fun j hj => by
    rw [Pol.trim, Pol.mk_length] at hj
    exact Pol.mk_at p (Pol.cf zs) zs.length j hj
  have hlen : (Pol.trim p zs).length = tpn p (zat zs) zs.length := Pol.mk_length _ _ _
  have hle := tpn_le p (zat zs) zs.length
  rw [← hlen] at hd hle
  have HF := hid hfit
  have HR := hid hrow
  have HPP := hid hP
  clear hfit hrow hlen hP
  have hmk := fun n h1 h2 w => run_make_row' (P := Tryz.prog) 22 3 (.int .i64 0) 8 Tryz.underlying22 Tryz.infoInt rfl .i64 .i64 n h1 h2 w
  have hmk2 := hmk (Pol.trim p zs).length (by omega) (by omega)
  clear hmk
  generalize (Pol.trim p zs).length = t at *
  generalize Pol.trim p zs = ts at *
  have e1 : (t : Int) - 1 + 1 = (t : Int) := by omega
  go_enter Tryz.func113, Tryz.ntmps113
  go_wp2_with fail
  refine hd.out.mono ?_
  rintro e w1 ⟨rfl, rfl⟩
  go_wp2_with fail
  go_loopw [14] (fun iv wr => ∃ (k : Nat) (o : Nat → Int), k ≤ t ∧ iv = .int .i64 k ∧ Hid (Cells w1.heap.size 0 t o wr) ∧ Hid (∀ j, j < k → o j = zat ts j) ∧ Hid (Below w1.heap.size w1 wr) ∧ wr.heap.size = w1.heap.size + 1 ∧ Hid (wr.rowIs w1.heap.size 3 t (fun j => .int .i64 (o j))))
    (fun iv _ => t - (intOf iv).toNat)
  case atStart =>
    refine ⟨0, fun _ => 0, Nat.zero_le _, rfl, ⟨fun j hj => ?_, fun j hj => ?_⟩, fun j hj => by omega, ?_, by simp, World.rowIs_made _ _ _ _⟩
    · rw [World.cell?_alloc_at _ _ _ _ (by simp)]
      simp [madeCells, hj, Nat.mod_one]
    · simp
    · exact (Below.refl _ _).alloc (Nat.le_refl _) _
  case round =>
    obtain ⟨k, o, hk, rfl, hout, hoj, hbel, hsz, hri⟩ := hrel
    by_cases hlt : k < t
    · have hlt2 : (k : Int) < (t : Int) := by omega
      have hlt3 : (k : Int) < (zs.length : Int) := by omega
      obtain ⟨bl, ol, rfl, hbl, hcl⟩ := HR.out k (by omega)
      have hbl2 := HPP.out _ hbl
      have hcl2 := (hbel.out.cell (p := ⟨bl, ol + k, none⟩) hbl2).trans hcl
      have hok := hout.out.cells k hlt
      have hos := hout.out.soft k hlt
      rw [Nat.zero_add] at hok hos
      have hpc := (hbel.out.cell (p := ⟨b, 0, none⟩) hb).trans hp
      obtain ⟨hx1, hx2⟩ := HF.out k (by omega)
      have HS := hid (HT.out k hlt)
      have HC := hid (hout.out.set (zat zs k % (p : Int)) hlt)
      have HB := hid (hbel.out.setCell (p := ⟨w1.heap.size, 0 + k, none⟩) (by simp) (.int .i64 (zat zs k % (p : Int))))
      have HJ : Hid (∀ j, j < k + 1 → up o k (zat zs k % (p : Int)) j = zat ts j) := fun j hj => by
        unfold up
        by_cases hjk : j = k
        · rw [if_pos hjk, hjk]; exact HS.out.symm
        · rw [if_neg hjk]; exact hoj.out j (by omega)
      have HRI : Hid ((wr.setCell ⟨w1.heap.size, k, none⟩ (.int .i64 (zat zs k % (p : Int)))).rowIs w1.heap.size 3 t (fun j => .int .i64 (up o k (zat zs k % (p : Int)) j))) :=
        (hri.out.set k (.int .i64 (zat zs k % (p : Int)))).congr (fun j _ => by show (if j = k then _ else _) = Value.int .i64 (up o k _ j); unfold up; split <;> rfl)
      rw [Nat.zero_add] at HC HB
      generalize zat zs k = x at *
      clear hcl HS
      go_wp2_with fail
      refine (of_any p b x _ h3 hm hpc hx1 hx2).mono ?_
      rintro e w2 ⟨rfl, rfl⟩
      go_wp2_with fail
      go_roundw
      case rel => exact ⟨k + 1, _, by omega, by go_num, HC, HJ, HB, by simp [World.setCell]; exact hsz, HRI⟩
      case measure => simp [intOf]; omega
    · have hlt2 : ¬ (k : Int) < (t : Int) := by omega
      go_wp2_with fail
      go_ret
      exact ⟨rfl, hout.out.congr (fun j hj => hoj.out j (by omega)), hbel.out, hsz, hri.out.congr (fun j hj => by rw [hoj.out j (by omega)])⟩

end Go.Proofs.YtfppkjpgihnibaaGreatDoor

namespace Go.Proofs.YtfppkjpgihnibaaGreatDoor
open Go.RowKit

theorem ret_slice {a : Option Addr} {n m c : Nat} (h : n = m) : Ending.returned (.slice a n c) = .returned (.slice a m c) := by rw [h]

end Go.Proofs.YtfppkjpgihnibaaGreatDoor

namespace Go.Proofs.YtfppkjpgihnibaaGreatDoor
open Go.RowKit

/-- so many times y added from place i on, the first k places of it -/
def addf (p : Nat) (f y : Nat → Int) (x : Int) (i k : Nat) : Nat → Int := fun j => if i ≤ j ∧ j < i + k then (f j + y (j - i) * x) % (p : Int) else f j

/-! ## Mul -/
theorem trim_fits {p : Nat} (h3 : 3 ≤ p) (hm : p ≤ 2147483647) (zs : List Int) : Fits (Pol.trim p zs) := fun j hj => by
  have := (Pol.trim_can (p := p) (Nat.lt_of_lt_of_le (by decide) h3) zs).elem j hj
  have e : zat (Pol.trim p zs) j = (Pol.trim p zs).getD j 0 := rfl
  omega
theorem can_fits {p : Nat} (hm : p ≤ 2147483647) {zs : List Int} (h : Pol.Can p zs) : Fits zs := fun j hj => by
  have := h.elem j hj
  have e : zat zs j = zs.getD j 0 := rfl
  omega
end Go.Proofs.YtfppkjpgihnibaaGreatDoor

namespace Go.Proofs.YtfppkjpgihnibaaGreatDoor
open Go.RowKit

def psm (p : Nat) (f : Nat → Int) (x : Int) (k : Nat) : Int := Pol.ps f x k % (p : Int)
def pwz (p : Nat) (x : Int) (k : Nat) : Int := x ^ k % (p : Int)
theorem psm_succ (p : Nat) (f : Nat → Int) (x : Int) (k : Nat) : (psm p f x k + f k * pwz p x k % (p : Int)) % (p : Int) = psm p f x (k + 1) := by
  unfold psm pwz
  rw [Pol.ps, Int.mul_emod (f k), Int.emod_emod_of_dvd _ (Int.dvd_refl _), ← Int.mul_emod, Int.add_emod, Int.emod_emod_of_dvd _ (Int.dvd_refl _), Int.emod_emod_of_dvd _ (Int.dvd_refl _), ← Int.add_emod]
theorem pwz_succ (p : Nat) (x : Int) (k : Nat) : pwz p x k * x % (p : Int) = pwz p x (k + 1) := by
  unfold pwz
  rw [Int.pow_succ, Int.mul_emod, Int.emod_emod_of_dvd _ (Int.dvd_refl _), ← Int.mul_emod]

end Go.Proofs.YtfppkjpgihnibaaGreatDoor

namespace Go.Proofs.YtfppkjpgihnibaaGreatDoor
open Go.RowKit

theorem heap_lt {w : World} {b : Nat} {v : Value} (hp : w.cell? ⟨b, 0, none⟩ = some v) : b < w.heap.size := by
  rcases Nat.lt_or_ge b w.heap.size with g | g
  · exact g
  · simp [World.cell?, Array.getElem?_eq_none g] at hp

set_option maxHeartbeats 400000 in
theorem rdeg_any (p n cap : Nat) (P : Nat → Prop) (a : Option Addr) (f : Nat → Int) (w : World) (h3 : 3 ≤ p) (hm : p ≤ 2147483647)
    (hn : n ≤ 9223372036854775807) (hfit : FitsF n f) (hrow : RowF P w a n f) :
    Calls Tryz.prog 62 #[.int .i64 p, .slice a n cap] w fun e w' => e = .returned (.int .i64 ((tpn p f n : Int) - 1)) ∧ w' = w := by
  have HF := hid hfit
  have HR := hid hrow
  clear hfit hrow
  go_enter Tryz.func62, Tryz.ntmps62
  go_wp2_with fail
  go_loop [5] (fun iv => ∃ k : Nat, k ≤ n ∧ iv = .int .i64 ((k : Int) - 1) ∧ Hid (tpn p f n = tpn p f k)) (fun iv => (intOf iv + 1).toNat)
  case atStart => exact ⟨n, Nat.le_refl _, rfl, rfl⟩
  case round =>
    obtain ⟨k, hk, rfl, hT⟩ := hrel
    cases k with
    | zero =>
      have e0 : Hid ((tpn p f n : Int) - 1 = -1) := by unfold Hid; rw [hT.out]; rfl
      go_wp2_with fail
      go_ret
      exact ⟨ret_int e0.out.symm, rfl⟩
    | succ j =>
      have hj : j < n := by omega
      have e1 : (((j + 1 : Nat) : Int) - 1) = (j : Int) := by omega
      rw [e1]
      have hj0 : (0 : Int) ≤ (j : Int) := by omega
      have hjn : (j : Int) < (n : Int) := by omega
      obtain ⟨bl, ol, rfl, _, hcl⟩ := HR.out j hj
      obtain ⟨hx1, hx2⟩ := HF.out j hj
      have HS : Hid (f j % (p : Int) = 0 → tpn p f (j + 1) = tpn p f j) := fun h => by unfold tpn; rw [Pol.tp, if_pos h]
      have HE : Hid (f j % (p : Int) ≠ 0 → tpn p f (j + 1) = j + 1) := fun h => by unfold tpn; rw [Pol.tp, if_neg h]
      generalize f j = x at *
      clear e1
      go_wp2_with fail
      refine (rof_any p x w h3 hm hx1 hx2).mono ?_
      rintro e w1 ⟨rfl, rfl⟩
      by_cases hz : x % (p : Int) = 0
      · have hzb : (x % (p : Int) != 0) = false := by rw [hz]; rfl
        have HS2 := hid (hT.out.trans (HS.out hz))
        clear hz HS HE
        go_wp2_with fail
        go_round
        case rel => exact ⟨j, by omega, rfl, HS2⟩
        case measure => simp [intOf]
      · have hzb : (x % (p : Int) != 0) = true := by rw [bne_iff_ne]; exact hz
        have HS2 := hid (hT.out.trans (HE.out hz))
        clear hz HS HE
        go_wp2_with fail
        go_ret
        exact ⟨ret_int (by rw [HS2.out]; omega), rfl⟩

set_option maxHeartbeats 1000000 in
theorem rall_any (p n cap : Nat) (a : Option Addr) (f : Nat → Int) (w : World) (h3 : 3 ≤ p) (hm : p ≤ 2147483647)
    (hn : n ≤ 17592186044416) (hfit : FitsF n f) (hrow : RowF (· < w.heap.size) w a n f) :
    Calls Tryz.prog 106 #[.int .i64 p, .slice a n cap] w fun e w' => ∃ a' c', e = .returned (.slice a' n c') ∧ Lst w'.heap.size w' a' c' (ls (fun j => f j % (p : Int)) n) ∧ Below w.heap.size w w' := by
  obtain ⟨i0, hi, hz0, hz1, hz2⟩ := info_parts Tryz.infoInt
  have HF := hid hfit
  have HR := hid hrow
  clear hfit hrow
  go_enter Tryz.func106, Tryz.ntmps106
  go_wp2_with fail
  go_loopw [5, 6] (fun v iv wr => ∃ k : Nat, k ≤ n ∧ iv = .int .i64 k ∧ wr.ownsRow w.heap.size 3 1 v (ls (fun j => f j % (p : Int)) k).length ((ls (fun j => f j % (p : Int)) k).map (Value.int .i64)) ∧ Below w.heap.size w wr)
    (fun _ iv _ => n - (intOf iv).toNat)
  case atStart => exact ⟨0, Nat.zero_le _, rfl, World.ownsRow_nil _ _ _ _, Below.refl _ _⟩
  case round =>
    obtain ⟨k, hk, rfl, hown, hbel⟩ := hrel
    have hsz := hbel.size
    by_cases hlt : k < n
    · have hlt2 : (k : Int) < (n : Int) := by omega
      obtain ⟨bl, ol, rfl, hbl, hcl⟩ := HR.out k hlt
      have hcl2 := (hbel.cell (p := ⟨bl, ol + k, none⟩) hbl).trans hcl
      obtain ⟨hx1, hx2⟩ := HF.out k hlt
      have HLS := hid (ls_succ (fun j => f j % (p : Int)) k)
      have HLL := hid (ls_len (fun j => f j % (p : Int)) k)
      generalize f k = x at *
      clear hcl
      go_wp2_with fail
      refine (rof_any p x _ h3 hm hx1 hx2).mono ?_
      rintro e w1 ⟨rfl, rfl⟩
      generalize ls (fun j => f j % (p : Int)) k = lk at *
      go_wp2_with (at_builtin; refine wpList_append_own _ rfl _ _ 22 rfl w.heap.size 3 i0 (.int .i64 0) 1 8 Tryz.underlying22 hi hz0 hz1 hz2 rfl (by decide) _ _ _ rfl (hown.alloc _) ⟨w1.heap.size, 0, none⟩ 1 1 [.int .i64 (x % (p : Int))] rfl rfl ?c1 ?c2 ?c3 ?c4 ?c5 ?_)
      case c1 =>
        intro j u hj
        match j, hj with
        | 0, hj => simp at hj; subst hj; simp [Addr.add]
      case c2 => intro u hu; simp at hu; subst hu; rfl
      case c3 => have := HLL.out; unfold maxLen; omega
      case c4 => have := HLL.out; omega
      case c5 => simp; omega
      intro v' w2 hown2 hgrow _
      have hown3 := owns_succ hown2
      have HB : Hid (Below w.heap.size w w2) := (hbel.alloc hsz _).grown hgrow (by simp; omega) (fun k hk => (hown.lt k hk).1)
      have HO := hid hown3
      clear hown2 hown3 hgrow hown hbel
      go_wp2_with fail
      go_roundw
      case rel => exact ⟨k + 1, by omega, by go_num, by rw [HLS.out]; exact HO.out, HB.out⟩
      case measure => simp [intOf]; omega
    · have hlt2 : ¬ (k : Int) < (n : Int) := by omega
      obtain rfl : k = n := by omega
      obtain ⟨a', c', rfl, hl⟩ := lst_of_owns hown
      have HL := hid hl
      have HLL := hid (ls_len (fun j => f j % (p : Int)) k)
      clear hown hl
      go_wp2_with fail
      go_ret
      exact ⟨a', c', ret_slice HLL.out, HL.out, hbel⟩

theorem rtrim_any (p cap : Nat) (a : Option Addr) (zs : List Int) (w : World) (h3 : 3 ≤ p) (hm : p ≤ 2147483647)
    (hn : zs.length ≤ 17592186044416) (hfit : Fits zs) (hl : Lst w.heap.size w a cap zs) :
    Calls Tryz.prog 97 #[.int .i64 p, .slice a zs.length cap] w fun e w' => ∃ a' c', e = .returned (.slice a' (Pol.trim p zs).length c') ∧ Lst w'.heap.size w' a' c' (Pol.trim p zs) ∧ Below w.heap.size w w' := by
  have HD := hid (rdeg_any p zs.length cap (· < w.heap.size) a (zat zs) w h3 hm (by omega) hfit hl.row)
  have hle := tpn_le p (zat zs) zs.length
  have HA := hid (rall_any p (tpn p (zat zs) zs.length) cap a (zat zs) w h3 hm (by omega) (fun j hj => hfit j (by omega)) (fun j hj => hl.row j (by omega)))
  have HE : Hid (ls (fun j => zat zs j % (p : Int)) (tpn p (zat zs) zs.length) = Pol.trim p zs) := rfl
  have HL : Hid ((Pol.trim p zs).length = tpn p (zat zs) zs.length) := Pol.mk_length _ _ _
  rw [HE.out] at HA
  have hroom := hl.room
  have hnil := hl.nil
  have HN := hid hnil
  clear hfit hl hnil HE
  generalize tpn p (zat zs) zs.length = t at *
  generalize Pol.trim p zs = ts at *
  have e1 : (t : Int) - 1 + 1 = (t : Int) := by omega
  have ht : (t : Int) ≤ (cap : Int) := by omega
  cases a with
  | none =>
    obtain rfl : cap = 0 := HN.out rfl
    obtain rfl : t = 0 := by omega
    go_enter Tryz.func97, Tryz.ntmps97
    go_wp2_with fail
    refine HD.out.mono ?_
    rintro e w1 ⟨rfl, rfl⟩
    go_wp2_with fail
    refine HA.out.mono ?_
    rintro e w1 ⟨a', c', rfl, hl, hb⟩
    have HLL := hid hl
    have HB := hid hb
    clear hl hb
    go_wp2_with fail
    go_ret
    exact ⟨_, _, ret_slice HL.out.symm, HLL.out, HB.out⟩
  | some ad =>
    go_enter Tryz.func97, Tryz.ntmps97
    go_wp2_with fail
    refine HD.out.mono ?_
    rintro e w1 ⟨rfl, rfl⟩
    go_wp2_with fail
    refine HA.out.mono ?_
    rintro e w1 ⟨a', c', rfl, hl, hb⟩
    have HLL := hid hl
    have HB := hid hb
    clear hl hb
    go_wp2_with fail
    go_ret
    exact ⟨_, _, ret_slice HL.out.symm, HLL.out, HB.out⟩

end Go.Proofs.YtfppkjpgihnibaaGreatDoor

namespace Go.Proofs.YtfppkjpgihnibaaGreatDoor
open Go.RowKit

/-- lists that can be read now -/
def Alive (w : World) (L : List (Option Addr × List Int)) : Prop := ∀ e, e ∈ L → RowB w.heap.size w e.1 e.2
theorem Alive.step {w w' : World} {L : List (Option Addr × List Int)} (h : Alive w L) (hb : Below w.heap.size w w') : Alive w' L := fun e he => (RowB.below hb (h e he)).mono hb.size
theorem Alive.nil (w : World) : Alive w [] := fun e he => by cases he
theorem Alive.cons {w : World} {L : List (Option Addr × List Int)} {a : Option Addr} {zs : List Int} (h : Alive w L) (r : RowB w.heap.size w a zs) : Alive w ((a, zs) :: L) := fun e he => by
  cases he with
  | head => exact r
  | tail _ he => exact h e he
theorem Alive.drewN {w : World} {L : List (Option Addr × List Int)} (h : Alive w L) (n : Nat) : Alive (w.drewN n) L := fun e he k hk => by
  obtain ⟨b, o, h1, h2, h3⟩ := h e he k hk
  exact ⟨b, o, h1, h2, h3⟩
theorem Alive.at {w : World} {L : List (Option Addr × List Int)} (h : Alive w L) (i : Nat) {a : Option Addr} {zs : List Int} (e : L[i]? = some (a, zs)) : RowB w.heap.size w a zs := h _ (List.mem_of_getElem? e)
theorem ints_same (n0 n1 : Nat) (zs : List Int) (a b : Option Addr) (ca cb : Nat) (w : World) (ha : RowB n0 w a zs) (hb : RowB n1 w b zs) (hx : zs.length ≤ 9223372036854775807) :
    Calls Tryz.prog 14 #[.slice a zs.length ca, .slice b zs.length cb] w fun e w' => e = .returned (.bool true) ∧ ∃ n, w' = w.drewN n :=
  (ints_any zs zs _ _ w (rowZ_of_B ca ha) (rowZ_of_B cb hb) hx hx).mono fun _ _ h => ⟨by rw [h.1, decide_eq_true rfl], h.2⟩

end Go.Proofs.YtfppkjpgihnibaaGreatDoor

namespace Go.Proofs.YtfppkjpgihnibaaGreatDoor
open Go.RowKit

end Go.Proofs.YtfppkjpgihnibaaGreatDoor
