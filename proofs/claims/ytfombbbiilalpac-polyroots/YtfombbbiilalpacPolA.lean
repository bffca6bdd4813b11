/- What package poly's Degree, Trim, Add, Sub and their helpers answer, for every list: new lists without zeros at their end; nothing that was there has turned. -/
import Derived.Test.YtfombbbiilalpacPol
import Derived.Test.YtfombbbiilalpacMem
import Derived.Test.YtfombbbiilalpacRef
import Derived.Deep.OwnRows
namespace Go.Proofs.Ytfombbbiilalpac
open Go.RowKit

theorem Try.infoInt : (Try.prog.info? 3).map (fun i => (i.zero, i.size, i.bytes)) = some (some (.int .i64 0), 1, 8) := by kernel_rfl

/-- n numbers that can be read, in a block of which P holds -/
def RowF (P : Nat → Prop) (w : World) (a : Option Addr) (n : Nat) (f : Nat → Int) : Prop :=
  ∀ k, k < n → ∃ b o, a = some ⟨b, o, none⟩ ∧ P b ∧ w.cell? ⟨b, o + k, none⟩ = some (.int .i64 (f k))
def FitsF (n : Nat) (f : Nat → Int) : Prop := ∀ j, j < n → -9223372036854775808 ≤ f j ∧ f j ≤ 9223372036854775807
theorem RowP.f {P : Nat → Prop} {w : World} {a : Option Addr} {zs : List Int} (h : RowP P w a zs) : RowF P w a zs.length (zat zs) := h
theorem RowB.f {n0 : Nat} {w : World} {a : Option Addr} {zs : List Int} (h : RowB n0 w a zs) : RowF (· < n0) w a zs.length (zat zs) := h
theorem Cells.f {g n : Nat} {f : Nat → Int} {w : World} (h : Cells g 0 n f w) : RowF (· = g) w (some ⟨g, 0, none⟩) n f := fun k hk => ⟨g, 0, rfl, rfl, h.cells k hk⟩

/-- how many are left without the zeros at the end -/
def tpn (p : Nat) (f : Nat → Int) (n : Nat) : Nat := Pol.tp p f n
theorem tpn_le (p : Nat) (f : Nat → Int) (n : Nat) : tpn p f n ≤ n := Pol.tp_le p f n

set_option maxHeartbeats 400000 in
theorem deg_any (p b n cap : Nat) (P : Nat → Prop) (a : Option Addr) (f : Nat → Int) (w : World) (h3 : 3 ≤ p) (hm : p ≤ 2147483647) (hp : w.cell? ⟨b, 0, none⟩ = some (.int .i64 p))
    (hn : n ≤ 9223372036854775807) (hfit : FitsF n f) (hrow : RowF P w a n f) :
    Calls Try.prog 7 #[.pointer (some ⟨b, 0, none⟩), .slice a n cap] w fun e w' => e = .returned (.int .i64 ((tpn p f n : Int) - 1)) ∧ w' = w := by
  have HF := hid hfit
  have HR := hid hrow
  clear hfit hrow
  go_enter Try.func7, Try.ntmps7
  go_wp2_with fail
  go_loop [5] (fun iv => ∃ k : Nat, k ≤ n ∧ iv = .int .i64 ((k : Int) - 1) ∧ Hid (tpn p f n = tpn p f k)) (fun iv => (intOf iv + 1).toNat)
  case atStart => exact ⟨n, Nat.le_refl _, rfl, rfl⟩
  case round =>
    obtain ⟨k, hk, rfl, hT⟩ := hrel
    cases k with
    | zero =>
      have e0 : Hid ((tpn p f n : Int) - 1 = ((0 : Nat) : Int) - 1) := by unfold Hid; rw [hT.out]; rfl
      go_wp2_with fail
      go_ret
      exact ⟨ret_int (by rw [e0.out]; rfl), rfl⟩
    | succ j =>
      have hj : j < n := by omega
      have e1 : (((j + 1 : Nat) : Int) - 1) = (j : Int) := by omega
      rw [e1]
      have hj0 : (0 : Int) ≤ (j : Int) := by omega
      have hjn : (j : Int) < (n : Int) := by omega
      obtain ⟨bl, ol, rfl, _, hcl⟩ := HR.out j hj
      obtain ⟨hx1, hx2⟩ := HF.out j hj
      have HS : Hid (f j % (p : Int) = 0 → tpn p f (j + 1) = tpn p f j) := fun h => by unfold tpn; rw [Pol.tp, if_pos h]
      have HE : Hid (f j % (p : Int) ≠ 0 → tpn p f (j + 1) = j + 1) := fun h => by unfold tpn; rw [Pol.tp, if_neg h]
      generalize f j = x at *
      clear e1
      go_wp2_with fail
      refine (of_any p b x w h3 hm hp hx1 hx2).mono ?_
      rintro e w1 ⟨rfl, rfl⟩
      by_cases hz : x % (p : Int) = 0
      · have hzb : (x % (p : Int) == 0) = true := by rw [hz]; rfl
        have HS2 := hid (hT.out.trans (HS.out hz))
        clear hz HS HE
        go_wp2_with fail
        go_round
        case rel => exact ⟨j, by omega, rfl, HS2⟩
        case measure => simp [intOf]
      · have hzb : (x % (p : Int) == 0) = false := by rw [beq_eq_false_iff_ne]; exact hz
        have HS2 := hid (hT.out.trans (HE.out hz))
        clear hz HS HE
        go_wp2_with fail
        go_ret
        exact ⟨ret_int (by rw [HS2.out]; omega), rfl⟩

end Go.Proofs.Ytfombbbiilalpac
