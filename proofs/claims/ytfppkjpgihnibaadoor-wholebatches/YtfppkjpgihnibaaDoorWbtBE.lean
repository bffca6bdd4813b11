/- Package rules: of which rows a rule speaks; whether rows are wide. Package whole: isWide, Batch. What pairs come to, and their products: package rules' product and Same, the reference's Number and Make. slices.Backward over a list of numbers, by its own text: what comes round by round, from the end of the list on. What the field's method Invs answers: a new list, what makes 1 of each number of the given list; nothing that was there has turned. -/
import Derived.Test.YtfppkjpgihnibaaDoorWbtBD
import Derived.Test.YtfppkjpgihnibaaDoorWbtAJ
import Derived.Deep.OwnRows
import Derived.Test.YtfppkjpgihnibaaDoorWbtAH
import Derived.RangeFuncNested
import Derived.RangeFuncBound
import Derived.RangeFuncCalls
import Derived.RangeFuncLeaves
import Derived.RangeFuncBox
import Derived.RangeFuncWrites
import Derived.Shelf.Abstract
import Derived.WalkKit
import Derived.OwnWalkIn
import Derived.TacticsInMore
import Derived.LoopNIn
import Derived.LoopIn
import Derived.Test.YtfppkjpgihnibaaDoorFld
import Derived.Shelf.RegionOpen
import Derived.RegionIn
namespace Go.Proofs.YtfppkjpgihnibaaDoor
open Go.RowKit Go.Maps

/-- is every row so wide? -/
def wdB (m : Nat) (rows : List (List Int)) : Bool := rows.all fun r => r.length == m
theorem wdB_yes {m : Nat} {rows : List (List Int)} (h : ∀ k, k < rows.length → (rat rows k).length = m) : wdB m rows = true := by
  unfold wdB
  rw [List.all_eq_true]
  intro r hr
  obtain ⟨k, hk, rfl⟩ := List.getElem_of_mem hr
  have := h k hk
  simp [rat, hk] at this
  simpa using this
theorem wdB_no {m k : Nat} {rows : List (List Int)} (hk : k < rows.length) (h : (rat rows k).length ≠ m) : wdB m rows = false := by
  unfold wdB
  rw [List.all_eq_false]
  refine ⟨rows[k], List.getElem_mem hk, ?_⟩
  simp [rat, hk] at h
  simpa using h
theorem wdB_at {m : Nat} {rows : List (List Int)} (h : wdB m rows = true) {k : Nat} (hk : k < rows.length) : (rat rows k).length = m := by
  rcases Nat.decEq (rat rows k).length m with e | e
  · rw [wdB_no hk e] at h; cases h
  · exact e
end Go.Proofs.YtfppkjpgihnibaaDoor

namespace Go.Proofs.YtfppkjpgihnibaaDoor
open Go.RowKit Go.Maps

set_option maxRecDepth 100000 in
theorem wnot_any (n cap m B : Nat) (a : Option Addr) (w : World) (h : w.cell? ⟨B, 0, none⟩ = some (.int .i64 (m : Int))) :
    Calls Tryd.prog 35 #[.slice a n cap, .pointer (some ⟨B, 0, none⟩)] w fun e w' => e = .returned (.bool (!((n : Int) == (m : Int)))) ∧ w' = w := by
  go_enter Tryd.func35, Tryd.ntmps35
  go_wp2_with fail
  go_ret
  exact ⟨rfl, rfl⟩

set_option maxRecDepth 100000 in
set_option maxHeartbeats 1000000 in
theorem windex_any (cap m B : Nat) (a : Option Addr) (rows : List (List Int)) (w : World) (h : w.cell? ⟨B, 0, none⟩ = some (.int .i64 (m : Int))) (hlen : rows.length ≤ 281474976710656) (hl : LstR w.heap.size w a cap rows) :
    Calls Tryd.prog 48 #[.slice a rows.length cap, .func (.func 35) #[] #[.pointer (some ⟨B, 0, none⟩)]] w fun e w' => (∃ r : Int, e = .returned (.int .i64 r) ∧ decide (0 ≤ r) = !(wdB m rows)) ∧ w' = w := by
  have hcf := enters_fn Tryd.func35 (by kernel_rfl) (by kernel_rfl)
  have HL := hid hl
  have HE1 : Hid (∀ (k : Nat) (ak : Option Addr) (ck : Nat), Calls Tryd.prog 35 #[.slice ak (rat rows k).length ck, .pointer (some ⟨B, 0, none⟩)] w fun e w' => e = .returned (.bool (!(((rat rows k).length : Int) == (m : Int)))) ∧ w' = w) := fun k ak ck => wnot_any _ ck m B ak w h
  obtain ⟨n, hn⟩ : ∃ n, n = rows.length := ⟨_, rfl⟩
  rw [← hn] at hlen ⊢
  have HN := hid hn
  obtain ⟨R, hR⟩ : ∃ R, R = wdB m rows := ⟨_, rfl⟩
  have HR := hid hR
  rw [← hR]
  clear hl hn hR
  go_enter Tryd.func48, Tryd.ntmps48
  go_wp2_with fail
  go_loop [8] (fun iv => ∃ k : Nat, k ≤ n ∧ iv = .int .i64 k ∧ Hid (∀ j, j < k → (rat rows j).length = m)) (fun iv => n - (intOf iv).toNat)
  case atStart => exact ⟨0, by omega, rfl, fun j hj => by omega⟩
  case round =>
    obtain ⟨k, hk, rfl, hI⟩ := hrel
    by_cases hlt : k < n
    · have hlt2 : (k : Int) < (n : Int) := by omega
      have hks : IntKind.i64.wrap ((k : Int) + 1) = (k : Int) + 1 := by rw [IntKind.wrap_i64]; omega
      obtain ⟨b0, o0, ak, ck, rfl, _, hc, _⟩ := HL.out.row k (by rw [← HN.out]; exact hlt)
      have HX := HE1.out k ak ck
      by_cases hb : (rat rows k).length = m
      · have q : (((rat rows k).length : Int) == (m : Int)) = true := by rw [hb, beq_self_eq_true]
        rw [q] at HX
        have HXX := hid HX
        have HE : Hid (∀ j, j < k + 1 → (rat rows j).length = m) := fun j hj => by
          by_cases e : j = k
          · rw [e]; exact hb
          · exact hI.out j (by omega)
        clear hI HX hb q
        generalize (rat rows k).length = L at *
        go_wp2_with fail
        refine HXX.out.mono ?_
        rintro e w1 ⟨rfl, rfl⟩
        go_wp2_with fail
        go_round
        case rel => exact ⟨k + 1, by omega, by go_num, HE⟩
        case measure => simp [intOf]; omega
      · have q : (((rat rows k).length : Int) == (m : Int)) = false := by rw [beq_eq_false_iff_ne]; omega
        rw [q] at HX
        have HXX := hid HX
        have HE : Hid (R = false) := by unfold Hid; rw [HR.out]; exact wdB_no (by rw [← HN.out]; exact hlt) hb
        clear hI HX hb q
        generalize (rat rows k).length = L at *
        go_wp2_with fail
        refine HXX.out.mono ?_
        rintro e w1 ⟨rfl, rfl⟩
        go_wp2_with fail
        go_ret
        refine ⟨⟨(k : Int), rfl, ?_⟩, rfl⟩
        rw [HE.out]
        simp
    · obtain rfl : k = n := by omega
      have hlt2 : ¬ (k : Int) < (k : Int) := by omega
      have HE : Hid (R = true) := by unfold Hid; rw [HR.out]; exact wdB_yes (fun j hj => hI.out j (by rw [HN.out]; exact hj))
      clear hI
      go_wp2_with fail
      go_ret
      refine ⟨⟨-1, rfl, ?_⟩, rfl⟩
      rw [HE.out]
      simp

set_option maxRecDepth 100000 in
theorem wcontains_any (cap m B : Nat) (a : Option Addr) (rows : List (List Int)) (w : World) (h : w.cell? ⟨B, 0, none⟩ = some (.int .i64 (m : Int))) (hlen : rows.length ≤ 281474976710656) (hl : LstR w.heap.size w a cap rows) :
    Calls Tryd.prog 34 #[.slice a rows.length cap, .func (.func 35) #[] #[.pointer (some ⟨B, 0, none⟩)]] w fun e w' => e = .returned (.bool (!(wdB m rows))) ∧ w' = w := by
  have HI := hid (windex_any cap m B a rows w h hlen hl)
  clear hl h
  generalize wdB m rows = E at *
  generalize rows.length = n at *
  go_enter Tryd.func34, Tryd.ntmps34
  go_wp2_with fail
  refine HI.out.mono ?_
  rintro e w1 ⟨⟨r, rfl, hr⟩, rfl⟩
  have HRR := hid hr
  clear hr HI
  go_wp2_with fail
  go_ret
  exact ⟨by rw [← HRR.out]; rfl, rfl⟩

set_option maxRecDepth 100000 in
set_option maxHeartbeats 1000000 in
theorem wisWide_any (cap m : Nat) (a : Option Addr) (rows : List (List Int)) (w : World) (hlen : rows.length ≤ 281474976710656) (hl : LstR w.heap.size w a cap rows) :
    Calls Tryd.prog 20 #[.slice a rows.length cap, .int .i64 (m : Int)] w fun e w' => e = .returned (.bool (wdB m rows)) ∧ Below w.heap.size w w' := by
  obtain ⟨W0, hW0⟩ : ∃ W0, W0 = w.alloc (.cells #[.int .i64 (m : Int)] 3) := ⟨_, rfl⟩
  have hb0 : Below w.heap.size w W0 := by rw [hW0]; exact (Below.refl _ _).alloc (Nat.le_refl _) _
  have hs0 : W0.heap[w.heap.size]? = some (.cells #[.int .i64 (m : Int)] 3 (0, 0)) := by rw [hW0]; exact heap_alloc_new w _
  have HC := hid (wcontains_any cap m w.heap.size a rows W0 (by simp [World.cell?, hs0]) hlen ((hl.below hb0).mono hb0.size))
  have HB0 := hid hb0
  clear hl hb0 hs0
  generalize wdB m rows = E at *
  generalize rows.length = n at *
  go_enter Tryd.func20, Tryd.ntmps20
  go_wp2_with fail
  rw [← hW0]
  clear hW0
  refine HC.out.mono ?_
  rintro e w1 ⟨rfl, hw⟩
  have hw1 := hw.symm
  subst hw1
  go_wp2_with fail
  go_ret
  exact ⟨by first | rfl | simp, HB0.out⟩

end Go.Proofs.YtfppkjpgihnibaaDoor

namespace Go.Proofs.YtfppkjpgihnibaaDoor
open Go.RowKit

end Go.Proofs.YtfppkjpgihnibaaDoor

namespace Go.Proofs.YtfppkjpgihnibaaDoor
open Go.RowKit Go.Shelf

attribute [local go_sem] Oper.semAt_some

/-- what has come when k rounds are over -/
def upto {α : Type} (f : Nat → α) (k : Nat) : List α := (List.range k).map f
/-- what a round keeps: all below n0, and the box of the list -/
def KeepsB (n0 Bs : Nat) (A B : World) : Prop := Below n0 A B ∧ B.cell? ⟨Bs, 0, none⟩ = A.cell? ⟨Bs, 0, none⟩
theorem KeepsB.refl (n0 Bs : Nat) (A : World) : KeepsB n0 Bs A A := ⟨Below.refl _ _, rfl⟩
theorem KeepsB.trans {n0 Bs : Nat} {A B C : World} (h : KeepsB n0 Bs A B) (k : KeepsB n0 Bs B C) : KeepsB n0 Bs A C := ⟨h.1.trans k.1, k.2.trans h.2⟩

end Go.Proofs.YtfppkjpgihnibaaDoor

namespace Go.Proofs.YtfppkjpgihnibaaDoor
open Go.RowKit Go.Shelf

attribute [local go_sem] Oper.semAt_some

/-- the product of all of a list that are not 0, as elements -/
def prz (p : Nat) (l : List Int) : Nat := l.foldl (fun acc z => if z % (p : Int) = 0 then acc else acc * el p z % p) 1

theorem prz_snoc (p : Nat) (l : List Int) (z : Int) : prz p (l ++ [z]) = if z % (p : Int) = 0 then prz p l else prz p l * el p z % p := by simp [prz]

theorem el_pos {p : Nat} {z : Int} (h3 : 3 ≤ p) (h : z % (p : Int) ≠ 0) : 0 < el p z := by
  have := (emod_bounds z p h3).1; unfold el; omega

/-- the product of those ahead of a place -/
def pk (p : Nat) (zs : List Int) (k : Nat) : Nat := prz p (zs.take k)

theorem pk_succ (p : Nat) (zs : List Int) (k : Nat) (h : k < zs.length) : pk p zs (k + 1) = if zat zs k % (p : Int) = 0 then pk p zs k else pk p zs k * el p (zat zs k) % p := by
  unfold pk
  rw [List.take_succ_eq_append_getElem h, prz_snoc]; simp [h, zat]

theorem inv_one {p : Nat} (hp : Num.Prime p) (h3 : 3 ≤ p) {z : Int} (h : z % (p : Int) ≠ 0) : invn p z * el p z % p = 1 := by
  have h1 := el_pos h3 h
  have h2 := el_lt p z h3
  unfold invn
  have : el p z = Num.pwm p (el p z) 1 := (Num.pwm_one p _ h2).symm
  rw [show Num.pwm p (el p z) (p - 2) * el p z = Num.pwm p (el p z) (p - 2) * Num.pwm p (el p z) 1 from by rw [← this], Num.pwm_add, show p - 2 + 1 = p - 1 from by omega]
  exact Num.pwm_fermat hp h1 h2

theorem inv_zero {p : Nat} (h3 : 3 ≤ p) {z : Int} (h : z % (p : Int) = 0) : invn p z = 0 := by
  have he : el p z = 0 := by unfold el; rw [h]; rfl
  unfold invn; rw [he, pwm_zero_left p _ (by omega)]

/-- what makes 1 of an element is one alone -/
theorem inv_unique {p x y e : Nat} (hp : Num.Prime p) (hx : x < p) (hy : y < p) (he : ¬ p ∣ e) (h1 : x * e % p = 1) (h2 : y * e % p = 1) : x = y := by
  have : e * x % p = e * y % p := by rw [Nat.mul_comm, h1, Nat.mul_comm, h2]
  have := Num.cancel hp he this
  rwa [Nat.mod_eq_of_lt hx, Nat.mod_eq_of_lt hy] at this

/-- what is known of the new list and of the inverse while the last n - i are done -/
structure IG (p : Nat) (zs : List Int) (i : Nat) (o : Nat → Nat) (v : Nat) : Prop where
  ahead : ∀ j, j < i → o j = pk p zs j
  behind : ∀ j, i ≤ j → j < zs.length → o j = invn p (zat zs j)
  one : v * pk p zs i % p = 1

/-- one place turned -/
def updI (o : Nat → Nat) (i x : Nat) : Nat → Nat := fun j => if j = i then x else o j

theorem IG.skip {p : Nat} {zs : List Int} {i : Nat} {o : Nat → Nat} {v : Nat} (h3 : 3 ≤ p) (h : IG p zs (i + 1) o v) (hi : i < zs.length) (hz : zat zs i % (p : Int) = 0) : IG p zs i (updI o i 0) v := by
  have e := pk_succ p zs i hi
  rw [if_pos hz] at e
  refine ⟨fun j hj => ?_, fun j h1 h2 => ?_, by rw [← e]; exact h.one⟩
  · unfold updI; rw [if_neg (by omega)]; exact h.ahead j (by omega)
  · unfold updI
    by_cases hji : j = i
    · rw [if_pos hji, hji]; exact (inv_zero h3 hz).symm
    · rw [if_neg hji]; exact h.behind j (by omega) h2

theorem IG.take {p : Nat} {zs : List Int} {i : Nat} {o : Nat → Nat} {v : Nat} (hp : Num.Prime p) (h3 : 3 ≤ p) (h : IG p zs (i + 1) o v) (hi : i < zs.length) (hz : zat zs i % (p : Int) ≠ 0) :
    IG p zs i (updI o i (o i * v % p)) (v * el p (zat zs i) % p) := by
  have e := pk_succ p zs i hi
  rw [if_neg hz] at e
  have hone := h.one
  rw [e] at hone
  have hoi := h.ahead i (by omega)
  refine ⟨fun j hj => ?_, fun j h1 h2 => ?_, ?_⟩
  · unfold updI; rw [if_neg (by omega)]; exact h.ahead j (by omega)
  · unfold updI
    by_cases hji : j = i
    · rw [if_pos hji, hji]
      refine inv_unique hp (Nat.mod_lt _ (by omega)) (invn_lt p _ h3) (Num.not_dvd_lt (el_pos h3 hz) (el_lt p _ h3)) ?_ (inv_one hp h3 hz)
      rw [hoi, Nat.mod_mul_mod, show pk p zs i * v * el p (zat zs i) = v * (pk p zs i * el p (zat zs i)) from by grind, ← Nat.mul_mod_mod]
      exact hone
    · rw [if_neg hji]; exact h.behind j (by omega) h2
  · rw [Nat.mod_mul_mod, show v * el p (zat zs i) * pk p zs i = v * (pk p zs i * el p (zat zs i)) from by grind, ← Nat.mul_mod_mod]
    exact hone

end Go.Proofs.YtfppkjpgihnibaaDoor
