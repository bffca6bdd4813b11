/- Package pledge: areWide, column, powers, across, Mix. Plain facts on mending a word: lists of places; what is 0 at given points alone; the polynomial that a word is of, but for few places, is what the division gives. Package code: a domain as it lies still; mayBound, Encode. -/
import Derived.Test.YtmmlphdekeflfaaGreatDoorPgA
import Derived.Test.YtmmlphdekeflfaaGreatDoorSpgs
import Derived.Test.YtmmlphdekeflfaaGreatDoorPls
import Derived.StillTailTactics
import Derived.Test.YtmmlphdekeflfaaGreatDoorPlain
import Derived.Test.YtmmlphdekeflfaaGreatDoorPcAA
import Derived.Test.YtmmlphdekeflfaaGreatDoorDoms
import Derived.Test.YtmmlphdekeflfaaGreatDoorPcAB
namespace Go.Proofs.YtmmlphdekeflfaaGreatDoor
open Go.RowKit

/-- are all rows so wide? -/
def wiB (m : Nat) (rows : List (List Int)) : Bool := rows.all fun r => r.length == m
theorem wiB_yes {m : Nat} {rows : List (List Int)} (h : ∀ k, k < rows.length → (rat rows k).length = m) : wiB m rows = true := by
  unfold wiB
  rw [List.all_eq_true]
  intro r hr
  obtain ⟨k, hk, rfl⟩ := List.mem_iff_getElem.1 hr
  have := h k hk
  simp [rat, hk] at this
  simp [this]
theorem wiB_at {m : Nat} {rows : List (List Int)} (h : wiB m rows = true) {k : Nat} (hk : k < rows.length) : (rat rows k).length = m := by
  unfold wiB at h
  rw [List.all_eq_true] at h
  have := h rows[k] (List.getElem_mem hk)
  simp at this
  simp [rat, hk, this]
theorem wiB_no {m k : Nat} {rows : List (List Int)} (hk : k < rows.length) (h : (rat rows k).length ≠ m) : wiB m rows = false := by
  cases e : wiB m rows with
  | false => rfl
  | true => exact absurd (wiB_at e hk) h

set_option maxRecDepth 100000 in
theorem anot_any (n cap m B : Nat) (a : Option Addr) (w : World) (h : w.cell? ⟨B, 0, none⟩ = some (.int .i64 (m : Int))) :
    Calls Tryz.prog 89 #[.slice a n cap, .pointer (some ⟨B, 0, none⟩)] w fun e w' => e = .returned (.bool (!((n : Int) == (m : Int)))) ∧ w' = w := by
  go_enter Tryz.func89, Tryz.ntmps89
  go_wp2_with fail
  go_ret
  exact ⟨rfl, rfl⟩

set_option maxRecDepth 100000 in
set_option maxHeartbeats 1000000 in
theorem aindex_any (cap m B : Nat) (a : Option Addr) (rows : List (List Int)) (w : World) (h : w.cell? ⟨B, 0, none⟩ = some (.int .i64 (m : Int))) (hlen : rows.length ≤ 281474976710656) (hl : LstR w.heap.size w a cap rows) :
    Calls Tryz.prog 158 #[.slice a rows.length cap, .func (.func 89) #[] #[.pointer (some ⟨B, 0, none⟩)]] w fun e w' => (∃ r : Int, e = .returned (.int .i64 r) ∧ decide (0 ≤ r) = !(wiB m rows)) ∧ w' = w := by
  have hcf := enters_of Tryz.func89 (by kernel_rfl) (by kernel_rfl)
  have HL := hid hl
  have HE1 : Hid (∀ (k : Nat) (ak : Option Addr) (ck : Nat), Calls Tryz.prog 89 #[.slice ak (rat rows k).length ck, .pointer (some ⟨B, 0, none⟩)] w fun e w' => e = .returned (.bool (!(((rat rows k).length : Int) == (m : Int)))) ∧ w' = w) := fun k ak ck => anot_any _ ck m B ak w h
  obtain ⟨n, hn⟩ : ∃ n, n = rows.length := ⟨_, rfl⟩
  rw [← hn] at hlen ⊢
  have HN := hid hn
  obtain ⟨R, hR⟩ : ∃ R, R = wiB m rows := ⟨_, rfl⟩
  have HR := hid hR
  rw [← hR]
  clear hl hn hR
  go_enter Tryz.func158, Tryz.ntmps158
  go_wp2_with fail
  go_loop [8] (fun iv => ∃ k : Nat, k ≤ n ∧ iv = .int .i64 k ∧ Hid (∀ j, j < k → (rat rows j).length = m)) (fun iv => n - (intOf iv).toNat)
  case atStart => exact ⟨0, by omega, rfl, fun j hj => by omega⟩
  case round =>
    obtain ⟨k, hk, rfl, hI⟩ := hrel
    by_cases hlt : k < n
    · have hlt2 : (k : Int) < (n : Int) := by omega
      have hks : IntKind.i64.wrap ((k : Int) + 1) = (k : Int) + 1 := by rw [IntKind.wrap_i64]; omega
      obtain ⟨b0, o0, ak, ck, rfl, _, hc, _⟩ := HL.out.row k (by rw [← HN.out]; exact hlt)
      have HX := HE1.out k ak ck
      by_cases hb : (rat rows k).length = m
      · have q : (((rat rows k).length : Int) == (m : Int)) = true := by rw [hb, beq_self_eq_true]
        rw [q] at HX
        have HXX := hid HX
        have HE : Hid (∀ j, j < k + 1 → (rat rows j).length = m) := fun j hj => by
          by_cases e : j = k
          · rw [e]; exact hb
          · exact hI.out j (by omega)
        clear hI HX hb q
        generalize (rat rows k).length = L at *
        go_wp2_with fail
        refine HXX.out.mono ?_
        rintro e w1 ⟨rfl, rfl⟩
        go_wp2_with fail
        go_round
        case rel => exact ⟨k + 1, by omega, by go_num, HE⟩
        case measure => simp [intOf]; omega
      · have q : (((rat rows k).length : Int) == (m : Int)) = false := by rw [beq_eq_false_iff_ne]; omega
        rw [q] at HX
        have HXX := hid HX
        have HE : Hid (R = false) := by unfold Hid; rw [HR.out]; exact wiB_no (by rw [← HN.out]; exact hlt) hb
        clear hI HX hb q
        generalize (rat rows k).length = L at *
        go_wp2_with fail
        refine HXX.out.mono ?_
        rintro e w1 ⟨rfl, rfl⟩
        go_wp2_with fail
        go_ret
        refine ⟨⟨(k : Int), rfl, ?_⟩, rfl⟩
        rw [HE.out]
        simp
    · obtain rfl : k = n := by omega
      have hlt2 : ¬ (k : Int) < (k : Int) := by omega
      have HE : Hid (R = true) := by unfold Hid; rw [HR.out]; exact wiB_yes (fun j hj => hI.out j (by rw [HN.out]; exact hj))
      clear hI
      go_wp2_with fail
      go_ret
      refine ⟨⟨-1, rfl, ?_⟩, rfl⟩
      rw [HE.out]
      simp

set_option maxRecDepth 100000 in
theorem acontains_any (cap m B : Nat) (a : Option Addr) (rows : List (List Int)) (w : World) (h : w.cell? ⟨B, 0, none⟩ = some (.int .i64 (m : Int))) (hlen : rows.length ≤ 281474976710656) (hl : LstR w.heap.size w a cap rows) :
    Calls Tryz.prog 88 #[.slice a rows.length cap, .func (.func 89) #[] #[.pointer (some ⟨B, 0, none⟩)]] w fun e w' => e = .returned (.bool (!(wiB m rows))) ∧ w' = w := by
  have HI := hid (aindex_any cap m B a rows w h hlen hl)
  clear hl h
  generalize wiB m rows = E at *
  generalize rows.length = n at *
  go_enter Tryz.func88, Tryz.ntmps88
  go_wp2_with fail
  refine HI.out.mono ?_
  rintro e w1 ⟨⟨r, rfl, hr⟩, rfl⟩
  have HRR := hid hr
  clear hr HI
  go_wp2_with fail
  go_ret
  exact ⟨by rw [← HRR.out]; rfl, rfl⟩

set_option maxRecDepth 100000 in
set_option maxHeartbeats 1000000 in
theorem areWide_any (cap m : Nat) (a : Option Addr) (rows : List (List Int)) (w : World) (hlen : rows.length ≤ 281474976710656) (hl : LstR w.heap.size w a cap rows) :
    Calls Tryz.prog 34 #[.slice a rows.length cap, .int .i64 (m : Int)] w fun e w' => e = .returned (.bool (wiB m rows)) ∧ Below w.heap.size w w' := by
  obtain ⟨W0, hW0⟩ : ∃ W0, W0 = w.alloc (.cells #[.int .i64 (m : Int)] 3) := ⟨_, rfl⟩
  have hb0 : Below w.heap.size w W0 := by rw [hW0]; exact (Below.refl _ _).alloc (Nat.le_refl _) _
  have hs0 : W0.heap[w.heap.size]? = some (.cells #[.int .i64 (m : Int)] 3 (0, 0)) := by rw [hW0]; exact heap_alloc_new w _
  have HC := hid (acontains_any cap m w.heap.size a rows W0 (by simp [World.cell?, hs0]) hlen ((hl.below hb0).mono hb0.size))
  have HB0 := hid hb0
  clear hl hb0 hs0
  generalize wiB m rows = E at *
  generalize rows.length = n at *
  go_enter Tryz.func34, Tryz.ntmps34
  go_wp2_with fail
  rw [← hW0]
  clear hW0
  refine HC.out.mono ?_
  rintro e w1 ⟨rfl, hw⟩
  have hw1 := hw.symm
  subst hw1
  go_wp2_with fail
  go_ret
  exact ⟨by first | rfl | simp, HB0.out⟩

end Go.Proofs.YtmmlphdekeflfaaGreatDoor

namespace Go.Proofs.YtmmlphdekeflfaaGreatDoor
open Go.RowKit Pol

/-- of the first n places those of which P holds, each as F tells it -/
def pk (P : Nat → Bool) (F : Nat → Int) : Nat → List Int
  | 0 => []
  | n + 1 => if P n then pk P F n ++ [F n] else pk P F n

/-! ## 0 at given points alone -/
/-! ## the way back to the polynomial -/
end Go.Proofs.YtmmlphdekeflfaaGreatDoor

namespace Go.Proofs.YtmmlphdekeflfaaGreatDoor
open Go.RowKit

/-- a domain that was made, as it lies in a world -/
structure DO (w : World) (p b d n : Nat) (r s : Int) : Prop where
  pr : Num.Prime p
  h3 : 3 ≤ p
  hm : p ≤ 2147483647
  hp : w.cell? ⟨b, 0, none⟩ = some (.int .i64 p)
  da : DomAt w d b n r s
  hk : ∃ k, k ≤ 16 ∧ n = 2 ^ k
  hr0 : 0 ≤ r
  hr1 : r < p
  ord : Dom.Ord p r n
  hs0 : 0 ≤ s
  hs1 : s < p
  hsd : ¬ (p : Int) ∣ s

theorem DO.below {w w' : World} {p b d n n0 : Nat} {r s : Int} (h : DO w p b d n r s) (e : Below n0 w w') (hb : b < n0) (hd : d < n0) : DO w' p b d n r s :=
  ⟨h.pr, h.h3, h.hm, (e.cell (p := ⟨b, 0, none⟩) hb).trans h.hp, h.da.below e hd, h.hk, h.hr0, h.hr1, h.ord, h.hs0, h.hs1, h.hsd⟩
theorem DO.blt {w : World} {p b d n : Nat} {r s : Int} (h : DO w p b d n r s) : b < w.heap.size := heap_lt h.hp
theorem DO.dlt {w : World} {p b d n : Nat} {r s : Int} (h : DO w p b d n r s) : d < w.heap.size := h.da.lt
theorem DO.step {w w' : World} {p b d n : Nat} {r s : Int} (h : DO w p b d n r s) (e : Below w.heap.size w w') : DO w' p b d n r s := h.below e h.blt h.dlt
theorem DO.pos {w : World} {p b d n : Nat} {r s : Int} (h : DO w p b d n r s) : 0 < n ∧ n ≤ 65536 := by
  obtain ⟨k, h1, h2⟩ := h.hk
  have := two_pow_le h1
  have : 0 < 2 ^ k := Nat.pow_pos (by decide)
  omega
/-- the polynomial that has these values -/
def bk (p n : Nat) (r s : Int) (zs : List Int) : List Int := Pol.trim p (ls (coefs p zs n (invn p r) (invn p n) (invn p s)) n)
end Go.Proofs.YtmmlphdekeflfaaGreatDoor
