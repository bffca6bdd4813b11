/- attestref1.Unlike: whether all of a list are unlike, as elements. -/
import Derived.Test.YthemehdcakimgakDoorPls
import Derived.Deep.QuietTactic
import Derived.BigQuiet
namespace Go.Proofs.YthemehdcakimgakDoor
open Go.RowKit

/-- no two of the first n are the same element -/
def Unl (p : Nat) (f : Nat → Int) (n : Nat) : Prop := ∀ i j, i < j → j < n → f i % (p : Int) ≠ f j % (p : Int)

noncomputable def unlB (p : Nat) (zs : List Int) : Bool := @decide (Unl p (zat zs) zs.length) (Classical.propDecidable _)
theorem unlB_yes {p : Nat} {zs : List Int} (h : Unl p (zat zs) zs.length) : unlB p zs = true := by unfold unlB; exact @decide_eq_true _ (Classical.propDecidable _) h
theorem unlB_no {p : Nat} {zs : List Int} (h : ¬ Unl p (zat zs) zs.length) : unlB p zs = false := by unfold unlB; exact @decide_eq_false _ (Classical.propDecidable _) h

set_option maxHeartbeats 2000000 in
theorem runlike_any (p cap : Nat) (a : Option Addr) (zs : List Int) (w : World) (h3 : 3 ≤ p) (hm : p ≤ 2147483647)
    (hn : zs.length ≤ 17592186044416) (hfit : Fits zs) (hrow : RowB w.heap.size w a zs) :
    Calls Tryd.prog 17 #[.int .i64 p, .slice a zs.length cap] w fun e w' => e = .returned (.bool (unlB p zs)) ∧ Below w.heap.size w w' := by
  have HA := hid (rall_any p zs.length cap a (zat zs) w h3 hm hn hfit hrow)
  have HAT : Hid (∀ j, j < zs.length → zat (ls (fun j => zat zs j % (p : Int)) zs.length) j = zat zs j % (p : Int)) := fun j hj => ls_at _ _ _ hj
  have HLL := hid (ls_len (fun j => zat zs j % (p : Int)) zs.length)
  generalize ls (fun j => zat zs j % (p : Int)) zs.length = ms at *
  clear hfit hrow
  go_enter Tryd.func17, Tryd.ntmps17
  go_wp2_with fail
  refine HA.out.mono ?_
  rintro e w1 ⟨a', c', rfl, hl, hb⟩
  have HL := hid hl
  have HB := hid hb
  clear hl hb HA
  go_wp2_with fail
  go_loopw [6] (fun iv wr => ∃ i n : Nat, i ≤ zs.length ∧ iv = .int .i64 i ∧ Hid (wr = w1.drewN n) ∧ Hid (Unl p (zat zs) i)) (fun iv _ => zs.length - (intOf iv).toNat)
  case atStart => exact ⟨0, 0, Nat.zero_le _, rfl, rfl, fun x y h1 h2 => by omega⟩
  case round =>
    obtain ⟨i, n, hi, rfl, HW, hU⟩ := hrel
    by_cases hlt : i < zs.length
    · have hlt2 : (i : Int) < (zs.length : Int) := by omega
      obtain ⟨bl, ol, rfl, hbl, hcl⟩ := HL.out.row i (by have := HLL.out; omega)
      rw [HAT.out i hlt] at hcl
      have HROW : Hid (∀ j, j < zs.length → w1.cell? ⟨bl, ol + j, none⟩ = some (.int .i64 (zat zs j % (p : Int)))) := fun j hj => by
        obtain ⟨b2, o2, e1, _, e2⟩ := HL.out.row j (by have := HLL.out; omega)
        cases e1
        rw [HAT.out j hj] at e2
        exact e2
      have HCI := hid hcl
      clear hcl
      go_wp2_with fail
      go_loopw [7] (fun kv wq => ∃ k m : Nat, k ≤ i ∧ kv = .int .i64 k ∧ Hid (wq = w1.drewN m) ∧ Hid (∀ x, x < k → zat zs x % (p : Int) ≠ zat zs i % (p : Int))) (fun kv _ => i - (intOf kv).toNat)
      case atStart => exact ⟨0, n, Nat.zero_le _, rfl, HW, fun x hx => by omega⟩
      case round =>
        obtain ⟨k, m, hk, rfl, HV, hK⟩ := hrel
        by_cases hlk : k < i
        · have hlk2 : (k : Int) < (i : Int) := by omega
          have hlk3 : (k : Int) < (zs.length : Int) := by omega
          have hc1 : wr.cell? ⟨bl, ol + i, none⟩ = some (.int .i64 (zat zs i % (p : Int))) := by rw [HV.out]; exact HCI.out
          have hc2 : wr.cell? ⟨bl, ol + k, none⟩ = some (.int .i64 (zat zs k % (p : Int))) := by rw [HV.out]; exact HROW.out k (by omega)
          by_cases he : zat zs i % (p : Int) = zat zs k % (p : Int)
          · have HN : Hid (¬ Unl p (zat zs) zs.length) := fun h => h k i hlk hlt he.symm
            have heb : (zat zs i % (p : Int) == zat zs k % (p : Int)) = true := by rw [beq_iff_eq]; exact he
            clear he
            generalize zat zs i % (p : Int) = x at *
            generalize zat zs k % (p : Int) = y at *
            go_wp2_with fail
            go_quiet (fail)
            go_wp2_with fail
            go_ret
            exact ⟨ret_bool (unlB_no HN.out).symm, by rw [HV.out]; exact below_drewN (below_drewN HB.out _) _⟩
          · have heb : (zat zs i % (p : Int) == zat zs k % (p : Int)) = false := by rw [beq_eq_false_iff_ne]; exact he
            have HK2 : Hid (∀ x, x < k + 1 → zat zs x % (p : Int) ≠ zat zs i % (p : Int)) := fun x hx => by
              by_cases e : x = k
              · subst e; exact fun h => he h.symm
              · exact hK.out x (by omega)
            clear he
            generalize hx : zat zs i % (p : Int) = x at *
            clear hx
            generalize zat zs k % (p : Int) = y at *
            go_wp2_with fail
            go_quiet (fail)
            go_wp2_with fail
            go_roundw
            case rel => exact ⟨k + 1, _, by omega, by go_num, by unfold Hid; rw [HV.out, World.drewN_drewN], HK2⟩
            case measure => simp [intOf]; omega
        · have hlk2 : ¬ (k : Int) < (i : Int) := by omega
          have HU2 : Hid (Unl p (zat zs) (i + 1)) := fun x y h1 h2 => by
            by_cases e : y = i
            · subst e; exact hK.out x (by omega)
            · exact hU.out x y h1 (by omega)
          go_wp2_with fail
          exact ⟨⟨i + 1, m, by omega, by go_num, HV, HU2⟩, by simp [intOf]; omega⟩
    · have hlt2 : ¬ (i : Int) < (zs.length : Int) := by omega
      obtain rfl : i = zs.length := by omega
      go_wp2_with fail
      go_ret
      exact ⟨ret_bool (unlB_yes hU.out).symm, by rw [HW.out]; exact below_drewN HB.out _⟩

end Go.Proofs.YthemehdcakimgakDoor
