/- attestref5.Row; attestsame.Openings. -/
import Derived.Test.YtionbilheeheaafTres
import Derived.Test.YtionbilheeheaafPls
import Derived.StillTailTactics
namespace Go.Proofs.Ytionbilheeheaaf
open Go.RowKit

set_option maxRecDepth 100000 in
set_option maxHeartbeats 4000000 in
theorem rrow_any (cp cr : Nat) (ap ar : Option Addr) (ps : List Int) (rows : List (List Int)) (vn : Value) (place : Int) (w : World) (hps : ps.length ≤ 281474976710656) (hrl : rows.length = ps.length) (hrp : RowB w.heap.size w ap ps) (hlr : LstR w.heap.size w ar cr rows) (hex : ∃ j, j < ps.length ∧ zat ps j = place) :
    Calls Try.prog 11 #[.agg #[.slice ap ps.length cp, .slice ar rows.length cr, vn], .int .i64 place] w fun e w' => ∃ a c, e = .returned (.slice a (rat rows (fx ps place)).length c) ∧ Lst w.heap.size w a c (rat rows (fx ps place)) ∧ fx ps place < ps.length ∧ zat ps (fx ps place) = place ∧ Below w.heap.size w w' := by
  have HRP := hid hrp
  have HLR := hid hlr
  have HEX := hid hex
  have HRL := hid hrl
  clear hrp hlr hex hrl
  go_enter Try.func11, Try.ntmps11
  go_wp2_with fail
  have d0 : (w.alloc (.cells #[.slice ap ps.length cp, .slice ar rows.length cr, vn] 32)).cell? ⟨w.heap.size, 0, none⟩ = some (.slice ap ps.length cp) := by simp
  have d1 : (w.alloc (.cells #[.slice ap ps.length cp, .slice ar rows.length cr, vn] 32)).cell? ⟨w.heap.size, 1, none⟩ = some (.slice ar rows.length cr) := by simp
  have HB0 : Hid (Below w.heap.size w (w.alloc (.cells #[.slice ap ps.length cp, .slice ar rows.length cr, vn] 32))) := (Below.refl _ _).alloc (Nat.le_refl _) _
  generalize w.alloc (.cells #[.slice ap ps.length cp, .slice ar rows.length cr, vn] 32) = W0 at *
  go_loop [5] (fun iv => ∃ i : Nat, i ≤ ps.length ∧ iv = .int .i64 i ∧ Hid (∀ j, j < i → zat ps j ≠ place)) (fun iv => ps.length - (intOf iv).toNat)
  case atStart => exact ⟨0, Nat.zero_le _, rfl, fun j hj => by omega⟩
  case round =>
    obtain ⟨i, hi, rfl, hno⟩ := hrel
    by_cases hlt : i < ps.length
    · have hlt2 : (i : Int) < (ps.length : Int) := by omega
      have hiw : IntKind.i64.wrap ((i : Int) + 1) = (i : Int) + 1 := by rw [IntKind.wrap_i64]; omega
      obtain ⟨b1, o1, rfl, hb1, hc1⟩ := HRP.out i hlt
      have hc1' := (HB0.out.cell (p := ⟨b1, o1 + i, none⟩) hb1).trans hc1
      by_cases heq : zat ps i = place
      · have HFX := hid (fx_eq hlt heq hno.out)
        have hlr2 : i < rows.length := by rw [HRL.out]; exact hlt
        obtain ⟨b2, o2, ak, ck, rfl, hb2, hc2, hlk⟩ := HLR.out.row i hlr2
        have hc2' := (HB0.out.cell (p := ⟨b2, o2 + i, none⟩) hb2).trans hc2
        have hir : (i : Int) < (rows.length : Int) := by omega
        rw [heq] at hc1'
        have hb0 : (place == place) = true := by simp
        have HE : Hid (Lst w.heap.size w ak ck (rat rows (fx ps place)) ∧ fx ps place < ps.length ∧ zat ps (fx ps place) = place) := by
          unfold Hid
          rw [HFX.out]
          exact ⟨hlk, hlt, heq⟩
        have HEL : Hid (rat rows (fx ps place) = rat rows i) := by unfold Hid; rw [HFX.out]
        clear heq hno HFX hlk HRP HLR HEX hc1 hc2 HRL
        go_wp2_with fail
        go_ret
        refine ⟨ak, ck, ?_, HE.out.1, HE.out.2.1, HE.out.2.2, HB0.out⟩
        rw [HEL.out]
        rfl
      · have HT : Hid (∀ j, j < i + 1 → zat ps j ≠ place) := fun j hj => by
          by_cases e : j = i
          · subst e; exact heq
          · exact hno.out j (by omega)
        have heb : (zat ps i == place) = false := by rw [beq_eq_false_iff_ne]; exact heq
        clear hno heq hc1
        generalize zat ps i = x at *
        go_wp2_with fail
        go_round
        case rel => exact ⟨i + 1, by omega, by go_num, HT⟩
        case measure => simp [intOf]; omega
    · obtain ⟨j, h6, h7⟩ := HEX.out
      exact absurd h7 (hno.out j (by omega))

end Go.Proofs.Ytionbilheeheaaf
