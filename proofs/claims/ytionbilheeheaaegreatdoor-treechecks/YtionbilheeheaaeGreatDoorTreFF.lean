/- attestref3, the trees: Climb's Up: a row that is shown. -/
import Derived.Test.YtionbilheeheaaeGreatDoorTreF
import Derived.StillTailTactics
namespace Go.Proofs.YtionbilheeheaaeGreatDoor
open Go.RowKit

attribute [local irreducible] wpStill

set_option maxRecDepth 100000 in
set_option maxHeartbeats 4000000 in
theorem rup_leaf (q n : Nat) (h5 : 5 ≤ q) (h4 : q ≤ 2147483647) (hpn : Spo.PowIs q n) (C n0 cp cr cn : Nat) (ap ar an' : Option Addr) (ps : List Int) (rows nodes : List (List Int)) (hps : ps.length ≤ 281474976710656) (hrl : rows.length = ps.length) (_hnl : nodes.length ≤ 281474976710656)
    (hfr : FitsR rows) (hfn : FitsR nodes) (hnC : n0 ≤ C) (first : Int) (cnt t : Nat) (bad : Bool) (w : World) (_hcm : cnt ≤ 65536) (hf0 : 0 ≤ first) (hf1 : first + (cnt : Int) ≤ 1000000000) (_htm : t ≤ 281474976710656)
    (hC : w.rowIs C 81 6 (six (.int .i64 q) (.slice ap ps.length cp) (.slice ar rows.length cr) (.slice an' nodes.length cn) (.int .i64 t) (.bool bad))) (hrp : RowB n0 w ap ps) (hlr : LstR n0 w ar cr rows) (hln : LstR n0 w an' cn nodes)
    (hsm : smb ps first (first + (cnt : Int)) = true) (hone : cnt = 1) :
    Calls Tryz.prog 40 #[.pointer (some ⟨C, 0, none⟩), .int .i64 first, .int .i64 cnt] w (UpD C q (.slice ap ps.length cp) (.slice ar rows.length cr) (.slice an' nodes.length cn) w (digl q n (0 :: rat rows (fx ps first)), t, bad)) := by
    have hmx : Tryz.prog.follows .mixedOrders = true := by kernel_rfl
    have h3 : 3 ≤ q := by omega
    have HPN := hid hpn
    have HFR := hid hfr
    have HFN := hid hfn
    have HRP := hid hrp
    have HLR := hid hlr
    have HLN := hid hln
    have HC := hid hC
    have hCl := hC.lt
    have c0 := hC.cell (i := 0) (by omega)
    have c1 := hC.cell (i := 1) (by omega)
    have c2 := hC.cell (i := 2) (by omega)
    have c3 := hC.cell (i := 3) (by omega)
    have c4 := hC.cell (i := 4) (by omega)
    have c5 := hC.cell (i := 5) (by omega)
    have y4 := hC.frozen 4
    have y5 := hC.frozen 5
    simp only [six] at c0 c1 c2 c3 c4 c5
    have d3 : ∀ d : Nat, ({ w with drawn := d } : World).cell? ⟨C, 3, none⟩ = some (.slice an' nodes.length cn) := fun _ => c3
    have d4 : ∀ d : Nat, ({ w with drawn := d } : World).cell? ⟨C, 4, none⟩ = some (.int .i64 t) := fun _ => c4
    have z4 := fun d : Nat => (show ({ w with drawn := d } : World).rowIs C 81 6 (six (.int .i64 q) (.slice ap ps.length cp) (.slice ar rows.length cr) (.slice an' nodes.length cn) (.int .i64 t) (.bool bad)) from hC).frozen 4
    have hn0 : n0 ≤ w.heap.size := by omega
    have HSM := hid (rsome_any cp ap ps first (first + (cnt : Int)) w hps (hrp.mono hn0))
    have hw1 : IntKind.i64.wrap (first + (cnt : Int)) = first + (cnt : Int) := by rw [IntKind.wrap_i64]; omega
    rw [hsm] at HSM
    have hob : ((cnt : Int) == 1) = true := by rw [hone]; rfl
    have HEX : Hid (∃ j, j < ps.length ∧ zat ps j = first) := by
      obtain ⟨j, h6, h7, h8⟩ := smb_iff.1 hsm
      exact ⟨j, h6, by omega⟩
    clear hsm hone hfr hfn hpn hrp hlr hln hC
    go_enter Tryz.func40, Tryz.ntmps40
    go_wp2_with fail
    refine HSM.out.mono ?_
    rintro e w1 ⟨rfl, rfl⟩
    go_wp2_with fail
    go_loop [9] (fun iv => ∃ i : Nat, i ≤ ps.length ∧ iv = .int .i64 i ∧ Hid (∀ j, j < i → zat ps j ≠ first)) (fun iv => ps.length - (intOf iv).toNat)
    case atStart => exact ⟨0, Nat.zero_le _, rfl, fun j hj => by omega⟩
    case round =>
      obtain ⟨i, hi, rfl, hno⟩ := hrel
      by_cases hlt : i < ps.length
      · have hlt2 : (i : Int) < (ps.length : Int) := by omega
        have hiw : IntKind.i64.wrap ((i : Int) + 1) = (i : Int) + 1 := by rw [IntKind.wrap_i64]; omega
        obtain ⟨b1, o1, rfl, hb1, hc1⟩ := HRP.out i hlt
        by_cases heq : zat ps i = first
        · have HFX := hid (fx_eq hlt heq hno.out)
          have hlr2 : i < rows.length := by rw [hrl]; exact hlt
          obtain ⟨b2, o2, ak, ck, rfl, hb2, hc2, hlk⟩ := HLR.out.row i hlr2
          have hir : (i : Int) < (rows.length : Int) := by omega
          obtain ⟨hfy, hfl⟩ := HFR.out i hlr2
          rw [HFX.out]
          rw [heq] at hc1
          have hb0 : (first == first) = true := by simp
          have HLE := hid (rleaf_any q n ck ak (rat rows i) w1.drew h5 h4 HPN.out hfl hfy ((hlk.below (Below.refl n0 w1).drew).mono hn0))
          clear heq hno HFX hlk hfy HRP HLR HLN HFR HFN HEX
          generalize rat rows i = row at *
          go_wp2_with fail
          go_still_tail 11, hmx
          go_wp2_with fail
          refine HLE.out.mono ?_
          rintro e w3 ⟨g, N, rfl, h6, h7, h8⟩
          have HE : Hid (w1.heap.size ≤ g ∧ LstD w3 g N (digl q n (0 :: row)) ∧ w3.rowIs C 81 6 (six (.int .i64 q) (.slice (some ⟨b1, o1, none⟩) ps.length cp) (.slice (some ⟨b2, o2, none⟩) rows.length cr) (.slice an' nodes.length cn) (.int .i64 t) (.bool bad)) ∧ w1.grownBy w3 (some C)) :=
            ⟨h6, h7, (show w1.drew.rowIs C _ 6 _ from HC.out).of_block (h8.block C hCl), gb_trans (gb_drew (gb_refl C w1)) (gb_below h8)⟩
          clear h6 h7 h8
          go_wp2_with fail
          go_ret
          exact ⟨g, N, rfl, HE.out.1, HE.out.2.1, HE.out.2.2.1, HE.out.2.2.2⟩
        · have HT : Hid (∀ j, j < i + 1 → zat ps j ≠ first) := fun j hj => by
            by_cases e : j = i
            · subst e; exact heq
            · exact hno.out j (by omega)
          have heb : (zat ps i == first) = false := by rw [beq_eq_false_iff_ne]; exact heq
          clear hno heq
          generalize zat ps i = x at *
          go_wp2_with fail
          go_round
          case rel => exact ⟨i + 1, by omega, by go_num, HT⟩
          case measure => simp [intOf]; omega
      · obtain ⟨j, h6, h7⟩ := HEX.out
        exact absurd h7 (hno.out j (by omega))

end Go.Proofs.YtionbilheeheaaeGreatDoor
