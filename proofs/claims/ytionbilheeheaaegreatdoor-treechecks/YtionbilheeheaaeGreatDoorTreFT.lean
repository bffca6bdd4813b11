/- attestref3, the trees: Climb's Up: a node is taken. -/
import Derived.Test.YtionbilheeheaaeGreatDoorTreF
import Derived.StillTailTactics
namespace Go.Proofs.YtionbilheeheaaeGreatDoor
open Go.RowKit

attribute [local irreducible] wpStill

set_option maxRecDepth 100000 in
set_option maxHeartbeats 4000000 in
theorem rup_take (q n : Nat) (h5 : 5 ≤ q) (h4 : q ≤ 2147483647) (hpn : Spo.PowIs q n) (C n0 cp cr cn : Nat) (ap ar an' : Option Addr) (ps : List Int) (rows nodes : List (List Int)) (hps : ps.length ≤ 281474976710656) (hrl : rows.length = ps.length) (_hnl : nodes.length ≤ 281474976710656)
    (hfr : FitsR rows) (hfn : FitsR nodes) (hnC : n0 ≤ C) (first : Int) (cnt t : Nat) (bad : Bool) (w : World) (hcm : cnt ≤ 65536) (hf0 : 0 ≤ first) (hf1 : first + (cnt : Int) ≤ 1000000000) (_htm : t ≤ 281474976710656)
    (hC : w.rowIs C 81 6 (six (.int .i64 q) (.slice ap ps.length cp) (.slice ar rows.length cr) (.slice an' nodes.length cn) (.int .i64 t) (.bool bad))) (hrp : RowB n0 w ap ps) (hlr : LstR n0 w ar cr rows) (hln : LstR n0 w an' cn nodes)
    (hsm : smb ps first (first + (cnt : Int)) = false) (htl : t < nodes.length) (h44 : (rat nodes t).length = 4) :
    Calls Tryz.prog 40 #[.pointer (some ⟨C, 0, none⟩), .int .i64 first, .int .i64 cnt] w (UpD C q (.slice ap ps.length cp) (.slice ar rows.length cr) (.slice an' nodes.length cn) w (elr q (rat nodes t), t + 1, bad)) := by
    have hmx : Tryz.prog.follows .mixedOrders = true := by kernel_rfl
    have h3 : 3 ≤ q := by omega
    have HPN := hid hpn
    have HFR := hid hfr
    have HFN := hid hfn
    have HRP := hid hrp
    have HLR := hid hlr
    have HLN := hid hln
    have HC := hid hC
    have hCl := hC.lt
    have c0 := hC.cell (i := 0) (by omega)
    have c1 := hC.cell (i := 1) (by omega)
    have c2 := hC.cell (i := 2) (by omega)
    have c3 := hC.cell (i := 3) (by omega)
    have c4 := hC.cell (i := 4) (by omega)
    have c5 := hC.cell (i := 5) (by omega)
    have y4 := hC.frozen 4
    have y5 := hC.frozen 5
    simp only [six] at c0 c1 c2 c3 c4 c5
    have d3 : ∀ d : Nat, ({ w with drawn := d } : World).cell? ⟨C, 3, none⟩ = some (.slice an' nodes.length cn) := fun _ => c3
    have d4 : ∀ d : Nat, ({ w with drawn := d } : World).cell? ⟨C, 4, none⟩ = some (.int .i64 t) := fun _ => c4
    have z4 := fun d : Nat => (show ({ w with drawn := d } : World).rowIs C 81 6 (six (.int .i64 q) (.slice ap ps.length cp) (.slice ar rows.length cr) (.slice an' nodes.length cn) (.int .i64 t) (.bool bad)) from hC).frozen 4
    have hn0 : n0 ≤ w.heap.size := by omega
    have HSM := hid (rsome_any cp ap ps first (first + (cnt : Int)) w hps (hrp.mono hn0))
    have hw1 : IntKind.i64.wrap (first + (cnt : Int)) = first + (cnt : Int) := by rw [IntKind.wrap_i64]; omega
    rw [hsm] at HSM
    have htl2 : (t : Int) < (nodes.length : Int) := by omega
    have hgb : decide (nodes.length ≤ t) = false := decide_eq_false (by omega)
    obtain ⟨b1, o1, ak, ck, rfl, hb1, hc1, hlk⟩ := hln.row t htl
    obtain ⟨hfy, hfl⟩ := HFN.out t htl
    rw [h44] at hc1
    have e1 : ∀ d : Nat, ({ w with drawn := d } : World).cell? ⟨b1, o1 + t, none⟩ = some (.slice ak 4 ck) := fun _ => hc1
    have HBD : Hid (Below w.heap.size w w.drew.drew) := (Below.refl _ _).drew.drew
    have hwt : IntKind.i64.wrap ((t : Int) + 1) = (t : Int) + 1 := by rw [IntKind.wrap_i64]; omega
    have HG1 : Hid (w.grownBy (w.drew.drew.setCell ⟨C, 4, none⟩ (.int .i64 ((t : Int) + 1))) (some C)) := gb_setCell (gb_drew (gb_drew (gb_refl C w))) 4 _
    have HX1 : Hid ((w.drew.drew.setCell ⟨C, 4, none⟩ (.int .i64 ((t : Int) + 1))).rowIs C 81 6 (six (.int .i64 q) (.slice ap ps.length cp) (.slice ar rows.length cr) (.slice (some ⟨b1, o1, none⟩) nodes.length cn) (.int .i64 ((t : Int) + 1)) (.bool bad))) := six_set4 (show w.drew.drew.rowIs C _ 6 _ from hC) _
    have HLK : Hid (RowB n0 (w.drew.drew.setCell ⟨C, 4, none⟩ (.int .i64 ((t : Int) + 1))) ak (rat nodes t)) := hlk.row.below (below_of_gb HG1.out hnC hCl)
    have HSZ : Hid ((w.drew.drew.setCell ⟨C, 4, none⟩ (.int .i64 ((t : Int) + 1))).heap.size = w.heap.size) := by unfold Hid; simp [World.setCell]
    have HAL : Hid (Calls Tryz.prog 37 #[.int .i64 q, .slice ak 4 ck] (w.drew.drew.setCell ⟨C, 4, none⟩ (.int .i64 ((t : Int) + 1))) fun e w' => ∃ v, e = .returned v ∧ w'.ownsRow w.heap.size 3 1 v (elr q (rat nodes t)).length ((elr q (rat nodes t)).map (Value.int .i64)) ∧ Below w.heap.size (w.drew.drew.setCell ⟨C, 4, none⟩ (.int .i64 ((t : Int) + 1))) w') := by
      have := rall_own q (rat nodes t).length ck ak (zat (rat nodes t)) (w.drew.drew.setCell ⟨C, 4, none⟩ (.int .i64 ((t : Int) + 1))) h3 h4 (by omega) hfy (fun j hj => by
        obtain ⟨b', o', e1, e2, e3⟩ := HLK.out j hj
        exact ⟨b', o', e1, by rw [HSZ.out]; omega, e3⟩)
      rw [HSZ.out, h44] at this
      unfold elr
      rw [h44]
      exact this
    have x0 : ∀ d : Nat, (({ w with drawn := d } : World).setCell ⟨C, 4, none⟩ (.int .i64 ((t : Int) + 1))).cell? ⟨C, 0, none⟩ = some (.int .i64 q) := fun d => (six_set4 (show ({ w with drawn := d } : World).rowIs C _ 6 _ from hC) (.int .i64 ((t : Int) + 1))).cell (i := 0) (by omega)
    have HEL : Hid ((elr q (rat nodes t)).length = 4) := by unfold Hid elr; rw [ls_len, h44]
    have HCB : Hid (C < w.heap.size) := hCl
    clear hC hrp hlr hln hfr hfn hpn hsm HRP HLR HLN HFR HFN HC hlk hfy hfl HBD h44 HLK
    generalize elr q (rat nodes t) = E at *
    go_enter Tryz.func40, Tryz.ntmps40
    go_wp2_with fail
    refine HSM.out.mono ?_
    rintro e w1 ⟨rfl, rfl⟩
    go_wp2_with fail
    refine wp_region_still_lit hmx (by kernel_rfl) ?_
    refine wpStill_wantG (by kernel_rfl) (fun K hK => ?_); go_simp; refine hK _ ?_; clear hK K
    refine wpStill_wantG (by kernel_rfl) (fun K hK => ?_); go_simp; refine hK _ ?_; clear hK K
    refine wpStill_wantG (by kernel_rfl) (fun K hK => ?_); go_simp; refine hK _ ?_; clear hK K
    refine wpStill_wantG (by kernel_rfl) (fun K hK => ?_); go_simp; refine hK _ ?_; clear hK K
    refine wpStill_wantG (by kernel_rfl) (fun K hK => ?_); go_simp; refine hK _ ?_; clear hK K
    refine wpStill_wantG (by kernel_rfl) (fun K hK => ?_); go_simp; refine hK _ ?_; clear hK K
    refine wpStill_wantG (by kernel_rfl) (fun K hK => ?_); go_simp; refine hK _ ?_; clear hK K
    refine wpStill_wantG (by kernel_rfl) (fun K hK => ?_); go_simp; refine hK _ ?_; clear hK K
    refine wpStill_wantG (by kernel_rfl) (fun K hK => ?_); go_simp; refine hK _ ?_; clear hK K
    refine wpStill_wantG (by kernel_rfl) (fun K hK => ?_); go_simp; refine hK _ ?_; clear hK K
    refine wpStill_wantG (by kernel_rfl) (fun K hK => ?_); go_simp; refine hK _ ?_; clear hK K
    refine wpStill_wantG (by kernel_rfl) (fun K hK => ?_); go_simp; refine hK _ ?_; clear hK K
    refine wpStill_wantG (by kernel_rfl) (fun K hK => ?_); go_simp; refine hK _ ?_; clear hK K
    refine wpStill_wantG (by kernel_rfl) (fun K hK => ?_); go_simp; refine hK _ ?_; clear hK K
    refine wpStill_wantG (by kernel_rfl) (fun K hK => ?_); go_simp; refine hK _ ?_; clear hK K
    refine wpStill_wantG (by kernel_rfl) (fun K hK => ?_); go_simp; refine hK _ ?_; clear hK K
    refine wpStill_wantG (by kernel_rfl) (fun K hK => ?_); go_simp; refine hK _ ?_; clear hK K
    refine wpStill_wantG (by kernel_rfl) (fun K hK => ?_); go_simp; refine hK _ ?_; clear hK K
    refine wpStill_wantG (by kernel_rfl) (fun K hK => ?_); go_simp; refine hK _ ?_; clear hK K
    refine wpStill_wantG (by kernel_rfl) (fun K hK => ?_); go_simp; refine hK _ ?_; clear hK K
    refine wpStill_wantG (by kernel_rfl) (fun K hK => ?_); go_simp; refine hK _ ?_; clear hK K
    refine wpStill_wantG (by kernel_rfl) (fun K hK => ?_); go_simp; refine hK _ ?_; clear hK K
    refine wpStill_wantG (by kernel_rfl) (fun K hK => ?_); go_simp; refine hK _ ?_; clear hK K
    refine wpStill_wantG (by kernel_rfl) (fun K hK => ?_); go_simp; refine hK _ ?_; clear hK K
    refine wpStill_nil ?_
    go_wp2_with fail
    refine wp_region_still_lit hmx (by kernel_rfl) ?_
    refine wpStill_wantG (by kernel_rfl) (fun K hK => ?_); go_simp; refine hK _ ?_; clear hK K
    refine wpStill_wantG (by kernel_rfl) (fun K hK => ?_); go_simp; refine hK _ ?_; clear hK K
    refine wpStill_wantG (by kernel_rfl) (fun K hK => ?_); go_simp; refine hK _ ?_; clear hK K
    refine wpStill_wantG (by kernel_rfl) (fun K hK => ?_); go_simp; refine hK _ ?_; clear hK K
    refine wpStill_wantG (by kernel_rfl) (fun K hK => ?_); go_simp; refine hK _ ?_; clear hK K
    refine wpStill_wantG (by kernel_rfl) (fun K hK => ?_); go_simp; refine hK _ ?_; clear hK K
    refine wpStill_wantG (by kernel_rfl) (fun K hK => ?_); go_simp; refine hK _ ?_; clear hK K
    refine wpStill_wantG (by kernel_rfl) (fun K hK => ?_); go_simp; refine hK _ ?_; clear hK K
    refine wpStill_wantG (by kernel_rfl) (fun K hK => ?_); go_simp; refine hK _ ?_; clear hK K
    refine wpStill_wantG (by kernel_rfl) (fun K hK => ?_); go_simp; refine hK _ ?_; clear hK K
    refine wpStill_wantG (by kernel_rfl) (fun K hK => ?_); go_simp; refine hK _ ?_; clear hK K
    refine wpStill_nil ?_
    go_wp2_with fail
    refine HAL.out.mono ?_
    rintro e w3 ⟨v, rfl, hown, hb3⟩
    obtain ⟨g, N, F, hv, hg, hri, hN, hF⟩ := rowIs_of_owns hown (by rw [HEL.out]; omega)
    subst hv
    have hD : LstD w3 g N E := by
      refine ⟨⟨fun j hj => ⟨g, 0, rfl, hri.lt, by rw [Nat.zero_add, hri.cell (Nat.lt_of_lt_of_le hj hN), hF j hj]⟩, hN, fun e => by cases e⟩, ?_⟩
      obtain ⟨c, h1, _⟩ := hri
      exact ⟨c, _, h1⟩
    have HE : Hid (w1.heap.size ≤ g ∧ LstD w3 g N E ∧ w3.rowIs C 81 6 (six (.int .i64 q) (.slice ap ps.length cp) (.slice ar rows.length cr) (.slice (some ⟨b1, o1, none⟩) nodes.length cn) (.int .i64 ((t + 1 : Nat) : Int)) (.bool bad)) ∧ w1.grownBy w3 (some C)) :=
      ⟨hg, hD, by rw [show ((t + 1 : Nat) : Int) = (t : Int) + 1 from by omega]; exact HX1.out.of_block (hb3.block C HCB.out), gb_trans HG1.out (gb_below (by rw [HSZ.out]; exact hb3))⟩
    rw [HEL.out]
    clear hown hb3 hri hF hD HAL HX1 HG1
    go_wp2_with fail
    go_ret
    exact ⟨g, N, rfl, HE.out.1, HE.out.2.1, HE.out.2.2.1, HE.out.2.2.2⟩

end Go.Proofs.YtionbilheeheaaeGreatDoor
