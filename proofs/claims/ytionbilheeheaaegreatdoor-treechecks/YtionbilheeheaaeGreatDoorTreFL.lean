/- attestref3, the trees: Climb's Up: a node of another length. -/
import Derived.Test.YtionbilheeheaaeGreatDoorTreF
import Derived.StillTailTactics
namespace Go.Proofs.YtionbilheeheaaeGreatDoor
open Go.RowKit

attribute [local irreducible] wpStill

set_option maxRecDepth 100000 in
set_option maxHeartbeats 4000000 in
theorem rup_odd (q n : Nat) (h5 : 5 ≤ q) (h4 : q ≤ 2147483647) (hpn : Spo.PowIs q n) (C n0 cp cr cn : Nat) (ap ar an' : Option Addr) (ps : List Int) (rows nodes : List (List Int)) (hps : ps.length ≤ 281474976710656) (hrl : rows.length = ps.length) (_hnl : nodes.length ≤ 281474976710656)
    (hfr : FitsR rows) (hfn : FitsR nodes) (hnC : n0 ≤ C) (first : Int) (cnt t : Nat) (bad : Bool) (w : World) (hcm : cnt ≤ 65536) (hf0 : 0 ≤ first) (hf1 : first + (cnt : Int) ≤ 1000000000) (_htm : t ≤ 281474976710656)
    (hC : w.rowIs C 81 6 (six (.int .i64 q) (.slice ap ps.length cp) (.slice ar rows.length cr) (.slice an' nodes.length cn) (.int .i64 t) (.bool bad))) (hrp : RowB n0 w ap ps) (hlr : LstR n0 w ar cr rows) (hln : LstR n0 w an' cn nodes)
    (hsm : smb ps first (first + (cnt : Int)) = false) (htl : t < nodes.length) (h44 : (rat nodes t).length ≠ 4) :
    Calls Tryz.prog 40 #[.pointer (some ⟨C, 0, none⟩), .int .i64 first, .int .i64 cnt] w (UpD C q (.slice ap ps.length cp) (.slice ar rows.length cr) (.slice an' nodes.length cn) w ([0, 0, 0, 0], t, true)) := by
    have hmx : Tryz.prog.follows .mixedOrders = true := by kernel_rfl
    have h3 : 3 ≤ q := by omega
    have HPN := hid hpn
    have HFR := hid hfr
    have HFN := hid hfn
    have HRP := hid hrp
    have HLR := hid hlr
    have HLN := hid hln
    have HC := hid hC
    have hCl := hC.lt
    have c0 := hC.cell (i := 0) (by omega)
    have c1 := hC.cell (i := 1) (by omega)
    have c2 := hC.cell (i := 2) (by omega)
    have c3 := hC.cell (i := 3) (by omega)
    have c4 := hC.cell (i := 4) (by omega)
    have c5 := hC.cell (i := 5) (by omega)
    have y4 := hC.frozen 4
    have y5 := hC.frozen 5
    simp only [six] at c0 c1 c2 c3 c4 c5
    have d3 : ∀ d : Nat, ({ w with drawn := d } : World).cell? ⟨C, 3, none⟩ = some (.slice an' nodes.length cn) := fun _ => c3
    have d4 : ∀ d : Nat, ({ w with drawn := d } : World).cell? ⟨C, 4, none⟩ = some (.int .i64 t) := fun _ => c4
    have hn0 : n0 ≤ w.heap.size := by omega
    have HSM := hid (rsome_any cp ap ps first (first + (cnt : Int)) w hps (hrp.mono hn0))
    have hw1 : IntKind.i64.wrap (first + (cnt : Int)) = first + (cnt : Int) := by rw [IntKind.wrap_i64]; omega
    rw [hsm] at HSM
    have htl2 : (t : Int) < (nodes.length : Int) := by omega
    have hgb : decide (nodes.length ≤ t) = false := decide_eq_false (by omega)
    obtain ⟨b1, o1, ak, ck, rfl, hb1, hc1, hlk⟩ := hln.row t htl
    obtain ⟨hfy, hfl⟩ := HFN.out t htl
    have h4b : (((rat nodes t).length : Int) != 4) = true := by rw [bne_iff_ne]; omega
    clear hC hrp hlr hln hfr hfn hpn hsm HRP HLR HLN HFR HFN hlk hfy hfl h44
    generalize (rat nodes t).length = lt at *
    go_enter Tryz.func40, Tryz.ntmps40
    go_wp2_with fail
    refine HSM.out.mono ?_
    rintro e w1 ⟨rfl, rfl⟩
    go_wp2_with fail
    refine wp_region_still_lit hmx (by kernel_rfl) ?_
    refine wpStill_wantG (by kernel_rfl) (fun K hK => ?_); go_simp; refine hK _ ?_; clear hK K
    refine wpStill_wantG (by kernel_rfl) (fun K hK => ?_); go_simp; refine hK _ ?_; clear hK K
    refine wpStill_wantG (by kernel_rfl) (fun K hK => ?_); go_simp; refine hK _ ?_; clear hK K
    refine wpStill_wantG (by kernel_rfl) (fun K hK => ?_); go_simp; refine hK _ ?_; clear hK K
    refine wpStill_wantG (by kernel_rfl) (fun K hK => ?_); go_simp; refine hK _ ?_; clear hK K
    refine wpStill_wantG (by kernel_rfl) (fun K hK => ?_); go_simp; refine hK _ ?_; clear hK K
    refine wpStill_wantG (by kernel_rfl) (fun K hK => ?_); go_simp; refine hK _ ?_; clear hK K
    refine wpStill_wantG (by kernel_rfl) (fun K hK => ?_); go_simp; refine hK _ ?_; clear hK K
    refine wpStill_wantG (by kernel_rfl) (fun K hK => ?_); go_simp; refine hK _ ?_; clear hK K
    refine wpStill_wantG (by kernel_rfl) (fun K hK => ?_); go_simp; refine hK _ ?_; clear hK K
    refine wpStill_wantG (by kernel_rfl) (fun K hK => ?_); go_simp; refine hK _ ?_; clear hK K
    refine wpStill_wantG (by kernel_rfl) (fun K hK => ?_); go_simp; refine hK _ ?_; clear hK K
    refine wpStill_wantG (by kernel_rfl) (fun K hK => ?_); go_simp; refine hK _ ?_; clear hK K
    refine wpStill_wantG (by kernel_rfl) (fun K hK => ?_); go_simp; refine hK _ ?_; clear hK K
    refine wpStill_wantG (by kernel_rfl) (fun K hK => ?_); go_simp; refine hK _ ?_; clear hK K
    refine wpStill_wantG (by kernel_rfl) (fun K hK => ?_); go_simp; refine hK _ ?_; clear hK K
    refine wpStill_wantG (by kernel_rfl) (fun K hK => ?_); go_simp; refine hK _ ?_; clear hK K
    refine wpStill_wantG (by kernel_rfl) (fun K hK => ?_); go_simp; refine hK _ ?_; clear hK K
    refine wpStill_wantG (by kernel_rfl) (fun K hK => ?_); go_simp; refine hK _ ?_; clear hK K
    refine wpStill_wantG (by kernel_rfl) (fun K hK => ?_); go_simp; refine hK _ ?_; clear hK K
    refine wpStill_wantG (by kernel_rfl) (fun K hK => ?_); go_simp; refine hK _ ?_; clear hK K
    refine wpStill_wantG (by kernel_rfl) (fun K hK => ?_); go_simp; refine hK _ ?_; clear hK K
    refine wpStill_wantG (by kernel_rfl) (fun K hK => ?_); go_simp; refine hK _ ?_; clear hK K
    refine wpStill_wantG (by kernel_rfl) (fun K hK => ?_); go_simp; refine hK _ ?_; clear hK K
    refine wpStill_nil ?_
    go_wp2_with fail
    have hsz : (w1.setCell ⟨C, 5, none⟩ (.bool true)).heap.size = w1.heap.size := by simp [World.setCell]
    have HZ := hid (zero_dig (w1.setCell ⟨C, 5, none⟩ (.bool true)))
    rw [hsz] at HZ
    go_ret
    exact ⟨w1.heap.size, 4, rfl, Nat.le_refl _, HZ.out, (six_set5 HC.out _).alloc _, gb_drew (gb_trans (gb_setCell (gb_refl C w1) 5 _) (gb_below ((Below.refl _ _).alloc (Nat.le_refl _) _)))⟩

end Go.Proofs.YtionbilheeheaaeGreatDoor
