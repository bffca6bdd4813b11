/- TreeChecks, of what tree.Check answers. -/
import Derived.Test.YtionbilheeheaaeGreatDoorTreH
import Derived.Test.YtionbilheeheaaeGreatDoorTreI
import Derived.Test.YtionbilheeheaaeGreatDoorTreJ
import Derived.Test.YtionbilheeheaaeGreatDoorSpgT
namespace Go.Proofs.YtionbilheeheaaeGreatDoor
open Go.RowKit

/-- what tree.Check must answer -/
def ChecksAs (q n d b s : Nat) : Prop := ∀ (c4 cp cr cn : Nat) (a4 ap ar an' : Option Addr) (root : List Int) (N : Int) (ps : List Int) (rows nodes : List (List Int)) (W : World), SpgAt W s b q n d → root.length ≤ 17592186043904 → ps.length ≤ 17592186043904 → nodes.length ≤ 5864062014634 → rows.length ≤ 5864062014634 → -9223372036854775808 ≤ N → N ≤ 9223372036854775807 →
  Fits root → Fits ps → FitsR rows → FitsR nodes → Lst W.heap.size W a4 c4 root → Lst W.heap.size W ap cp ps → LstR W.heap.size W ar cr rows → LstR W.heap.size W an' cn nodes →
  Calls Tryz.prog 16 #[.pointer (some ⟨s, 0, none⟩), .slice a4 root.length c4, .int .i64 N, .agg #[.slice ap ps.length cp, .slice ar rows.length cr, .slice an' nodes.length cn]] W fun e w' => e = .returned (.bool (chkf q n root N ps rows nodes)) ∧ Below W.heap.size W w'

set_option maxRecDepth 100000 in
set_option maxHeartbeats 2000000 in
theorem tchecks_of (htree : ∀ q n d b s : Nat, SpgOk q n d → ChecksAs q n d b s) (p : Int) (a1 : Option Addr) (c1 : Nat) (root : List Int) (N : Int) (ap ar an' : Option Addr) (cp cr cn : Nat) (ps : List Int) (rows nodes : List (List Int)) (w : World) (hL : Laid w) (hp1 : -9223372036854775808 ≤ p) (hp2 : p ≤ 9223372036854775807) (hn1 : -9223372036854775808 ≤ N) (hn2 : N ≤ 9223372036854775807)
    (hlx : root.length ≤ 17592186043904) (hf1 : Fits root) (hl1 : Lst w.heap.size w a1 c1 root) (hr : ps.length ≤ 17592186043904 ∧ (rows.length ≤ 5864062014634 ∧ ∀ k, k < rows.length → (rat rows k).length ≤ 17592186043904) ∧ (nodes.length ≤ 5864062014634 ∧ ∀ k, k < nodes.length → (rat nodes k).length ≤ 17592186043904))
    (lp : Lst w.heap.size w ap cp ps) (lr : LstR w.heap.size w ar cr rows) (ln : LstR w.heap.size w an' cn nodes) (fp : Fits ps) (fr : FitsR rows) (fn : FitsR nodes) :
    Calls Tryz.prog 4 #[.int .i64 p, .slice a1 root.length c1, .int .i64 N, .agg #[.slice ap ps.length cp, .slice ar rows.length cr, .slice an' nodes.length cn]] w fun e w' => e = .returned (.bool true) ∧ Below w.heap.size w w' := by
  have HF1 := hid hf1
  have HL1 := hid hl1
  have HLP := hid lp
  have HLR := hid lr
  have HLN := hid ln
  have HFP := hid fp
  have HFR := hid fr
  have HFN := hid fn
  have HR := hid hr
  have HT := hid htree
  clear hf1 hl1 lp lr ln fp fr fn hr htree
  by_cases hg : GoodS p
  · obtain ⟨⟨hq3, hq4, hqp⟩, h23⟩ := hg
    obtain ⟨q, rfl⟩ := Int.eq_ofNat_of_zero_le (show 0 ≤ p by omega)
    rw [Int.toNat_natCast] at hqp
    have h4 : q ≤ 2147483647 := by omega
    have h5 : 5 ≤ q := by omega
    have HP := hid hqp
    have h23n : 23 ≤ q := by omega
    clear hqp hL hq3 hq4 hp1 hp2 h23
    go_enter Tryz.func4, Tryz.ntmps4
    go_wp2_with fail
    have HO0 := hid (tri_new w 33 (.slice ap ps.length cp) (.slice ar rows.length cr) (.slice an' nodes.length cn))
    have HB0 : Hid (Below w.heap.size w (w.alloc (.cells #[.slice ap ps.length cp, .slice ar rows.length cr, .slice an' nodes.length cn] 33))) := (Below.refl _ _).alloc (Nat.le_refl _) _
    generalize w.alloc (.cells #[.slice ap ps.length cp, .slice ar rows.length cr, .slice an' nodes.length cn] 33) = W0 at *
    refine (sponge_yes q W0 h23n h4 HP.out).mono ?_
    rintro e w1 ⟨s, b, n, d, rfl, hok, hat, hb1⟩
    have HOK := hid hok
    have HAT := hid hat
    have HB1 : Hid (Below w.heap.size w w1) := HB0.out.trans (hb1.mono HB0.out.size)
    have HO1 := hid (HO0.out.of_block (hb1.block _ HO0.out.lt))
    have HA1 := hid (tri_arr HO1.out)
    have HOP := hid (opened_any cp cr cn ap ar an' ps rows nodes w1 (by have := HR.out.1; omega) (by have := HR.out.2.1.1; omega) (by have := HR.out.2.2.1; omega) (fun k hk => by have := HR.out.2.1.2 k hk; omega) (fun k hk => by have := HR.out.2.2.2 k hk; omega) ((HLP.out.below HB1.out).mono HB1.out.size) ((HLR.out.below HB1.out).mono HB1.out.size) ((HLN.out.below HB1.out).mono HB1.out.size))
    clear hok hat hb1 HO0 HB0
    go_wp2_with (refine wpList_load_row rfl 33 _ rfl w.heap.size rfl _ _ _ _ HA1.out Tryz.underlying33 rfl (by kernel_rfl) ?_)
    refine HOP.out.mono ?_
    rintro e w2 ⟨vp, vr, vn, rfl, hs2, ho2, hn2', hb2⟩
    obtain ⟨ap2, cp2, rfl, hlp2⟩ := hs2.lst
    obtain ⟨ar2, cr2, rfl, hlr2⟩ := ho2.lst
    obtain ⟨an2, cn2, rfl, hln2⟩ := hn2'.lst
    have HBO : Hid (Below w2.heap.size w2 (w2.alloc (.cells #[.slice ap2 ps.length cp2, .slice ar2 rows.length cr2, .slice an2 nodes.length cn2] 33))) := (Below.refl _ _).alloc (Nat.le_refl _) _
    have HQ2 := hid (tri_new w2 33 (.slice ap2 ps.length cp2) (.slice ar2 rows.length cr2) (.slice an2 nodes.length cn2))
    have hb2' := hb2.trans (HBO.out.mono hb2.size)
    have HB2 : Hid (Below w.heap.size w (w2.alloc (.cells #[.slice ap2 ps.length cp2, .slice ar2 rows.length cr2, .slice an2 nodes.length cn2] 33))) := HB1.out.trans (hb2'.mono HB1.out.size)
    have HO2 := hid (HO1.out.of_block (hb2'.block _ HO1.out.lt))
    have HAT2 := hid (HAT.out.keep hb2')
    have HX2 : Hid (Lst (w2.alloc (.cells #[.slice ap2 ps.length cp2, .slice ar2 rows.length cr2, .slice an2 nodes.length cn2] 33)).heap.size (w2.alloc (.cells #[.slice ap2 ps.length cp2, .slice ar2 rows.length cr2, .slice an2 nodes.length cn2] 33)) ap2 cp2 ps ∧ LstR (w2.alloc (.cells #[.slice ap2 ps.length cp2, .slice ar2 rows.length cr2, .slice an2 nodes.length cn2] 33)).heap.size (w2.alloc (.cells #[.slice ap2 ps.length cp2, .slice ar2 rows.length cr2, .slice an2 nodes.length cn2] 33)) ar2 cr2 rows ∧ LstR (w2.alloc (.cells #[.slice ap2 ps.length cp2, .slice ar2 rows.length cr2, .slice an2 nodes.length cn2] 33)).heap.size (w2.alloc (.cells #[.slice ap2 ps.length cp2, .slice ar2 rows.length cr2, .slice an2 nodes.length cn2] 33)) an2 cn2 nodes) := ⟨(hlp2.below HBO.out).mono HBO.out.size, (hlr2.below HBO.out).mono HBO.out.size, (hln2.below HBO.out).mono HBO.out.size⟩
    have HTC := hid (HT.out q n d b s HOK.out c1 cp2 cr2 cn2 a1 ap2 ar2 an2 root N ps rows nodes (w2.alloc (.cells #[.slice ap2 ps.length cp2, .slice ar2 rows.length cr2, .slice an2 nodes.length cn2] 33)) HAT2.out hlx HR.out.1 HR.out.2.2.1 HR.out.2.1.1 hn1 hn2 HF1.out HFP.out HFR.out HFN.out ((HL1.out.below HB2.out).mono HB2.out.size) HX2.out.1 HX2.out.2.1 HX2.out.2.2)
    obtain ⟨Q, hQ⟩ : ∃ Q, Q = w2.heap.size := ⟨_, rfl⟩
    clear hs2 ho2 hn2' hb2 hb2' hlp2 hlr2 hln2 HOP HA1 HO1 HAT HB1 HAT2 HBO
    go_wp2_with fail
    rw [← hQ] at HQ2 ⊢
    clear hQ
    generalize w2.alloc (.cells #[.slice ap2 ps.length cp2, .slice ar2 rows.length cr2, .slice an2 nodes.length cn2] 33) = W2 at *
    refine HTC.out.mono ?_
    rintro e w3 ⟨rfl, hb3⟩
    have HB3 : Hid (Below w.heap.size w w3) := HB2.out.trans (hb3.mono HB2.out.size)
    have HQ3 := hid (HQ2.out.of_block (hb3.block _ HQ2.out.lt))
    have HO3 := hid (HO2.out.of_block (hb3.block _ HO2.out.lt))
    have HX3 : Hid (Lst W2.heap.size w3 ap2 cp2 ps ∧ LstR W2.heap.size w3 ar2 cr2 rows ∧ LstR W2.heap.size w3 an2 cn2 nodes) := ⟨HX2.out.1.below hb3, HX2.out.2.1.below hb3, HX2.out.2.2.below hb3⟩
    have hs3 := hb3.size
    have x0 := HO3.out.cell (i := 0) (by omega)
    have x1 := HO3.out.cell (i := 1) (by omega)
    have x2 := HO3.out.cell (i := 2) (by omega)
    simp only [tri] at x0 x1 x2
    have HRC := hid (rcheck_any q n h5 h4 HOK.out.pw c1 cp cr cn a1 ap ar an' root N ps rows nodes w3 (by omega) (by have := HR.out.1; omega) (by have := HR.out.2.2.1; omega) HF1.out HFR.out HFN.out ((HL1.out.below HB3.out).mono HB3.out.size).row ((HLP.out.below HB3.out).mono HB3.out.size).row ((HLR.out.below HB3.out).mono HB3.out.size) ((HLN.out.below HB3.out).mono HB3.out.size))
    clear hb3 HX2 HO2 HQ2 HTC
    go_wp2_with fail
    refine HRC.out.mono ?_
    rintro e w4 ⟨rfl, hb4⟩
    have HB4 : Hid (Below w.heap.size w w4) := HB3.out.trans (hb4.mono HB3.out.size)
    have HQ4 := hid (tri_arr (HQ3.out.of_block (hb4.block _ HQ3.out.lt)))
    have HA4 := hid (tri_arr (HO3.out.of_block (hb4.block _ HO3.out.lt)))
    have HX4 : Hid (RowB w4.heap.size w4 ap2 ps ∧ LstR w4.heap.size w4 ar2 cr2 rows ∧ LstR w4.heap.size w4 an2 cn2 nodes) := ⟨((HX3.out.1.mono hs3).below hb4).row.mono hb4.size, ((HX3.out.2.1.mono hs3).below hb4).mono hb4.size, ((HX3.out.2.2.mono hs3).below hb4).mono hb4.size⟩
    have HOS := hid (openings_any cp2 cr2 cn2 cp cr cn ap2 ar2 an2 ap ar an' ps ps rows rows nodes nodes w4 (by have := HR.out.1; omega) (by have := HR.out.1; omega) (by have := HR.out.2.1.1; omega) (by have := HR.out.2.1.1; omega) (by have := HR.out.2.2.1; omega) (by have := HR.out.2.2.1; omega)
      (fun k hk => by have := HR.out.2.1.2 k hk; omega) (fun k hk => by have := HR.out.2.1.2 k hk; omega) (fun k hk => by have := HR.out.2.2.2 k hk; omega) (fun k hk => by have := HR.out.2.2.2 k hk; omega)
      HX4.out.1 ((HLP.out.below HB4.out).mono HB4.out.size).row HX4.out.2.1 ((HLR.out.below HB4.out).mono HB4.out.size) HX4.out.2.2 ((HLN.out.below HB4.out).mono HB4.out.size))
    simp only [decide_true, Bool.and_true] at HOS
    clear hb4 HX3 HO3 HQ3 HRC x0 x1 x2 HB3
    go_wp2_with (first
      | (refine wpList_load_row rfl 33 _ rfl Q rfl _ _ _ _ HQ4.out Tryz.underlying33 rfl (by kernel_rfl) ?_)
      | (refine wpList_load_row rfl 33 _ rfl w.heap.size rfl _ _ _ _ HA4.out Tryz.underlying33 rfl (by kernel_rfl) ?_))
    refine HOS.out.mono ?_
    rintro e w5 ⟨rfl, hb5⟩
    have HB5 : Hid (Below w.heap.size w w5) := HB4.out.trans (hb5.mono HB4.out.size)
    clear hb5 HOS
    generalize chkf q n root N ps rows nodes = ck at *
    have hck : (ck == ck) = true := by simp
    go_wp2_with fail
    go_ret
    exact ⟨rfl, HB5.out⟩
  · have HN := hid (fun W (hW : Laid W) => sponge_no p W hW hg hp1 hp2)
    have HB0 : Hid (Below w.heap.size w (w.alloc (.cells #[.slice ap ps.length cp, .slice ar rows.length cr, .slice an' nodes.length cn] 33))) := (Below.refl _ _).alloc (Nat.le_refl _) _
    have HLW : Hid (Laid (w.alloc (.cells #[.slice ap ps.length cp, .slice ar rows.length cr, .slice an' nodes.length cn] 33))) := hL.below HB0.out
    clear hg hL HF1 HL1 HLP HLR HLN HFP HFR HFN HR HT
    go_enter Tryz.func4, Tryz.ntmps4
    go_wp2_with fail
    generalize w.alloc (.cells #[.slice ap ps.length cp, .slice ar rows.length cr, .slice an' nodes.length cn] 33) = W0 at *
    refine (HN.out _ HLW.out).mono ?_
    rintro e w1 ⟨rfl, hb1⟩
    have HB1 : Hid (Below w.heap.size w w1) := HB0.out.trans (hb1.mono HB0.out.size)
    clear hb1
    go_wp2_with fail
    go_ret
    exact ⟨rfl, HB1.out⟩

end Go.Proofs.YtionbilheeheaaeGreatDoor
