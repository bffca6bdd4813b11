/- Package tree: Check. -/
import Derived.Test.YtionbilheeheaaeGreatDoorTrgL
namespace Go.Proofs.YtionbilheeheaaeGreatDoor
open Go.RowKit

theorem okb_iff {q n : Nat} {root : List Int} {N : Int} {ps : List Int} {rows nodes : List (List Int)} (h : ¬ okb N root ps rows nodes) : chkf q n root N ps rows nodes = false := by
  by_cases hN : 1 ≤ N ∧ N ≤ 65536 ∧ root.length = 4
  · obtain ⟨M, rfl⟩ := Int.eq_ofNat_of_zero_le (show 0 ≤ N by omega)
    exact chk_not (by omega) (fun hs => h ⟨hN.1, hN.2.1, hN.2.2, by rw [Int.toNat_natCast]; exact hs⟩)
  · exact chkf_no (fun hc => hN ⟨hc.1, hc.2.1, hc.2.2.2.1⟩)

set_option maxRecDepth 100000 in
set_option maxHeartbeats 1000000 in
theorem check_any (q n d b s c4 cp cr cn : Nat) (a4 ap ar an' : Option Addr) (root : List Int) (N : Int) (ps : List Int) (rows nodes : List (List Int)) (W : World) (ok : SpgOk q n d) (hs : SpgAt W s b q n d) (hpl : ps.length ≤ 281474976710656) (hnl : nodes.length ≤ 281474976710656) (hN1 : -9223372036854775808 ≤ N) (hN2 : N ≤ 9223372036854775807)
    (hf4 : Fits root) (hfp : Fits ps) (hfr : FitsR rows) (hfn : FitsR nodes) (hl4 : Lst W.heap.size W a4 c4 root) (hp : Lst W.heap.size W ap cp ps) (hr : LstR W.heap.size W ar cr rows) (hn : LstR W.heap.size W an' cn nodes) :
    Calls Tryz.prog 16 #[.pointer (some ⟨s, 0, none⟩), .slice a4 root.length c4, .int .i64 N, .agg #[.slice ap ps.length cp, .slice ar rows.length cr, .slice an' nodes.length cn]] W fun e w' => e = .returned (.bool (chkf q n root N ps rows nodes)) ∧ Below W.heap.size W w' := by
  have HB0 : Hid (Below W.heap.size W (W.alloc (.cells #[.slice ap ps.length cp, .slice ar rows.length cr, .slice an' nodes.length cn] 33))) := (Below.refl _ _).alloc (Nat.le_refl _) _
  have HO := hid (tri_arr (tri_new W 33 (.slice ap ps.length cp) (.slice ar rows.length cr) (.slice an' nodes.length cn)))
  have HC : Hid (∀ w, Below W.heap.size W w → Calls Tryz.prog 39 #[.pointer (some ⟨s, 0, none⟩), .slice a4 root.length c4, .int .i64 N, .agg #[.slice ap ps.length cp, .slice ar rows.length cr, .slice an' nodes.length cn]] w fun e w' => ∃ v, e = .returned (.tuple #[v, .bool (chkf q n root N ps rows nodes)]) ∧ Below W.heap.size W w') := fun w hb => by
    by_cases hok : okb N root ps rows nodes
    · obtain ⟨h1, h2, h4, hsh⟩ := hok
      obtain ⟨M, rfl⟩ := Int.eq_ofNat_of_zero_le (show 0 ≤ N by omega)
      rw [Int.toNat_natCast] at hsh
      refine (checked_yes q n d b s c4 cp cr cn a4 ap ar an' root M ps rows nodes w (by omega) (by omega) h4 hsh ok (hs.keep hb) hpl hnl hf4 hfp hfr hfn ((hl4.below hb).mono hb.size) ((hp.below hb).mono hb.size) ((hr.below hb).mono hb.size) ((hn.below hb).mono hb.size)).mono ?_
      rintro e w' ⟨g, B, rfl, hd⟩
      rw [chk_says (by have := ok.h23; omega) (by omega) (by omega) h4 hsh]
      exact ⟨_, rfl, hb.trans (hd.2.2.1.mono hb.size)⟩
    · refine (checked_no s c4 cp cr cn a4 ap ar an' root N ps rows nodes w hN1 hN2 hpl hnl ((hp.below hb).mono hb.size) ((hn.below hb).mono hb.size) hok).mono ?_
      rintro e w' ⟨rfl, hd⟩
      rw [okb_iff hok]
      exact ⟨_, rfl, hb.trans (hd.mono hb.size)⟩
  clear hs hf4 hfp hfr hfn hl4 hp hr hn ok
  generalize chkf q n root N ps rows nodes = t at *
  go_enter Tryz.func16, Tryz.ntmps16
  go_wp2_with fail
  generalize W.alloc (.cells #[.slice ap ps.length cp, .slice ar rows.length cr, .slice an' nodes.length cn] 33) = W0 at *
  have k0 := opn_c0 HO.out
  have k1 := opn_c1 HO.out
  have k2 := opn_c2 HO.out
  go_wp2_with fail
  refine (HC.out W0 HB0.out).mono ?_
  rintro e w1 ⟨v, rfl, hb1⟩
  have HB1 := hid hb1
  clear hb1
  go_wp2_with fail
  go_ret
  exact ⟨rfl, HB1.out⟩

end Go.Proofs.YtionbilheeheaaeGreatDoor
