/- Package tree: checked, where it is not taken. -/
import Derived.Test.YtionbilheeheaaeGreatDoorTrgJ
import Derived.Test.YtionbilheeheaaeGreatDoorTrgU
namespace Go.Proofs.YtionbilheeheaaeGreatDoor
open Go.RowKit

theorem opn_c0 {W : World} {O : Nat} {a b c : Value} {t : TypeId} (h : W.heap[O]? = some (.cells #[a, b, c] t (0, 0))) : W.cell? ⟨O, 0, none⟩ = some a := by simp [World.cell?, h]
theorem opn_c1 {W : World} {O : Nat} {a b c : Value} {t : TypeId} (h : W.heap[O]? = some (.cells #[a, b, c] t (0, 0))) : W.cell? ⟨O, 1, none⟩ = some b := by simp [World.cell?, h]
theorem opn_c2 {W : World} {O : Nat} {a b c : Value} {t : TypeId} (h : W.heap[O]? = some (.cells #[a, b, c] t (0, 0))) : W.cell? ⟨O, 2, none⟩ = some c := by simp [World.cell?, h]
/-- is it right by its form? -/
def okb (N : Int) (root ps : List Int) (rows nodes : List (List Int)) : Prop := 1 ≤ N ∧ N ≤ 65536 ∧ root.length = 4 ∧ shwn N.toNat ps rows nodes

set_option maxRecDepth 100000 in
set_option maxHeartbeats 2000000 in
theorem checked_no (s c4 cp cr cn : Nat) (a4 ap ar an' : Option Addr) (root : List Int) (N : Int) (ps : List Int) (rows nodes : List (List Int)) (w : World) (hN1 : -9223372036854775808 ≤ N) (hN2 : N ≤ 9223372036854775807) (hpl : ps.length ≤ 281474976710656) (hnl : nodes.length ≤ 281474976710656) (hp : Lst w.heap.size w ap cp ps) (hn : LstR w.heap.size w an' cn nodes) (hno : ¬ okb N root ps rows nodes) :
    Calls Tryz.prog 39 #[.pointer (some ⟨s, 0, none⟩), .slice a4 root.length c4, .int .i64 N, .agg #[.slice ap ps.length cp, .slice ar rows.length cr, .slice an' nodes.length cn]] w fun e w' => e = .returned (.tuple #[.pointer none, .bool false]) ∧ Below w.heap.size w w' := by
  have HB0 : Hid (Below w.heap.size w (w.alloc (.cells #[.slice ap ps.length cp, .slice ar rows.length cr, .slice an' nodes.length cn] 33))) := (Below.refl _ _).alloc (Nat.le_refl _) _
  have HO := hid (tri_arr (tri_new w 33 (.slice ap ps.length cp) (.slice ar rows.length cr) (.slice an' nodes.length cn)))
  have HNO := hid hno
  have HL := hid hp
  have HNL := hid hn
  have HI := hid (fun W => issize_any N W)
  have HD := hid (fun W => isdigest_any a4 root.length c4 W)
  clear hno hp hn
  by_cases hsz : 1 ≤ N ∧ N ≤ 65536
  · have hb : (decide (1 ≤ N) && decide (N ≤ 65536)) = true := by simp; exact hsz
    rw [hb] at HI
    obtain ⟨M, rfl⟩ := Int.eq_ofNat_of_zero_le (show 0 ≤ N by omega)
    by_cases h4 : root.length = 4
    · rw [decide_eq_true h4, h4] at HD
      rw [h4]
      have HS : Hid (∀ W, Below w.heap.size w W → Calls Tryz.prog 63 #[.agg #[.int .i64 0, .int .i64 (M : Int)], .agg #[.slice ap ps.length cp, .slice ar rows.length cr, .slice an' nodes.length cn]] W fun e w' => e = .returned (.bool false) ∧ Below W.heap.size W w') := fun W h => by
        refine (isshown_any M cp cr cn ap ar an' ps rows nodes W (by omega) (by omega) hpl hnl ((HL.out.below h).mono h.size) ((HNL.out.below h).mono h.size)).mono ?_
        rintro e w' ⟨⟨t, rfl, ht⟩, hb⟩
        refine ⟨?_, hb⟩
        cases t with
        | false => rfl
        | true => exact absurd ⟨hsz.1, hsz.2, h4, by rw [Int.toNat_natCast]; exact ht.1 rfl⟩ HNO.out
      clear h4 hb
      go_enter Tryz.func39, Tryz.ntmps39
      go_wp2_with fail
      generalize w.alloc (.cells #[.slice ap ps.length cp, .slice ar rows.length cr, .slice an' nodes.length cn] 33) = W0 at *
      refine (HI.out W0).mono ?_
      rintro e w1 ⟨rfl, rfl⟩
      go_wp2_with fail
      refine (HD.out w1).mono ?_
      rintro e w2 ⟨rfl, rfl⟩
      have k0 := opn_c0 HO.out
      have k1 := opn_c1 HO.out
      have k2 := opn_c2 HO.out
      go_wp2_with fail
      refine (HS.out w2 HB0.out).mono ?_
      rintro e w3 ⟨rfl, hb3⟩
      have HB3 : Hid (Below w.heap.size w w3) := HB0.out.trans (hb3.mono HB0.out.size)
      clear hb3
      go_wp2_with fail
      go_ret2
      exact ⟨rfl, HB3.out⟩
    · rw [decide_eq_false h4] at HD
      clear h4 hb
      go_enter Tryz.func39, Tryz.ntmps39
      go_wp2_with fail
      generalize w.alloc (.cells #[.slice ap ps.length cp, .slice ar rows.length cr, .slice an' nodes.length cn] 33) = W0 at *
      refine (HI.out W0).mono ?_
      rintro e w1 ⟨rfl, rfl⟩
      go_wp2_with fail
      refine (HD.out w1).mono ?_
      rintro e w2 ⟨rfl, rfl⟩
      go_wp2_with fail
      go_ret2
      exact ⟨rfl, HB0.out⟩
  · have hb : (decide (1 ≤ N) && decide (N ≤ 65536)) = false := by rw [Bool.eq_false_iff]; intro h; simp at h; exact hsz h
    rw [hb] at HI
    clear hsz hb
    go_enter Tryz.func39, Tryz.ntmps39
    go_wp2_with fail
    generalize w.alloc (.cells #[.slice ap ps.length cp, .slice ar rows.length cr, .slice an' nodes.length cn] 33) = W0 at *
    refine (HI.out W0).mono ?_
    rintro e w1 ⟨rfl, rfl⟩
    go_wp2_with fail
    go_ret2
    exact ⟨rfl, HB0.out⟩

end Go.Proofs.YtionbilheeheaaeGreatDoor
