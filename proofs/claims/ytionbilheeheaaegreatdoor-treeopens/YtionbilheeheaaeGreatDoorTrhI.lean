/- Package tree: Root. -/
import Derived.Test.YtionbilheeheaaeGreatDoorTrhH
namespace Go.Proofs.YtionbilheeheaaeGreatDoor
open Go.RowKit

theorem once_nil {os : List Int} (h : OnceIs [] os) : os = [] := by
  cases os with
  | nil => rfl
  | cons x l => exact absurd ((h.2 x).1 (by simp)) (by simp)
theorem ndf_nil (q n : Nat) (rows : List (List Int)) (h : 1 ≤ rows.length) : ndf q n rows.length rows [] 0 = [rtf q n rows.length rows] := by
  obtain ⟨k, hk⟩ : ∃ k, rows.length = k + 1 := ⟨rows.length - 1, by omega⟩
  rw [hk, ndf, if_pos (by simp [smb])]

/-- what Root answers -/
def RootA (q n : Nat) (rows : List (List Int)) (w : World) (e : Ending) (w' : World) : Prop :=
  ∃ a c, e = .returned (.tuple #[.slice a 4 c, .nilIface]) ∧ Lst w'.heap.size w' a c (rtf q n rows.length rows) ∧ Below w.heap.size w w'

set_option maxRecDepth 100000 in
set_option maxHeartbeats 1000000 in
theorem troot_size (s cap len : Nat) (a : Option Addr) (w : World) (h : ¬ (1 ≤ len ∧ len ≤ 65536)) (hl : len ≤ 281474976710656) :
    Calls Tryz.prog 7 #[.pointer (some ⟨s, 0, none⟩), .slice a len cap] w fun e w' => e = .returned (.tuple #[.slice none 0 0, .iface 53 (.int .i64 2)]) ∧ Below w.heap.size w w' := by
  have HO := hid (open_size s cap 0 len 0 a none w h hl)
  clear h hl
  go_enter Tryz.func7, Tryz.ntmps7
  go_wp2_with fail
  refine HO.out.mono ?_
  rintro e w1 ⟨rfl, hb1⟩
  have HB := hid (hb1.alloc hb1.size (.cells #[.slice none 0 0, .slice none 0 0, .slice none 0 0] 33))
  clear hb1
  go_wp2_with fail
  go_ret2
  exact ⟨rfl, HB.out⟩

set_option maxRecDepth 100000 in
set_option maxHeartbeats 1000000 in
theorem troot_any (q n d b s cap : Nat) (a : Option Addr) (rows : List (List Int)) (w : World) (ok : SpgOk q n d) (hs : SpgAt w s b q n d) (h1 : 1 ≤ rows.length) (h2 : rows.length ≤ 65536) (hfr : FitsR rows) (hl : LstR w.heap.size w a cap rows) :
    Calls Tryz.prog 7 #[.pointer (some ⟨s, 0, none⟩), .slice a rows.length cap] w (RootA q n rows w) := by
  have HO := hid (open_any q n d b s cap 0 a none rows [] w ok hs h1 h2 (by simp) hfr hl (fun k hk => by simp at hk) (by simp))
  have hnd := ndf_nil q n rows h1
  have HND := hid hnd
  clear ok hs hfr hl
  rw [List.length_nil] at HO
  have HO2 : Hid (Calls Tryz.prog 8 #[.pointer (some ⟨s, 0, none⟩), .slice a rows.length cap, .slice none 0 0] w fun e w' => ∃ bn on ap ar cp cr cn an0 c0, e = .returned (.tuple #[.agg #[.slice ap 0 cp, .slice ar 0 cr, .slice (some ⟨bn, on, none⟩) 1 cn], .nilIface]) ∧ w'.cell? ⟨bn, on + 0, none⟩ = some (.slice an0 4 c0) ∧ bn < w'.heap.size ∧ Lst w'.heap.size w' an0 c0 (rtf q n rows.length rows) ∧ Below w.heap.size w w') := by
    refine HO.out.mono ?_
    rintro e w' ⟨os, ap, ar, an', cp, cr, cn, rfl, hos, hp, hr, hn, hb⟩
    have := once_nil hos
    subst this
    rw [hnd] at hn ⊢
    obtain ⟨_, _, e1, hll⟩ := hn.lst
    cases e1
    obtain ⟨bn, on, ak, ck, rfl, hbn, hcn, hlk⟩ := hll.row 0 (by simp)
    have hl4 : (rat [rtf q n rows.length rows] 0).length = 4 := rtf_len q n _ _ h1
    rw [hl4] at hcn
    exact ⟨bn, on, ap, ar, cp, cr, cn, ak, ck, rfl, hcn, hbn, hlk, hb⟩
  clear HO hnd
  go_enter Tryz.func7, Tryz.ntmps7
  go_wp2_with fail
  refine HO2.out.mono ?_
  rintro e w1 ⟨bn, on, ap, ar, cp, cr, cn, an0, c0, rfl, hcn, hbn, hl0, hb1⟩
  have HBX : Hid (Below w1.heap.size w1 (w1.alloc (.cells #[.slice ap 0 cp, .slice ar 0 cr, .slice (some ⟨bn, on, none⟩) 1 cn] 33))) := (Below.refl _ _).alloc (Nat.le_refl _) _
  have HB := hid (hb1.trans (HBX.out.mono hb1.size))
  have HL := hid ((hl0.below HBX.out).mono HBX.out.size)
  have hc1 := (HBX.out.cell (p := ⟨bn, on + 0, none⟩) hbn).trans hcn
  have HO1 := hid (tri_new w1 33 (.slice ap 0 cp) (.slice ar 0 cr) (.slice (some ⟨bn, on, none⟩) 1 cn))
  have k2 := HO1.out.cell (i := 2) (by omega)
  simp only [tri] at k2
  rw [Nat.add_zero] at hc1
  clear hcn hl0 hb1
  go_wp2_with fail
  go_ret2
  exact ⟨an0, c0, rfl, HL.out, HB.out⟩

end Go.Proofs.YtionbilheeheaaeGreatDoor
