/- attestsame.Spoil writes to its own list alone: no other block that was there turns. -/
import Derived.Test.YtidkhgplejglaacDoorSpoil
import Derived.Test.YtidkhgplejglaacDoorDomE
namespace Go.Proofs.YtidkhgplejglaacDoor
open Go.RowKit

theorem Pair.grown {g h : Nat} {a w w' : World} {row : Option Nat} (x : Pair g h a w) (hg : w.grownBy w' row) (hr : ∀ k, row = some k → k = g ∨ k = h) : Pair g h a w' :=
  x.trans ⟨hg.os, hg.tape, hg.output, hg.size, fun k hk h1 h2 => hg.block k hk (fun e => by rcases hr k e.symm with e | e <;> omega)⟩

set_option maxHeartbeats 1000000 in
theorem spoil_pair (g n : Nat) (f : Nat → Value) (w : World) (hn : n ≤ 1099511627776) (hri : w.rowIs g 3 n f) :
    Calls Tryd.prog 14 #[.slice (some ⟨g, 0, none⟩) n n] w fun e w' => e = .returned (.tuple #[]) ∧ Pair g g w w' := by
  obtain ⟨i0, hi, hz0, hz1, hz2⟩ := info_parts Tryd.infoInt
  have HI := hid hri
  have hg := hri.lt
  clear hri
  go_enter Tryd.func14, Tryd.ntmps14
  go_wp2_with fail
  go_loopw [2] (fun iv wr => ∃ (k : Nat) (o : Nat → Value), k ≤ n ∧ iv = .int .i64 k ∧ Hid (wr.rowIs g 3 n o) ∧ Hid (Pair g g w wr)) (fun iv _ => n - (intOf iv).toNat)
  case atStart => exact ⟨0, f, Nat.zero_le _, rfl, HI, Pair.refl _ _ _⟩
  case round =>
    obtain ⟨k, o, hk, rfl, hro, hbel⟩ := hrel
    by_cases hlt : k < n
    · have hlt2 : (k : Int) < (n : Int) := by omega
      have hc := hro.out.cell hlt
      have hf := hro.out.frozen k
      have HR := hid (hro.out.set k (.int .i64 (-77)))
      have HB := hid (hbel.out.setCell (p := ⟨g, k, none⟩) (.inl rfl) (.int .i64 (-77)))
      go_wp2_with fail
      go_roundw
      case rel => exact ⟨k + 1, _, by omega, by go_num, HR, HB⟩
      case measure => simp [intOf]; omega
    · have hlt2 : ¬ (k : Int) < (n : Int) := by omega
      obtain ⟨xs, hown⟩ := owns_of_rowIs hro.out (by unfold maxLen; omega)
      have hsz := hbel.out.size
      go_wp2_with (at_builtin; refine wpList_append_own _ rfl _ _ 27 rfl g 3 i0 (.int .i64 0) 1 8 Tryd.underlying27 hi hz0 hz1 hz2 rfl (by decide) _ _ _ rfl (hown.alloc _) ⟨wr.heap.size, 0, none⟩ 2 2 [.int .i64 (-78), .int .i64 (-79)] rfl rfl ?c1 ?c2 ?c3 ?c4 ?c5 ?_)
      case c2 => first | (exact ⟨rfl, rfl⟩) | (intro u hu; simp at hu; rcases hu with rfl | rfl <;> rfl)
      case c3 => unfold maxLen; omega
      case c4 => omega
      case c5 => first | omega | (simp; omega)
      intro v' w2 hown2 hgrow _
      have HB : Hid (Pair g g w w2) := (hbel.out.alloc _).grown hgrow (fun k hk => by left; cases hk; rfl)
      clear hown2 hgrow hown
      go_wp2_with fail
      go_end0
      exact ⟨rfl, HB.out⟩

end Go.Proofs.YtidkhgplejglaacDoor
