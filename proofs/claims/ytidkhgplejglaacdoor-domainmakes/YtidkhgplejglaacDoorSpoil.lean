/- attestsame.Spoil writes to its own list alone; and lists that stay alive while a law goes on. -/
import Derived.Test.YtidkhgplejglaacDoorPolA
import Derived.Test.YtidkhgplejglaacDoorOwns
namespace Go.Proofs.YtidkhgplejglaacDoor
open Go.RowKit

theorem owns_of_rowIs {w : World} {g n : Nat} {f : Nat → Value} (h : w.rowIs g 3 n f) (hn : n ≤ maxLen) : ∃ xs : List Value, w.ownsRow g 3 1 (.slice (some ⟨g, 0, none⟩) n n) n xs := by
  obtain ⟨c, hb, hs, _⟩ := h
  exact ⟨c.toList, by simp [hs], .inr ⟨g, n, c, rfl, Nat.le_refl _, hb, Nat.le_refl _, hn, by omega, by rw [List.take_of_length_le (by simp [hs])]⟩⟩

set_option maxHeartbeats 1000000 in
theorem spoil_any (g n : Nat) (f : Nat → Value) (w : World) (hn : n ≤ 1099511627776) (hri : w.rowIs g 3 n f) :
    Calls Tryd.prog 14 #[.slice (some ⟨g, 0, none⟩) n n] w fun e w' => e = .returned (.tuple #[]) ∧ Below g w w' := by
  obtain ⟨i0, hi, hz0, hz1, hz2⟩ := info_parts Tryd.infoInt
  have HI := hid hri
  have hg := hri.lt
  clear hri
  go_enter Tryd.func14, Tryd.ntmps14
  go_wp2_with fail
  go_loopw [2] (fun iv wr => ∃ (k : Nat) (o : Nat → Value), k ≤ n ∧ iv = .int .i64 k ∧ Hid (wr.rowIs g 3 n o) ∧ Hid (Below g w wr)) (fun iv _ => n - (intOf iv).toNat)
  case atStart => exact ⟨0, f, Nat.zero_le _, rfl, HI, Below.refl _ _⟩
  case round =>
    obtain ⟨k, o, hk, rfl, hro, hbel⟩ := hrel
    by_cases hlt : k < n
    · have hlt2 : (k : Int) < (n : Int) := by omega
      have hc := hro.out.cell hlt
      have hf := hro.out.frozen k
      have HR := hid (hro.out.set k (.int .i64 (-77)))
      have HB := hid (hbel.out.setCell (p := ⟨g, k, none⟩) (Nat.le_refl _) (.int .i64 (-77)))
      go_wp2_with fail
      go_roundw
      case rel => exact ⟨k + 1, _, by omega, by go_num, HR, HB⟩
      case measure => simp [intOf]; omega
    · have hlt2 : ¬ (k : Int) < (n : Int) := by omega
      obtain ⟨xs, hown⟩ := owns_of_rowIs hro.out (by unfold maxLen; omega)
      have hsz := hbel.out.size
      go_wp2_with (at_builtin; refine wpList_append_own _ rfl _ _ 27 rfl g 3 i0 (.int .i64 0) 1 8 Tryd.underlying27 hi hz0 hz1 hz2 rfl (by decide) _ _ _ rfl (hown.alloc _) ⟨wr.heap.size, 0, none⟩ 2 2 [.int .i64 (-78), .int .i64 (-79)] rfl rfl ?c1 ?c2 ?c3 ?c4 ?c5 ?_)
      case c2 => first | (exact ⟨rfl, rfl⟩) | (intro u hu; simp at hu; rcases hu with rfl | rfl <;> rfl)
      case c3 => unfold maxLen; omega
      case c4 => omega
      case c5 => first | omega | (simp; omega)
      intro v' w2 hown2 hgrow _
      have HB : Hid (Below g w w2) := (hbel.out.alloc (by omega) _).grown hgrow (by simp; omega) (fun k hk => (hown.lt k hk).1)
      clear hown2 hgrow hown
      go_wp2_with fail
      go_end0
      exact ⟨rfl, HB.out⟩

/-- lists that can be read now -/
def Alive (w : World) (L : List (Option Addr × List Int)) : Prop := ∀ e, e ∈ L → RowB w.heap.size w e.1 e.2
theorem Alive.step {w w' : World} {L : List (Option Addr × List Int)} (h : Alive w L) (hb : Below w.heap.size w w') : Alive w' L := fun e he => (RowB.below hb (h e he)).mono hb.size
theorem Alive.nil (w : World) : Alive w [] := fun e he => by cases he
theorem Alive.cons {w : World} {L : List (Option Addr × List Int)} {a : Option Addr} {zs : List Int} (h : Alive w L) (r : RowB w.heap.size w a zs) : Alive w ((a, zs) :: L) := fun e he => by
  cases he with
  | head => exact r
  | tail _ he => exact h e he
theorem Alive.drewN {w : World} {L : List (Option Addr × List Int)} (h : Alive w L) (n : Nat) : Alive (w.drewN n) L := fun e he k hk => by
  obtain ⟨b, o, h1, h2, h3⟩ := h e he k hk
  exact ⟨b, o, h1, h2, h3⟩
theorem Alive.at {w : World} {L : List (Option Addr × List Int)} (h : Alive w L) (i : Nat) {a : Option Addr} {zs : List Int} (e : L[i]? = some (a, zs)) : RowB w.heap.size w a zs := h _ (List.mem_of_getElem? e)
theorem ints_same (n0 n1 : Nat) (zs : List Int) (a b : Option Addr) (ca cb : Nat) (w : World) (ha : RowB n0 w a zs) (hb : RowB n1 w b zs) (hx : zs.length ≤ 9223372036854775807) :
    Calls Tryd.prog 9 #[.slice a zs.length ca, .slice b zs.length cb] w fun e w' => e = .returned (.bool true) ∧ ∃ n, w' = w.drewN n :=
  (ints_any zs zs _ _ w (rowZ_of_B ca ha) (rowZ_of_B cb hb) hx hx).mono fun _ _ h => ⟨by rw [h.1, decide_eq_true rfl], h.2⟩

end Go.Proofs.YtidkhgplejglaacDoor
