/- slices.Clone of a list of numbers that is not empty. -/
import Derived.Test.YtidkhgplejglaacDoorDomG
import Derived.Test.YtidkhgplejglaacDoorOwns
import Derived.Lib.SliceRun
namespace Go.Proofs.YtidkhgplejglaacDoor
open Go.RowKit

theorem rowIs_of_owns {w : World} {base : Nat} {v : Value} {zs : List Int} (h : w.ownsRow base 3 1 v zs.length (zs.map (Value.int .i64))) (h0 : 0 < zs.length) :
    ∃ (g N : Nat) (F : Nat → Value), v = .slice (some ⟨g, 0, none⟩) zs.length N ∧ base ≤ g ∧ w.rowIs g 3 N F ∧ zs.length ≤ N ∧ ∀ j, j < zs.length → F j = .int .i64 (zat zs j) := by
  rcases h.2 with ⟨_, h2⟩ | ⟨g, cap, cur, hv, hb, hg, hn, _, hs, ht⟩
  · omega
  · refine ⟨g, cap, fun j => cur.getD j (.int .i64 0), hv, hb, ⟨cur, hg, by omega, fun i hi => ?_⟩, hn, fun j hj => ?_⟩
    · simp [show i < cur.size by omega]
    · have e : (cur.toList.take (zs.length * 1))[j]? = (zs.map (Value.int .i64))[j]? := by rw [ht]
      rw [List.getElem?_take, if_pos (by omega)] at e
      simp [hj, show j < cur.size by omega, zat] at e ⊢
      exact e

set_option maxRecDepth 100000 in
set_option maxHeartbeats 1000000 in
theorem clone_any (a : Option Addr) (cap : Nat) (zs : List Int) (w : World) (h0 : 0 < zs.length) (hlen : zs.length ≤ 17592186044416) (hl : Lst w.heap.size w a cap zs) :
    Calls Tryd.prog 34 #[.slice a zs.length cap] w fun e w' => ∃ (g N : Nat) (F : Nat → Value),
      e = .returned (.slice (some ⟨g, 0, none⟩) zs.length N) ∧ w.heap.size ≤ g ∧ w'.rowIs g 3 N F ∧ zs.length ≤ N ∧ (∀ j, j < zs.length → F j = .int .i64 (zat zs j)) ∧ Below w.heap.size w w' := by
  obtain ⟨i0, hi, hz0, hz1, hz2⟩ := info_parts Tryd.infoInt
  obtain ⟨b, off, rfl, _, _⟩ := hl.row 0 h0
  have HL := hid hl
  have hown : (w.alloc (.cells #[] 3)).ownsRow w.heap.size 3 1 (.slice (some ⟨w.heap.size, 0, none⟩) 0 0) 0 [] := World.ownsRow_made (size := 1) w #[] 0 (Nat.le_refl _) (by unfold maxLen; omega) (by simp)
  have hb0 : Below w.heap.size w (w.alloc (.cells #[] 3)) := (Below.refl _ _).alloc (Nat.le_refl _) _
  have q22 : ∀ (w : World) (a : Option Addr) (n c n' c' : Nat), (binOp .eql 27 (.slice a n c) (.slice none n' c')).run Tryd.prog w = .ok (.bool a.isNone) w := fun w a n c n' c' => Lib.run_eql_slice_nil w _ _ a n c n' c' Tryd.underlying27
  clear hl
  go_enter Tryd.func34, Tryd.ntmps34
  go_wp2_with (at_builtin; refine wpList_append_own _ rfl _ _ 27 rfl w.heap.size 3 i0 (.int .i64 0) 1 8 Tryd.underlying27 hi hz0 hz1 hz2 rfl (by decide) _ _ _ rfl hown ⟨b, off, none⟩ zs.length cap (zs.map (Value.int .i64)) rfl (by simp) ?q1 ?q2 (by unfold maxLen; omega) (by omega) (by simp) ?_)
  case q1 =>
    intro j u hu
    have hj : j < zs.length := by
      rcases Nat.lt_or_ge j zs.length with g | g
      · exact g
      · simp [g] at hu
    obtain ⟨b', off', h1, h2, h5⟩ := HL.out.row j hj
    cases h1
    have hadd : (⟨b, off, none⟩ : Addr).add j = ⟨b, off + j, none⟩ := by unfold Addr.add; split <;> simp_all
    rw [hadd, World.cell?_alloc_lt _ _ ⟨b, off + j, none⟩ h2]
    refine h5.trans ?_
    simp [zat, hj] at hu ⊢
    exact hu
  case q2 => intro u hu; obtain ⟨y, _, rfl⟩ := List.mem_map.1 hu; rfl
  intro v' w2 hown2 hgrow _
  have hb2 : Below w.heap.size w w2 := hb0.grown hgrow (by simp) (fun k hk => (hown.lt k hk).1)
  obtain ⟨g, N, F, rfl, h1, h2, h3, h4⟩ := rowIs_of_owns hown2 h0
  have H1 := hid (And.intro h1 (And.intro h2 (And.intro h3 (And.intro h4 hb2))))
  clear h1 h2 h3 h4 hb2 hown2 hgrow hown hb0
  go_wp2_with fail
  go_ret
  exact ⟨g, N, F, rfl, H1.out.1, H1.out.2.1, H1.out.2.2.1, H1.out.2.2.2.1, H1.out.2.2.2.2⟩

end Go.Proofs.YtidkhgplejglaacDoor
