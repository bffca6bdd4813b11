/- attestref5: places, Shows. Rows of pointers that the call owns. What package chain must answer; attestlaw3.done, of that. -/
import Derived.Test.YtlhjifpomchnfaaGreatDoorPoAR
import Derived.Test.YtlhjifpomchnfaaGreatDoorTres
import Derived.Test.YtlhjifpomchnfaaGreatDoorPls
import Derived.Test.YtlhjifpomchnfaaGreatDoorDoms
namespace Go.Proofs.YtlhjifpomchnfaaGreatDoor
open Go.RowKit

theorem RCn.below {q : Nat} {w w' : World} {r : Nat} {D : List Int} {lo : Nat} (h : RCn q w r D lo) (e : Below w.heap.size w w') : RCn q w' r D lo := by
  obtain ⟨g, c, h1, h2, h3⟩ := h
  exact ⟨g, c, (e.block _ (Array.getElem?_eq_some_iff.1 h1).1).trans h1, h2.below e, h3⟩

set_option maxRecDepth 100000 in
set_option maxHeartbeats 1000000 in
theorem rplace_new (q n r : Nat) (N : Int) (D : List Int) (w : World) (h5 : 5 ≤ q) (h4 : q ≤ 2147483647) (hpn : Spo.PowIs q n) (hlen : D.length ≤ 17592186044000) (hfd : Fits D) (hr : RCh q w r D) (hN1 : 1 ≤ N) (hN2 : N ≤ 65536) :
    Calls Tryz.prog 100 #[.pointer (some ⟨r, 0, none⟩), .int .i64 N] w fun e w' => e = .returned (.int .i64 ((zat (digl q n (4 :: D)) 0 * q + zat (digl q n (4 :: D)) 1) % N)) ∧ RCn q w' r (digl q n (4 :: D)) w.heap.size ∧ w.grownBy w' (some r) := by
  have HS := hid (rstep_new q n r 0 4 none [] D w h5 h4 hpn (by omega) (by simpa using hlen) hfd (fun j hj => by simp at hj) hr (numL_nil w).1)
  rw [List.append_nil, List.length_nil] at HS
  have t1 : ¬ N < 1 := by omega
  have t2 : ¬ 65536 < N := by omega
  have hbd : ∀ j, j < 4 → 0 ≤ zat (digl q n (4 :: D)) j ∧ zat (digl q n (4 :: D)) j < (q : Int) := fun j hj => by
    unfold digl
    rw [ls_at _ _ _ hj]
    have := hst_bounds q n (pdf q (zat (4 :: D)) (4 :: D).length) ((4 :: D).length / 4 + 1) j (by omega)
    omega
  have hz0 := hbd 0 (by omega)
  have hz1 := hbd 1 (by omega)
  clear hpn hfd hr hbd
  go_enter Tryz.func100, Tryz.ntmps100
  go_wp2_with fail
  refine HS.out.mono ?_
  rintro e w1 ⟨rfl, hr, hg⟩
  have HE : Hid (RCn q w1 r (digl q n (4 :: D)) w.heap.size ∧ w.grownBy w1 (some r)) := ⟨hr, hg⟩
  obtain ⟨a, c, hb, hn⟩ := hr.rch
  rw [digl_len] at hb
  have c0 := duo0 hb
  have c1 := duo1 hb
  obtain ⟨g, o, rfl, _, hc0⟩ := hn.1.row 0 (by rw [digl_len]; omega)
  obtain ⟨_, _, e1, _, hc1⟩ := hn.1.row 1 (by rw [digl_len]; omega)
  cases e1
  rw [Nat.add_zero] at hc0
  clear hg HS hb hn hr
  obtain ⟨x, hx⟩ : ∃ x, x = zat (digl q n (4 :: D)) 0 := ⟨_, rfl⟩
  obtain ⟨y, hy⟩ : ∃ y, y = zat (digl q n (4 :: D)) 1 := ⟨_, rfl⟩
  rw [← hx] at hc0 hz0
  rw [← hy] at hc1 hz1
  have HX := hid hx
  have HY := hid hy
  clear hx hy
  have hx2 : x * (q : Int) ≤ 2147483647 * 2147483647 := Int.mul_le_mul (by omega) (by omega) (by omega) (by omega)
  have hx0 : 0 ≤ x * (q : Int) := Int.mul_nonneg hz0.1 (by omega)
  obtain ⟨m, hm⟩ : ∃ m, m = x * (q : Int) := ⟨_, rfl⟩
  have HM := hid hm
  have hm2 := hm.symm
  rw [← hm] at hx2 hx0
  clear hm
  have hw1 : IntKind.i64.wrap m = m := by rw [IntKind.wrap_i64]; omega
  have hw2 : IntKind.i64.wrap (m + y) = m + y := by rw [IntKind.wrap_i64]; omega
  have hN0 : ¬ N = 0 := by omega
  have hte : (m + y).tmod N = (m + y) % N := Int.tmod_eq_emod_of_nonneg (by omega)
  have hw3 : IntKind.i64.wrap ((m + y) % N) = (m + y) % N := by
    rw [IntKind.wrap_i64]
    have := Int.emod_nonneg (m + y) hN0
    have := Int.emod_lt_of_pos (m + y) (show 0 < N by omega)
    omega
  go_wp2_with fail
  go_quiet (fail)
  go_wp2_with fail
  go_ret
  exact ⟨by rw [← HX.out, ← HY.out, ← HM.out]; rfl, HE.out.1.below (below_drewN (Below.refl _ _) _), gb_trans HE.out.2 (gb_below (below_drewN (Below.refl _ _) _))⟩

/-- a chain behind some places -/
def pld (q n : Nat) : Nat → List Int → List Int
  | 0, D => D
  | i + 1, D => digl q n (4 :: pld q n i D)
def plz (q n N : Nat) (D : List Int) (i : Nat) : Int := (zat (pld q n (i + 1) D) 0 * q + zat (pld q n (i + 1) D) 1) % (N : Int)
theorem pld_len {q n : Nat} {D : List Int} (h : D.length ≤ 17592186044000) : ∀ i, (pld q n i D).length ≤ 17592186044000
  | 0 => h
  | i + 1 => by rw [pld, digl_len]; omega
theorem pld_fits {q n : Nat} (h3 : 3 ≤ q) (h4 : q ≤ 2147483647) {D : List Int} (h : Fits D) : ∀ i, Fits (pld q n i D)
  | 0 => h
  | i + 1 => by rw [pld]; exact digl_fits h3 h4 _ _
theorem plz_bounds {q n N : Nat} (hN : 0 < N) (D : List Int) (i : Nat) : 0 ≤ plz q n N D i ∧ plz q n N D i < (N : Int) := ⟨Int.emod_nonneg _ (by omega), Int.emod_lt_of_pos _ (by omega)⟩

end Go.Proofs.YtlhjifpomchnfaaGreatDoor

namespace Go.Proofs.YtlhjifpomchnfaaGreatDoor
open Go.RowKit

def ptrs (cs : List Nat) : List Value := cs.map fun c => .pointer (some ⟨c, 0, none⟩)
def OwnP (base : Nat) (w : World) (t : TypeId) (v : Value) (cs : List Nat) : Prop := w.ownsRow base t 1 v cs.length (ptrs cs)
theorem ptrs_at {cs : List Nat} {k : Nat} (h : k < cs.length) : (ptrs cs)[k]? = some (.pointer (some ⟨cs.getD k 0, 0, none⟩)) := by
  unfold ptrs
  simp [h]
theorem OwnP.one (w : World) (t : TypeId) (c : Nat) : OwnP w.heap.size (w.alloc (.cells #[.pointer (some ⟨c, 0, none⟩)] t)) t (.slice (some ⟨w.heap.size, 0, none⟩) 1 1) [c] :=
  ⟨by simp [ptrs], .inr ⟨w.heap.size, 1, #[.pointer (some ⟨c, 0, none⟩)], rfl, Nat.le_refl _, heap_alloc_new w _, Nat.le_refl _, by unfold maxLen; omega, rfl, by simp [ptrs]⟩⟩
theorem OwnP.mono {base base' : Nat} {w : World} {t : TypeId} {v : Value} {cs : List Nat} (h : OwnP base w t v cs) (hb : base' ≤ base) : OwnP base' w t v cs := by
  obtain ⟨h1, h2⟩ := h
  refine ⟨h1, h2.imp id ?_⟩
  rintro ⟨g, cap, cur, e, hg, r⟩
  exact ⟨g, cap, cur, e, by omega, r⟩
/-- its form, where it holds something -/
theorem OwnP.form {base : Nat} {w : World} {t : TypeId} {v : Value} {cs : List Nat} (h : OwnP base w t v cs) (h0 : 0 < cs.length) : ∃ g cap, v = .slice (some ⟨g, 0, none⟩) cs.length cap ∧ base ≤ g ∧ g < w.heap.size ∧ v.ownBlock = some g ∧ (∃ cur f, w.heap[g]? = some (.cells cur t f)) ∧ cs.length ≤ cap ∧ ∀ k, k < cs.length → w.cell? ⟨g, k, none⟩ = some (.pointer (some ⟨cs.getD k 0, 0, none⟩)) := by
  have h' := h
  obtain ⟨h1, h2⟩ := h
  rcases h2 with ⟨_, h3⟩ | ⟨g, cap, cur, rfl, hg, hb, hn, hm, hs, ht⟩
  · omega
  · refine ⟨g, cap, rfl, hg, (Array.getElem?_eq_some_iff.1 hb).1, rfl, ⟨cur, _, hb⟩, hn, fun k hk => ?_⟩
    rw [← ptrs_at hk]
    exact World.ownsRow.cellAt h' k (by omega)
/-- another block's turn leaves it -/
theorem OwnP.kept {base : Nat} {w w' : World} {t : TypeId} {v : Value} {cs : List Nat} {own : Option Nat} (h : OwnP base w t v cs) (e : w.grownBy w' own) (hne : v.ownBlock = none ∨ v.ownBlock ≠ own) : OwnP base w' t v cs := World.ownsRow.kept h e hne
theorem OwnP.below {base : Nat} {w w' : World} {t : TypeId} {v : Value} {cs : List Nat} (h : OwnP base w t v cs) (e : Below w.heap.size w w') : OwnP base w' t v cs := by
  refine h.kept (own := none) ⟨e.os, e.tape, e.output, e.size, fun k hk _ => e.block k hk⟩ ?_
  cases v.ownBlock with
  | none => exact .inl rfl
  | some k => exact .inr (by simp)
/-- l[:k] -/
theorem OwnP.take {base : Nat} {w : World} {t : TypeId} {g cap k : Nat} {cs : List Nat} (h : OwnP base w t (.slice (some ⟨g, 0, none⟩) cs.length cap) cs) (hk : k ≤ cs.length) : OwnP base w t (.slice (some ⟨g, 0, none⟩) k cap) (cs.take k) := by
  obtain ⟨h1, h2⟩ := h
  rcases h2 with ⟨e1, _⟩ | ⟨g', cap', cur, e1, r1, r2, r3, r4, r5, r6⟩
  · cases e1
  · cases e1
    refine ⟨by simp [ptrs], .inr ⟨g, cap, cur, by rw [List.length_take, Nat.min_eq_left hk], r1, r2, by rw [List.length_take]; omega, r4, r5, ?_⟩⟩
    have e2 : ptrs (cs.take k) = (ptrs cs).take k := by unfold ptrs; rw [List.map_take]
    rw [e2, ← r6, List.take_take, List.length_take]
    congr 1
    omega

end Go.Proofs.YtlhjifpomchnfaaGreatDoor

namespace Go.Proofs.YtlhjifpomchnfaaGreatDoor
open Go.RowKit

/-- a digest -/
def Dig (D : List Int) : Prop := D.length = 4 ∧ Fits D
theorem dig_digl {q : Nat} (h3 : 3 ≤ q) (h4 : q ≤ 2147483647) (n : Nat) (l : List Int) : Dig (digl q n l) := ⟨digl_len _ _ _, digl_fits h3 h4 _ _⟩
theorem NumL.other {w w' : World} {a : Option Addr} {c s : Nat} {l : List Int} (h : NumL w a c l) (e : w.grownBy w' (some s)) (hs : ∀ (cs : Array Value) (f : Nat × Nat), w.heap[s]? ≠ some (.cells cs 3 f)) : NumL w' a c l :=
  h.blocks e.size (fun g cs f hg => gb_blk e (Array.getElem?_eq_some_iff.1 hg).1 (fun he => hs cs f (by rw [← he]; exact hg)))
end Go.Proofs.YtlhjifpomchnfaaGreatDoor
