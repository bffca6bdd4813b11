/- attestref6: look, tell, must. -/
import Derived.Test.YtoodjpkflcbfdaiDoorMacB
namespace Go.Proofs.YtoodjpkflcbfdaiDoor
open Go.RowKit

/-- the machine in memory -/
def MacAt (M base p : Nat) (s : RM) (w : World) : Prop := base ≤ w.heap.size ∧ ∃ v, w.rowIs M 75 14 (rmv p v s) ∧ CelR base w v s.cs
theorem CelR.ne {base M n : Nat} {F : Nat → Value} {w : World} {v : Value} {cs : List (Int × Int)} (h : CelR base w v cs) (hr : w.rowIs M 75 n F) : v.ownBlock ≠ some M := fun e => by
  obtain ⟨cs', hb, _⟩ := hr
  rcases h.2 with ⟨rfl, _⟩ | ⟨g, cap, cur, rfl, _, hg, _⟩
  · cases e
  · simp [Value.ownBlock] at e
    subst e
    rw [hb] at hg
    injection hg with hg
    injection hg with _ hg _
    exact absurd hg (by decide)
theorem CelR.kept {base M n : Nat} {F : Nat → Value} {w w' : World} {v : Value} {cs : List (Int × Int)} (h : CelR base w v cs) (hr : w.rowIs M 75 n F) (g : w.grownBy w' (some M)) : CelR base w' v cs :=
  World.ownsRow.kept h g (.inr (h.ne hr))
theorem gb_low {N M : Nat} {w w' : World} (h : w.grownBy w' (some M)) (hN : N ≤ M) (hM : M < w.heap.size) : Below N w w' := ⟨h.os, h.tape, h.output, h.size, fun k hk => h.block k (by omega) (by intro e; injection e with e; omega)⟩
/-- what is no machine, and no list of cells, stays -/
def KM (w w' : World) : Prop := w.heap.size ≤ w'.heap.size ∧ ∀ (b : Nat) (cs : Array Value) (t : TypeId) (f : Nat × Nat), w.heap[b]? = some (.cells cs t f) → t ≠ 75 → t ≠ 67 → w'.heap[b]? = w.heap[b]?
def FrM (N : Nat) (w w' : World) : Prop := Below N w w' ∧ KM w w'
theorem FrM.refl (N : Nat) (w : World) : FrM N w w := ⟨Below.refl _ _, Nat.le_refl _, fun _ _ _ _ _ _ _ => rfl⟩
theorem FrM.trans {N : Nat} {a b c : World} (h : FrM N a b) (k : FrM N b c) : FrM N a c := ⟨h.1.trans k.1, Nat.le_trans h.2.1 k.2.1, fun g cs t f e h1 h2 => (k.2.2 g cs t f ((h.2.2 g cs t f e h1 h2).trans e) h1 h2).trans (h.2.2 g cs t f e h1 h2)⟩
theorem FrM.gb {N M n : Nat} {F : Nat → Value} {w w' : World} (h : w.grownBy w' (some M)) (hN : N ≤ M) (hr : w.rowIs M 75 n F) : FrM N w w' := by
  obtain ⟨cs, hb, _⟩ := hr
  refine ⟨gb_low h hN (Array.getElem?_eq_some_iff.1 hb).1, h.size, fun b cs' t f e h1 _ => h.block b (Array.getElem?_eq_some_iff.1 e).1 ?_⟩
  intro hh
  injection hh with hh
  subst hh
  rw [hb] at e
  injection e with e
  injection e with _ e _
  exact h1 e.symm
def RM.look (s : RM) (x : Int) : RM × Int := if s.err ≠ 0 then (s, 0) else if finz s.cs x < 0 then ({ s with err := 10 }, 0) else (s.shown x (cat s.cs (finz s.cs x).toNat).2, (cat s.cs (finz s.cs x).toNat).2)
def RM.must (s : RM) (b : Bool) : RM := if s.err = 0 ∧ b = false then { s with err := 7 } else s
def RM.tell (p : Nat) (s : RM) (x y : Int) : RM := if s.err ≠ 0 then s else if 0 ≤ finz s.cs x ∧ (cat s.cs (finz s.cs x).toNat).2 ≠ y % p then { s with err := 7 } else
  if finz s.cs x < 0 then ({ s with cs := s.cs ++ [(x, y % p)] } : RM).shown x (y % p) else s.shown x (y % p)
theorem finz_cases (cs : List (Int × Int)) (x : Int) : finz cs x = -1 ∨ ∃ i : Nat, finz cs x = i ∧ i < cs.length ∧ (cat cs i).1 = x := by
  unfold finz
  split
  · rename_i i h
    rw [List.findIdx?_eq_some_iff_getElem] at h
    obtain ⟨h1, h2, _⟩ := h
    exact .inr ⟨i, rfl, h1, by simpa [cat, h1] using h2⟩
  · exact .inl rfl

set_option maxRecDepth 100000 in
set_option maxHeartbeats 1000000 in
theorem rmust_any (N M base p : Nat) (s : RM) (b : Bool) (w : World) (h : MacAt M base p s w) (hN : N ≤ M) :
    Calls Tryd.prog 47 #[.pointer (some ⟨M, 0, none⟩), .bool b] w fun e w' => e = .returned (.tuple #[]) ∧ MacAt M base p (s.must b) w' ∧ FrM N w w' := by
  obtain ⟨hb, v, hr, hc⟩ := h
  have c13 : w.cell? ⟨M, 13, none⟩ = some (.int .i64 s.err) := hr.cell (i := 13) (by decide)
  have f := hr.frozen
  have HI := hid (⟨hb, v, hr, hc⟩ : MacAt M base p s w)
  have HR := hid hr
  have HC := hid hc
  have HG : Hid (w.grownBy (w.setCell ⟨M, 13, none⟩ (.int .i64 7)) (some M)) := gbM (gb_same w M)
  obtain ⟨e, he⟩ : ∃ e, e = s.err := ⟨_, rfl⟩
  rw [← he] at c13
  have HE := hid he
  obtain ⟨s', hs'⟩ : ∃ s', s' = s.must b := ⟨_, rfl⟩
  rw [← hs']
  have HS := hid hs'
  clear hr hc he hs'
  by_cases h0 : e = 0
  · subst h0
    cases b with
    | true =>
      go_enter Tryd.func47, Tryd.ntmps47
      go_wp2_with fail
      go_end0
      rw [HS.out]
      have : s.must true = s := by unfold RM.must; rw [if_neg (by simp)]
      rw [this]
      exact ⟨rfl, HI.out, FrM.refl _ _⟩
    | false =>
      go_enter Tryd.func47, Tryd.ntmps47
      go_wp2_with fail
      go_end0
      rw [HS.out]
      have : s.must false = { s with err := 7 } := by unfold RM.must; rw [if_pos ⟨HE.out.symm, rfl⟩]
      rw [this]
      exact ⟨rfl, ⟨by simpa [World.setCell] using hb, v, (HR.out.set 13 _).congr (rmv_err p v s 7), HC.out.kept HR.out HG.out⟩, FrM.gb HG.out hN HR.out⟩
  · have h1 : (e == 0) = false := by simp [h0]
    have h2 : s.must b = s := by unfold RM.must; rw [if_neg (fun hh => h0 (HE.out.trans hh.1))]
    have HX := hid h2
    clear h2 h0
    go_enter Tryd.func47, Tryd.ntmps47
    go_wp2_with fail
    go_end0
    rw [HS.out, HX.out]
    exact ⟨rfl, HI.out, FrM.refl _ _⟩

set_option maxRecDepth 100000 in
set_option maxHeartbeats 1000000 in
theorem rlook_any (N M base p : Nat) (s : RM) (x : Int) (w : World) (h : MacAt M base p s w) (hN : N ≤ M) (hl : s.cs.length ≤ 1000000) (h3 : s.err = 0 → s.slot < 3) :
    Calls Tryd.prog 44 #[.pointer (some ⟨M, 0, none⟩), .int .i64 x] w fun e w' => e = .returned (.int .i64 (s.look x).2) ∧ MacAt M base p (s.look x).1 w' ∧ FrM N w w' := by
  obtain ⟨hb, v, hr, hc⟩ := h
  have c13 : w.cell? ⟨M, 13, none⟩ = some (.int .i64 s.err) := hr.cell (i := 13) (by decide)
  have c1 : w.cell? ⟨M, 1, none⟩ = some v := hr.cell (i := 1) (by decide)
  have f := hr.frozen
  have HI := hid (⟨hb, v, hr, hc⟩ : MacAt M base p s w)
  have HR := hid hr
  have HC := hid hc
  have HG : Hid (w.grownBy (w.setCell ⟨M, 13, none⟩ (.int .i64 10)) (some M)) := gbM (gb_same w M)
  have HF := hid (rfind_any M base v s.cs x w c1 hc hl)
  obtain ⟨e, he⟩ : ∃ e, e = s.err := ⟨_, rfl⟩
  rw [← he] at c13 h3
  have HE := hid he
  obtain ⟨L, hL⟩ : ∃ L, L = s.look x := ⟨_, rfl⟩
  rw [← hL]
  have HL := hid hL
  clear hr hc he hL
  by_cases h0 : e = 0
  · subst h0
    have hs3 := h3 rfl
    rcases finz_cases s.cs x with hm | ⟨i, hi, hil, hix⟩
    · rw [hm] at HF
      have HX : Hid (L = ({ s with err := 10 }, 0)) := by unfold Hid; rw [HL.out]; unfold RM.look; rw [if_neg (by rw [← HE.out]; simp), if_pos (by rw [hm]; decide)]
      clear hm
      go_enter Tryd.func44, Tryd.ntmps44
      go_wp2_with fail
      refine HF.out.mono ?_
      rintro e w1 ⟨rfl, rfl⟩
      go_wp2_with fail
      go_ret
      rw [HX.out]
      exact ⟨rfl, ⟨by simpa [World.setCell] using hb, v, (HR.out.set 13 _).congr (rmv_err p v s 10), HC.out.kept HR.out HG.out⟩, FrM.gb HG.out hN HR.out⟩
    · rw [hi] at HF
      obtain ⟨g, cap, hv, hgb, d1, d2⟩ := HC.out.at hil
      obtain ⟨n, hn⟩ : ∃ n, n = s.cs.length := ⟨_, rfl⟩
      rw [← hn] at hv hil hl
      subst hv
      obtain ⟨y, hy⟩ : ∃ y, y = (cat s.cs i).2 := ⟨_, rfl⟩
      rw [← hy] at d2
      have HX : Hid (L = (s.shown x y, y)) := by
        unfold Hid
        rw [HL.out]
        unfold RM.look
        rw [if_neg (by rw [← HE.out]; simp), if_neg (by rw [hi]; omega), hi, Int.toNat_natCast, ← hy]
      have hn0 : ¬ (i : Int) < 0 := by omega
      have hin : (i : Int) < (n : Int) := by omega
      have HSH := hid (rshown_any M p (.slice (some ⟨g, 0, none⟩) n cap) s x y w HR.out hs3)
      clear hi hix d1 hn hy h3
      go_enter Tryd.func44, Tryd.ntmps44
      go_wp2_with fail
      refine HF.out.mono ?_
      rintro e w1 ⟨rfl, rfl⟩
      go_wp2_with fail
      refine HSH.out.mono ?_
      rintro e w2 ⟨rfl, hr2, hg2, hz2⟩
      have k1 : w2.cell? ⟨M, 1, none⟩ = some (.slice (some ⟨g, 0, none⟩) n cap) := hr2.cell (i := 1) (by decide)
      have hgl : g < w1.heap.size := World.block_lt_of_cell? _ _ d2
      have k2 := (World.cell?_of_block (a := ⟨g, i * 2 + 1, none⟩) (hg2.block g hgl (HC.out.ne HR.out))).trans d2
      have HE2 : Hid (MacAt M base p (s.shown x y) w2 ∧ FrM N w1 w2) := ⟨⟨by omega, _, hr2, HC.out.kept HR.out hg2⟩, FrM.gb hg2 hN HR.out⟩
      clear hr2 hg2 hz2 HSH HF
      go_wp2_with fail
      go_ret
      rw [HX.out]
      exact ⟨rfl, HE2.out⟩
  · have h1 : (e != 0) = true := by simp [h0]
    have HX : Hid (L = (s, 0)) := by unfold Hid; rw [HL.out]; unfold RM.look; rw [if_pos (by rw [← HE.out]; exact h0)]
    clear h0 h3
    go_enter Tryd.func44, Tryd.ntmps44
    go_wp2_with fail
    go_ret
    rw [HX.out]
    exact ⟨rfl, HI.out, FrM.refl _ _⟩

end Go.Proofs.YtoodjpkflcbfdaiDoor
