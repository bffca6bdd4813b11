/- attestref12: Rows, Columns, Root. A pledge in memory, and what lies beside it. Package pledge: rows asked through powers, and through weights. Package tree: Root, with a list of its own. Package pledge: what Open holds on its way. -/
import Derived.Test.YtlhjifpomchnfaaGreatDoorPoAN
import Derived.Test.YtlhjifpomchnfaaGreatDoorPoAO
import Derived.Test.YtlhjifpomchnfaaGreatDoorDoms
import Derived.Test.YtlhjifpomchnfaaGreatDoorPoAR
import Derived.Test.YtlhjifpomchnfaaGreatDoorPoAM
import Derived.Test.YtlhjifpomchnfaaGreatDoorPoAP
import Derived.Test.YtlhjifpomchnfaaGreatDoorPoAU
namespace Go.Proofs.YtlhjifpomchnfaaGreatDoor
open Go.RowKit

end Go.Proofs.YtlhjifpomchnfaaGreatDoor

namespace Go.Proofs.YtlhjifpomchnfaaGreatDoor
open Go.RowKit

/-- each is a list -/
def IsS (v : Value) : Prop := ∃ a n c, v = .slice a n c
def AlS (F : Nat → Value) : Prop := ∀ i, i < 6 → IsS (F i)
/-- no cell of a list lies in a block of lists -/
theorem ne_lists {w : World} {O b o : Nat} {t : TypeId} {F : Nat → Value} {x : Int} (hO : w.rowIs O t 6 F) (hF : AlS F) (h : w.cell? ⟨b, o, none⟩ = some (.int .i64 x)) : b ≠ O := by
  rintro rfl
  obtain ⟨cs, h1, h2, h3⟩ := hO
  have e : w.cell? ⟨b, o, none⟩ = cs[o]? := by simp [World.cell?, h1]
  rw [e] at h
  by_cases ho : o < 6
  · rw [h3 o ho] at h
    obtain ⟨a, n, c, e2⟩ := hF o ho
    rw [e2] at h
    injection h with h
    cases h
  · rw [Array.getElem?_eq_none (by omega)] at h
    cases h
theorem lst_setP {n0 : Nat} {w : World} {O i : Nat} {t : TypeId} {F : Nat → Value} {v : Value} {a : Option Addr} {c : Nat} {r : List Int} (h : Lst n0 w a c r) (hO : w.rowIs O t 6 F) (hF : AlS F) : Lst n0 (w.setCell ⟨O, i, none⟩ v) a c r :=
  ⟨fun k hk => by
    obtain ⟨b, o, e1, e2, e3⟩ := h.row k hk
    have hne := ne_lists hO hF e3
    exact ⟨b, o, e1, e2, (World.cell?_of_block (w := w) (a := ⟨b, o + k, none⟩) (Below.heap_setCell _ _ _ _ (by show b ≠ O; exact hne))).trans e3⟩, h.room, h.nil⟩
theorem SlR.setP {w : World} {O i : Nat} {t : TypeId} {F : Nat → Value} {v u : Value} {r : List Int} (h : SlR w r u) (hO : w.rowIs O t 6 F) (hF : AlS F) : SlR (w.setCell ⟨O, i, none⟩ v) r u := by
  obtain ⟨a, c, rfl, hl, hn⟩ := h
  have hs : (w.setCell ⟨O, i, none⟩ v).heap.size = w.heap.size := by simp [World.setCell]
  refine ⟨a, c, rfl, by rw [hs]; exact lst_setP hl hO hF, fun h0 => ?_⟩
  obtain ⟨b, o, rfl, c', t', f', g1, g2⟩ := hn h0
  obtain ⟨b2, o2, e1, e2, e3⟩ := hl.row 0 h0
  cases e1
  have hne := ne_lists hO hF e3
  exact ⟨b, o, rfl, c', t', f', (Below.heap_setCell _ _ _ _ (by show b ≠ O; exact hne)).trans g1, g2⟩
theorem own_setP {base O i n : Nat} {w : World} {F : Nat → Value} {v u : Value} {xs : List Value} (h : w.ownsRow base 22 1 u n xs) (hO : w.rowIs O 33 6 F) : (w.setCell ⟨O, i, none⟩ v).ownsRow base 22 1 u n xs := by
  refine h.kept (row := some O) (gb_setCell (gb_refl _ _) i v) ?_
  rcases h.2 with ⟨rfl, _⟩ | ⟨g, cap, cur, rfl, hb, hg, _⟩
  · exact .inl rfl
  · refine .inr (fun e => ?_)
    obtain ⟨cs, h1, _, _⟩ := hO
    have e2 : g = O := by simpa [Value.ownBlock] using e
    rw [← e2, hg] at h1
    simp at h1
theorem OwnR.setP {base O i : Nat} {w : World} {F : Nat → Value} {v u : Value} {rs : List (List Int)} (h : OwnR base w u rs) (hO : w.rowIs O 33 6 F) (hF : AlS F) : OwnR base (w.setCell ⟨O, i, none⟩ v) u rs := by
  obtain ⟨vals, h1, h2⟩ := h
  refine ⟨vals, own_setP h1 hO, fun j hj => ?_⟩
  obtain ⟨x, e1, e2⟩ := h2 j hj
  exact ⟨x, e1, e2.setP hO hF⟩
/-- a step of a chain leaves lists -/
theorem SlR.rstep {w w' : World} {q rc : Nat} {D r : List Int} {u : Value} (h : SlR w r u) (hc : RCh q w rc D) (e : w.grownBy w' (some rc)) : SlR w' r u :=
  h.blocks e.size (fun b hb hn => gb_blk e hb (by
    rintro rfl
    obtain ⟨_, _, h1, _⟩ := hc
    obtain ⟨c, t, f, h2, h3⟩ := hn
    rw [h1] at h2
    cases h2
    exact h3.2.2.2.1 rfl))
theorem own_rstep {base n q rc : Nat} {w w' : World} {D : List Int} {u : Value} {xs : List Value} (h : w.ownsRow base 22 1 u n xs) (hc : RCh q w rc D) (e : w.grownBy w' (some rc)) : w'.ownsRow base 22 1 u n xs := by
  refine h.kept (row := some rc) e ?_
  rcases h.2 with ⟨rfl, _⟩ | ⟨g, cap, cur, rfl, hb, hg, _⟩
  · exact .inl rfl
  · refine .inr (fun e => ?_)
    obtain ⟨_, _, h1, _⟩ := hc
    have e2 : g = rc := by simpa [Value.ownBlock] using e
    rw [← e2, hg] at h1
    simp at h1
theorem OwnR.rstep {base q rc : Nat} {w w' : World} {D : List Int} {u : Value} {rs : List (List Int)} (h : OwnR base w u rs) (hc : RCh q w rc D) (e : w.grownBy w' (some rc)) : OwnR base w' u rs := by
  obtain ⟨vals, h1, h2⟩ := h
  refine ⟨vals, own_rstep h1 hc e, fun j hj => ?_⟩
  obtain ⟨x, e1, e2⟩ := h2 j hj
  exact ⟨x, e1, e2.rstep hc e⟩
end Go.Proofs.YtlhjifpomchnfaaGreatDoor

namespace Go.Proofs.YtlhjifpomchnfaaGreatDoor
open Go.RowKit

end Go.Proofs.YtlhjifpomchnfaaGreatDoor

namespace Go.Proofs.YtlhjifpomchnfaaGreatDoor
open Go.RowKit

/-! ## the program's chain steps -/
theorem pch_typ {N0 q n : Nat} {w : World} {c : Nat} {D : List Int} (h : PCh N0 q n w c D) : ∃ cs f, w.heap[c]? = some (.cells cs 84 f) := by
  obtain ⟨s, b, d, _, _, _, _, _, h6⟩ := h
  exact ⟨_, _, h6⟩
theorem PCh.setP {N0 q n : Nat} {W : World} {c O i : Nat} {D : List Int} {F : Nat → Value} {v : Value} (h : PCh N0 q n W c D) (hO : W.rowIs O 33 6 F) (hN : N0 ≤ O) : PCh N0 q n (W.setCell ⟨O, i, none⟩ v) c D := by
  obtain ⟨cs, f, h1⟩ := pch_typ h
  obtain ⟨cs2, h2, _, _⟩ := hO
  have hne : c ≠ O := by
    rintro rfl
    rw [h1] at h2
    injection h2 with h2
    injection h2 with _ h2 _
    exact absurd h2 (by decide)
  exact h.blocks (Below.heap_setCell _ _ _ _ (by show c ≠ O; exact hne)) (fun b hb => Below.heap_setCell _ _ _ _ (by show b ≠ O; omega))
theorem SlR.pstep {w w' : World} {N0 q n c : Nat} {D r : List Int} {u : Value} (h : SlR w r u) (hc : PCh N0 q n w c D) (e : w.grownBy w' (some c)) : SlR w' r u :=
  h.blocks e.size (fun b hb hn => gb_blk e hb (by
    rintro rfl
    obtain ⟨cs, f', h1⟩ := pch_typ hc
    obtain ⟨c, t, f, h2, h3⟩ := hn
    rw [h1] at h2
    cases h2
    revert h3
    decide))
theorem own_pstep {base n N0 q m c : Nat} {w w' : World} {D : List Int} {u : Value} {xs : List Value} (h : w.ownsRow base 22 1 u n xs) (hc : PCh N0 q m w c D) (e : w.grownBy w' (some c)) : w'.ownsRow base 22 1 u n xs := by
  refine h.kept (row := some c) e ?_
  rcases h.2 with ⟨rfl, _⟩ | ⟨g, cap, cur, rfl, hb, hg, _⟩
  · exact .inl rfl
  · refine .inr (fun e => ?_)
    obtain ⟨cs, f', h1⟩ := pch_typ hc
    have e2 : g = c := by simpa [Value.ownBlock] using e
    rw [← e2, hg] at h1
    simp at h1
theorem OwnR.pstep {base N0 q n c : Nat} {w w' : World} {D : List Int} {u : Value} {rs : List (List Int)} (h : OwnR base w u rs) (hc : PCh N0 q n w c D) (e : w.grownBy w' (some c)) : OwnR base w' u rs := by
  obtain ⟨vals, h1, h2⟩ := h
  refine ⟨vals, own_pstep h1 hc e, fun j hj => ?_⟩
  obtain ⟨x, e1, e2⟩ := h2 j hj
  exact ⟨x, e1, e2.pstep hc e⟩

end Go.Proofs.YtlhjifpomchnfaaGreatDoor
