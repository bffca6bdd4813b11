/- attestlaw3.done: numbers drawn at once. -/
import Derived.Test.YtgjkakfkefpgbafChnC
namespace Go.Proofs.Ytgjkakfkefpgbaf
open Go.RowKit

/-- a list that lies below a bound, in a block of numbers -/
def NumB (lo : Nat) (w : World) (a : Option Addr) (c : Nat) (l : List Int) : Prop := Lst lo w a c l ∧ (0 < l.length → ∃ g o cs f, a = some ⟨g, o, none⟩ ∧ w.heap[g]? = some (.cells cs 3 f))
theorem NumL.numB {w : World} {a : Option Addr} {c : Nat} {l : List Int} (h : NumL w a c l) : NumB w.heap.size w a c l := h
theorem NumB.blk {lo : Nat} {w w' : World} {a : Option Addr} {c : Nat} {l : List Int} (h : NumB lo w a c l) (e : ∀ (g : Nat) (cs : Array Value) (f : Nat × Nat), g < lo → w.heap[g]? = some (.cells cs 3 f) → w'.heap[g]? = w.heap[g]?) : NumB lo w' a c l := by
  obtain ⟨hl, hn⟩ := h
  refine ⟨⟨fun k hk => ?_, hl.room, hl.nil⟩, fun h0 => ?_⟩
  · obtain ⟨b, o, rfl, h2, h3⟩ := hl.row k hk
    obtain ⟨g', o', cs, f, e1, hb⟩ := hn (by omega)
    cases e1
    exact ⟨b, o, rfl, h2, (World.cell?_of_block (w := w) (a := ⟨b, o + k, none⟩) (e b cs f h2 hb)).trans h3⟩
  · obtain ⟨g, o, cs, f, rfl, hb⟩ := hn h0
    obtain ⟨b, o', e1, h2, _⟩ := hl.row 0 h0
    cases e1
    exact ⟨_, _, cs, f, rfl, (e _ cs f h2 hb).trans hb⟩
theorem NumB.other {lo : Nat} {w w' : World} {a : Option Addr} {c s : Nat} {l : List Int} (h : NumB lo w a c l) (hlo : lo ≤ w.heap.size) (e : w.grownBy w' (some s)) (hs : ∀ (cs : Array Value) (f : Nat × Nat), w.heap[s]? ≠ some (.cells cs 3 f)) : NumB lo w' a c l :=
  h.blk (fun g cs f hg hb => gb_blk e (by omega) (fun he => hs cs f (by rw [← he]; exact hb)))
theorem pair_to {g h m : Nat} {w w1 w2 : World} (x : Pair g h w w1) (e : Below m w1 w2) (hm : w.heap.size ≤ m) : Pair g h w w2 :=
  ⟨e.os.trans x.os, e.tape.trans x.tape, e.output.trans x.output, Nat.le_trans x.size e.size, fun k hk h1 h2 => (e.block k (by omega)).trans (x.block k hk h1 h2)⟩

theorem drs_succ (q n k : Nat) (D : List Int) : drs q n (k + 1) D = drs q n k D ++ [zat (drw q n (k + 1) D) 0] := ls_succ _ _
theorem drs_len (q n k : Nat) (D : List Int) : (drs q n k D).length = k := ls_len _ _

theorem own_ne {w : World} {base n : Nat} {v : Value} {xs : List Value} {r : Nat} (h : w.ownsRow base 3 1 v n xs) (hs : ∀ (cs : Array Value) (f : Nat × Nat), w.heap[r]? ≠ some (.cells cs 3 f)) : v.ownBlock = none ∨ v.ownBlock ≠ some r := by
  rcases h.2 with ⟨rfl, _⟩ | ⟨g, cap, cur, rfl, _, hb, _⟩
  · exact .inl rfl
  · refine .inr (fun e => ?_)
    injection e with e
    exact hs cur (0, 0) (by rw [← e]; exact hb)
end Go.Proofs.Ytgjkakfkefpgbaf
