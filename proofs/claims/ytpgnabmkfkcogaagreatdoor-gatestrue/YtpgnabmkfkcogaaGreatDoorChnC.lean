/- What package chain must answer; attestlaw3.done, of that. -/
import Derived.Test.YtpgnabmkfkcogaaGreatDoorGqAS
import Derived.Test.YtpgnabmkfkcogaaGreatDoorPls
import Derived.Test.YtpgnabmkfkcogaaGreatDoorDoms
import Derived.Test.YtpgnabmkfkcogaaGreatDoorTres
namespace Go.Proofs.YtpgnabmkfkcogaaGreatDoor
open Go.RowKit

/-- the digest behind so many numbers drawn -/
def drw (q n : Nat) : Nat → List Int → List Int
  | 0, D => D
  | k + 1, D => digl q n (4 :: drw q n k D)
/-- the numbers drawn -/
def drs (q n k : Nat) (D : List Int) : List Int := ls (fun i => zat (drw q n (i + 1) D) 0) k
/-- a digest -/
def Dig (D : List Int) : Prop := D.length = 4 ∧ Fits D
theorem dig_digl {q : Nat} (h3 : 3 ≤ q) (h4 : q ≤ 2147483647) (n : Nat) (l : List Int) : Dig (digl q n l) := ⟨digl_len _ _ _, digl_fits h3 h4 _ _⟩
theorem dig_drw {q : Nat} (h3 : 3 ≤ q) (h4 : q ≤ 2147483647) (n : Nat) {D : List Int} (h : Dig D) : ∀ k, Dig (drw q n k D)
  | 0 => h
  | _ + 1 => dig_digl h3 h4 _ _

theorem NumL.other {w w' : World} {a : Option Addr} {c s : Nat} {l : List Int} (h : NumL w a c l) (e : w.grownBy w' (some s)) (hs : ∀ (cs : Array Value) (f : Nat × Nat), w.heap[s]? ≠ some (.cells cs 3 f)) : NumL w' a c l :=
  h.blocks e.size (fun g cs f hg => gb_blk e (Array.getElem?_eq_some_iff.1 hg).1 (fun he => hs cs f (by rw [← he]; exact hg)))
theorem numL_of_owns {w : World} {base : Nat} {v : Value} {zs : List Int} (h : w.ownsRow base 3 1 v zs.length (zs.map (Value.int .i64))) : ∃ a cap, v = .slice a zs.length cap ∧ NumL w a cap zs := by
  obtain ⟨a, cap, rfl, hl⟩ := lst_of_owns h
  refine ⟨a, cap, rfl, hl, fun h0 => ?_⟩
  rcases h.2 with ⟨_, h3⟩ | ⟨g, cap', cur, e, hg, hb, _⟩
  · omega
  · injection e with e1
    exact ⟨g, 0, cur, _, e1, hb⟩
end Go.Proofs.YtpgnabmkfkcogaaGreatDoor
