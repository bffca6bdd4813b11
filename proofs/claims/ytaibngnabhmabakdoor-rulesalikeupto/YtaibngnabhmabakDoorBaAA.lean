/- attestref6: the cells that are told, and the machine's own words. attestref6: shown, look, tell, must. attestref6: look, tell, must. -/
import Derived.Test.YtaibngnabhmabakDoorFld
import Derived.StillTailTactics
namespace Go.Proofs.YtaibngnabhmabakDoor
open Go.RowKit

/-- cells, as they lie in memory -/
def celv : List (Int × Int) → List Value
  | [] => []
  | c :: r => .int .i64 c.1 :: .int .i64 c.2 :: celv r
def cat (cs : List (Int × Int)) (j : Nat) : Int × Int := cs.getD j (0, 0)
theorem celv_len : ∀ cs, (celv cs).length = cs.length * 2
  | [] => rfl
  | c :: r => by simp [celv, celv_len r]; omega
theorem celv_app : ∀ cs ds, celv (cs ++ ds) = celv cs ++ celv ds
  | [], ds => rfl
  | c :: r, ds => by simp [celv, celv_app r ds]
theorem celv_at : ∀ (cs : List (Int × Int)) (j : Nat), j < cs.length → (celv cs)[j * 2]? = some (.int .i64 (cat cs j).1) ∧ (celv cs)[j * 2 + 1]? = some (.int .i64 (cat cs j).2)
  | [], _, h => absurd h (Nat.not_lt_zero _)
  | c :: r, 0, _ => ⟨rfl, rfl⟩
  | c :: r, j + 1, h => by
    have ih := celv_at r j (by simpa using h)
    have e1 : (j + 1) * 2 = j * 2 + 2 := by omega
    rw [e1]
    exact ih
/-- the place of a cell; -1: there is none -/
def finz (cs : List (Int × Int)) (x : Int) : Int := match cs.findIdx? (fun c => c.1 == x) with
  | some i => i
  | none => -1
/-- cells of the call's own -/
def CelR (base : Nat) (w : World) (v : Value) (cs : List (Int × Int)) : Prop := w.ownsRow base 39 2 v cs.length (celv cs)
theorem CelR.form {base : Nat} {w : World} {v : Value} {cs : List (Int × Int)} (h : CelR base w v cs) : ∃ a c, v = .slice a cs.length c := by
  obtain ⟨_, h2⟩ := h
  rcases h2 with ⟨rfl, h0⟩ | ⟨g, cap, cur, rfl, _⟩
  · exact ⟨none, 0, by rw [h0]⟩
  · exact ⟨_, _, rfl⟩
theorem CelR.at {base : Nat} {w : World} {v : Value} {cs : List (Int × Int)} (h : CelR base w v cs) {j : Nat} (hj : j < cs.length) : ∃ g cap, v = .slice (some ⟨g, 0, none⟩) cs.length cap ∧ base ≤ g ∧ w.cell? ⟨g, j * 2, none⟩ = some (.int .i64 (cat cs j).1) ∧ w.cell? ⟨g, j * 2 + 1, none⟩ = some (.int .i64 (cat cs j).2) := by
  have h' := h
  obtain ⟨_, h2⟩ := h
  rcases h2 with ⟨rfl, h0⟩ | ⟨g, cap, cur, rfl, hb, hg, hn, hm, hs, ht⟩
  · omega
  · have hc : ∀ j u, (celv cs)[j]? = some u → w.cell? ⟨g, j, none⟩ = some u := fun j u hu => by
      have := World.ownsRow.cells h' (g := g) rfl j u hu
      have hadd : (⟨g, 0, none⟩ : Addr).add j = ⟨g, 0 + j, none⟩ := by unfold Addr.add; split <;> simp_all
      rw [hadd, Nat.zero_add] at this
      exact this
    exact ⟨g, cap, rfl, hb, hc _ _ (celv_at cs j hj).1, hc _ _ (celv_at cs j hj).2⟩

/-- the reference's machine -/
structure RM where
  cs : List (Int × Int)
  pc : Int
  fp : Int
  ap : Int
  rv : Int
  at' : Nat → Int
  is' : Nat → Int
  slot : Nat
  err : Int
end Go.Proofs.YtaibngnabhmabakDoor

namespace Go.Proofs.YtaibngnabhmabakDoor
open Go.RowKit

def updM (f : Nat → Int) (i : Nat) (x : Int) : Nat → Int := fun j => if j = i then x else f j
def RM.shown (s : RM) (x y : Int) : RM := { s with at' := updM s.at' s.slot x, is' := updM s.is' s.slot y, slot := s.slot + 1 }
end Go.Proofs.YtaibngnabhmabakDoor

namespace Go.Proofs.YtaibngnabhmabakDoor
open Go.RowKit

def RM.look (s : RM) (x : Int) : RM × Int := if s.err ≠ 0 then (s, 0) else if finz s.cs x < 0 then ({ s with err := 10 }, 0) else (s.shown x (cat s.cs (finz s.cs x).toNat).2, (cat s.cs (finz s.cs x).toNat).2)
def RM.must (s : RM) (b : Bool) : RM := if s.err = 0 ∧ b = false then { s with err := 7 } else s
def RM.tell (p : Nat) (s : RM) (x y : Int) : RM := if s.err ≠ 0 then s else if 0 ≤ finz s.cs x ∧ (cat s.cs (finz s.cs x).toNat).2 ≠ y % p then { s with err := 7 } else
  if finz s.cs x < 0 then ({ s with cs := s.cs ++ [(x, y % p)] } : RM).shown x (y % p) else s.shown x (y % p)
end Go.Proofs.YtaibngnabhmabakDoor
