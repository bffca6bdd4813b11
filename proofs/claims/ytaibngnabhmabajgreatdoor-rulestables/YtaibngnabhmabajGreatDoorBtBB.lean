/- MachineWalks: the walk. Package machine: Run. Runs, plainly: a greater limit; one ascending list. Runs, plainly: what is told is told for good. -/
import Derived.Test.YtaibngnabhmabajGreatDoorBtBA
import Derived.Test.YtaibngnabhmabajGreatDoorFld
import Derived.Test.YtaibngnabhmabajGreatDoorBtAN
namespace Go.Proofs.YtaibngnabhmabajGreatDoor
open Go.RowKit Go.Maps

/-- a row of steps, cell by cell -/
theorem StR.cells {base : Nat} {w : World} {v : Value} {l : List (List Int)} (h : StR base w v l) (h0 : 0 < l.length) : ∃ g cap, v = .slice (some ⟨g, 0, none⟩) l.length cap ∧ l.length ≤ maxLen ∧ ∀ m x, (stvs l)[m]? = some (.int .i64 x) → w.cell? ⟨g, m, none⟩ = some (.int .i64 x) := by
  have h' := h
  rcases h.2 with ⟨_, hn⟩ | ⟨g, cap, cur, rfl, hb, hg, hn, hm, hs, ht⟩
  · omega
  · refine ⟨g, cap, rfl, by omega, fun m x hx => ?_⟩
    have := World.ownsRow.cells h' (g := g) rfl m _ hx
    have hadd : (⟨g, 0, none⟩ : Addr).add m = ⟨g, 0 + m, none⟩ := by unfold Addr.add; split <;> simp_all
    rw [hadd, Nat.zero_add] at this
    exact this
theorem StR.form {base : Nat} {w : World} {v : Value} {l : List (List Int)} (h : StR base w v l) : ∃ a c, v = .slice a l.length c := by
  rcases h.2 with ⟨rfl, h0⟩ | ⟨g, cap, cur, rfl, _⟩
  · exact ⟨none, 0, by rw [h0]⟩
  · exact ⟨_, _, rfl⟩

theorem error_same (z : Int) (w : World) (hL : Laid w) : Calls Tryz.prog 11 #[errV z, .int .i64 z] w fun e w' => e = .returned (.bool true) ∧ Below w.heap.size w w' := by
  by_cases hz : z = 0
  · subst hz
    refine (error_nil 0 w).mono ?_
    rintro e w' ⟨rfl, rfl⟩
    exact ⟨rfl, Below.refl _ _⟩
  · rw [errV_nz hz]
    refine (error_hit z z w hL).mono ?_
    rintro e w' ⟨rfl, hb⟩
    exact ⟨by simp, hb⟩

end Go.Proofs.YtaibngnabhmabajGreatDoor

namespace Go.Proofs.YtaibngnabhmabajGreatDoor
open Go.RowKit Go.Maps

theorem mgo_len (p : Nat) (L : List InsZ) (limit : Nat) : ∀ (f : Nat) (s : RM) (done l : List (List Int)) (cs : List (Int × Int)), mgo p L limit f s done = .good l cs → 0 < l.length ∧ l.length ≤ done.length + f
  | 0, _, _, _, _, h => by simp [mgo] at h
  | f + 1, s, done, l, cs, h => by
    rw [mgo] at h
    split at h
    · cases h
    · split at h
      · cases h
      · split at h
        · cases h
        · split at h
          · injection h with h1 _
            rw [← h1]
            simp
          · have := mgo_len p L limit f _ _ l cs h
            simp at this
            exact ⟨this.1, by omega⟩
theorem mgo_bad (p : Nat) (L : List InsZ) (limit : Nat) : ∀ (f : Nat) (s : RM) (done : List (List Int)) (z : Int), mgo p L limit f s done = .bad z → z ≠ 0
  | 0, _, _, _, h => by simp [mgo] at h; omega
  | f + 1, s, done, z, h => by
    rw [mgo] at h
    split at h
    · injection h with h; omega
    · split at h
      · injection h with h; omega
      · split at h
        · rename_i h1
          injection h with h
          rw [← h]
          exact h1
        · split at h
          · cases h
          · exact mgo_bad p L limit f _ _ z h
/-- what a run comes to: the first cell of its last step -/
def outv (l : List (List Int)) : Int := match (stvs l)[(l.length - 1) * 10 + 7]? with
  | some (.int _ x) => x
  | _ => 0
/-- what Run gives -/
def RuR (p : Nat) (size : Int) (L : List InsZ) (limit : Int) (w : World) (e : Ending) (w' : World) : Prop := Below w.heap.size w w' ∧
  if fz6 (p : Int) size L.length limit ≠ 0 then e = .returned (.tuple #[.agg #[.int .i64 0, .int .i64 0, .slice none 0 0], errV (fz6 (p : Int) size L.length limit)])
  else match mwalk p size L limit.toNat with
    | .bad z => e = .returned (.tuple #[.agg #[.int .i64 0, .int .i64 0, .slice none 0 0], errV z])
    | .good l cs => ∃ v l', e = .returned (.tuple #[.agg #[.int .i64 (outv l), .int .i64 ((l.length - 1 : Nat) : Int), v], .nilIface]) ∧ CelR w.heap.size w' v l' ∧ AscC cs l'

end Go.Proofs.YtaibngnabhmabajGreatDoor

namespace Go.Proofs.YtaibngnabhmabajGreatDoor
open Go.RowKit Go.Maps

end Go.Proofs.YtaibngnabhmabajGreatDoor

namespace Go.Proofs.YtaibngnabhmabajGreatDoor
open Go.RowKit Go.Maps

end Go.Proofs.YtaibngnabhmabajGreatDoor
