/- Package machine: walked. -/
import Derived.Test.YtaibngnabhmabakDoorBaAH
namespace Go.Proofs.YtaibngnabhmabakDoor
open Go.RowKit Go.Maps

theorem one_row {W : World} {g : Nat} {t : TypeId} {v : Value} (h : W.heap[g]? = some (.cells #[v] t (0, 0))) : W.rowIs g t 1 (fun _ => v) := ⟨_, h, rfl, fun i hi => by
    have : i = 0 := by omega
    rw [this]
    rfl⟩
theorem one_cell {W : World} {g : Nat} {t : TypeId} {v : Value} (h : W.heap[g]? = some (.cells #[v] t (0, 0))) : W.cell? ⟨g, 0, none⟩ = some v := by simp [World.cell?, h]
theorem one_set {W : World} {g : Nat} {t : TypeId} {v : Value} (h : W.heap[g]? = some (.cells #[v] t (0, 0))) (x : Value) : (W.setCell ⟨g, 0, none⟩ x).heap[g]? = some (.cells #[x] t (0, 0)) := by
  obtain ⟨c, hb, hs, hc⟩ := (one_row h).set 0 x
  rw [hb]
  congr 2
  apply Array.ext
  · simpa using hs
  · intro i h1 h2
    have hi : i = 0 := by simp at h2; omega
    subst hi
    have := hc 0 (by omega)
    rw [Array.getElem?_eq_getElem h1] at this
    injection this
/-- how a run that begins ends: steps, then what is deferred -/
theorem errV_nz {z : Int} (h : z ≠ 0) : errV z = .iface 64 (.int .i64 z) := by unfold errV; rw [if_neg h]
theorem zer_first : Zer [(0, 0)] := ⟨by decide, by decide⟩
theorem csB_first {p : Nat} (h3 : 3 ≤ p) : CsB p [(0, 0)] := fun j hj => by
  have : j = 0 := by simp at hj; omega
  subst this
  show (0 : Int) ≤ 0 ∧ (0 : Int) < p
  omega

theorem leaves_same {P : Program} {fn : Func} {t1 t2 : Array Value} {R : Ending → World → Prop} (hr : results fn t1 = results fn t2) : ∀ (ds : List Deferred) (u : FrameMode) (w : World), Leaves P fn t1 R ds u w → Leaves P fn t2 R ds u w
  | [], .returning, w, h => by
    obtain ⟨v, h1, h2⟩ := h
    exact ⟨v, by rw [← hr]; exact h1, h2⟩
  | [], .panicking _, _, h => h
  | [], .run, _, h => h
  | d :: ds, u, w, h => by
    obtain ⟨h1, fv, cap, f, args, h2, h3, h4⟩ := h
    refine ⟨h1, fv, cap, f, args, h2, h3, h4.mono ?_⟩
    rintro e u' w' he
    cases e with
    | returned v => exact leaves_same hr ds _ _ he
    | panicked c => exact leaves_same hr ds _ _ he
    | outgrown => exact he
end Go.Proofs.YtaibngnabhmabakDoor
