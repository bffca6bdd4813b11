/- Package gates, on the way down: seen. -/
import Derived.Test.YtpgnabmkfkcogaaGreatDoorGmAQ
import Derived.Test.YtpgnabmkfkcogaaGreatDoorGmAT
import Derived.Test.YtpgnabmkfkcogaaGreatDoorGuD
import Derived.Maps.AppendAt
namespace Go.Proofs.YtpgnabmkfkcogaaGreatDoor
open Go.RowKit

theorem InT.upto {p b N0 : Nat} {w W : World} (h : InT p b w) (e : Below N0 w W) (hb : b < N0) (ht : 2 < N0) : InT p b W :=
  ⟨⟨h.pr, h.h3, h.hm, (e.cell (p := ⟨b, 0, none⟩) hb).trans h.cell⟩, fun j hj => (e.cell (p := ⟨2, j, none⟩) ht).trans (h.tab j hj)⟩
theorem PCh.notI {N0 q n c : Nat} {w : World} {D : List Int} (h : PCh N0 q n w c D) : ∀ (cs : Array Value) (f : Nat × Nat), w.heap[c]? ≠ some (.cells cs 3 f) := fun cs f e => by
  obtain ⟨_, _, _, _, _, _, _, _, h⟩ := h
  rw [h] at e
  simp at e
theorem hao (w : World) (o : Obj) {i : Nat} (h : i < w.heap.size) : (w.alloc o).heap[i]? = w.heap[i]? := ((Below.refl w.heap.size w).alloc (Nat.le_refl _) o).block i h
theorem arr_num {w : World} {g n : Nat} {l : List Int} (h : ArrI w g 3 n (zat l)) (hl : l.length = n) : NumL w (some ⟨g, 0, none⟩) n l :=
  ⟨⟨fun k hk => ⟨g, 0, rfl, h.lt, by rw [Nat.zero_add]; exact h.cell (by omega)⟩, by omega, fun e => by cases e⟩, fun _ => ⟨g, 0, _, _, rfl, h.heap⟩⟩
theorem gxs_succ (q n : Nat) (rs : List (List Int)) (D : List Int) (k : Nat) : gxs q n rs D (k + 1) = gxs q n rs D k ++ [zat (gds q n rs D (k + 1)) 0] := ls_succ _ _

end Go.Proofs.YtpgnabmkfkcogaaGreatDoor
