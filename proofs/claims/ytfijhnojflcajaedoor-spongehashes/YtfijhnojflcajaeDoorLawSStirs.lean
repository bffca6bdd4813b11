/- The law SpongeStirs answers true: any state is stirred, and mixed. -/
import Derived.Test.YtfijhnojflcajaeDoorSpgT
import Derived.Test.YtfijhnojflcajaeDoorPls
namespace Go.Proofs.YtfijhnojflcajaeDoor
open Go.RowKit

theorem rowB_of_rw {w : World} {g N n0 : Nat} {t : TypeId} {F : Nat → Value} {zs : List Int} (h : w.rowIs g t N F) (hn : zs.length ≤ N) (hz : ∀ j, j < zs.length → F j = .int .i64 (zat zs j)) (hg : g < n0) : RowB n0 w (some ⟨g, 0, none⟩) zs :=
  fun k hk => ⟨g, 0, rfl, hg, by rw [Nat.zero_add, ← hz k hk]; exact h.cell (by omega)⟩
theorem RowB.f8 {n0 : Nat} {w : World} {a : Option Addr} {zs : List Int} (h : RowB n0 w a zs) (h8 : zs.length = 8) : RowF (· < n0) w a 8 (zat zs) := by rw [← h8]; exact h.f
theorem Fits.f8 {zs : List Int} (h : Fits zs) (h8 : zs.length = 8) : FitsF 8 (zat zs) := by rw [← h8]; exact h

/-- the elements alone count -/
theorem stir_el {q n : Nat} (hq : 0 < q) (f : Nat → Int) (j : Nat) (hj : j < 8) : stir q n (fun j => f j % (q : Int)) 8 j = stir q n f 8 j :=
  stir_congr hq (fun _ _ => Int.emod_emod_of_dvd _ (Int.dvd_refl _)) 8 j hj
theorem mx_el {q : Nat} (hq : 0 < q) (f : Nat → Int) (j : Nat) : mx q (fun j => f j % (q : Int)) j = mx q f j :=
  mx_congr hq (fun _ _ => Int.emod_emod_of_dvd _ (Int.dvd_refl _)) j

end Go.Proofs.YtfijhnojflcajaeDoor
