/- attestsame.Sponge, attestlaw3's plain and lives. -/
import Derived.Test.YthemehdcakimgakDoorSpgs
import Derived.Test.YthemehdcakimgakDoorDoms
namespace Go.Proofs.YthemehdcakimgakDoor
open Go.RowKit

/-- a sponge may be made of this -/
def GoodS (p : Int) : Prop := okPrime p ∧ 23 ≤ p

theorem prime97 : Num.Prime 97 := by
  refine ⟨by decide, fun d hd => ?_⟩
  have hle : d ≤ 97 := Nat.le_of_dvd (by decide) hd
  have key : ∀ e, e ≤ 97 → 97 % e = 0 → e = 1 ∨ e = 97 := by decide
  exact key d hle (Nat.mod_eq_zero_of_dvd hd)

theorem pow97 : Spo.PowIs 97 5 := by
  refine ⟨by decide, (Spo.apart_gcd (by decide)).2 (by decide), fun m h1 h2 h => ?_⟩
  have hg := (Spo.apart_gcd (n := m) (m := 97 - 1) (by omega)).1 h
  have : m = 2 ∨ m = 3 ∨ m = 4 := by omega
  rcases this with rfl | rfl | rfl <;> exact absurd hg (by decide)

theorem ArrI.rowB {w : World} {b n n0 : Nat} {t : TypeId} {f : Nat → Int} (h : ArrI w b t n f) {zs : List Int} (hn : zs.length ≤ n) (hz : ∀ j, j < zs.length → zat zs j = f j) (hg : b < n0) : RowB n0 w (some ⟨b, 0, none⟩) zs :=
  fun k hk => ⟨b, 0, rfl, hg, by rw [Nat.zero_add, hz k hk]; exact h.cell (by omega)⟩
theorem ArrI.rowF {w : World} {b n m n0 : Nat} {t : TypeId} {f : Nat → Int} (h : ArrI w b t n f) (hm : m ≤ n) (hg : b < n0) : RowF (· < n0) w (some ⟨b, 0, none⟩) m f :=
  fun k hk => ⟨b, 0, rfl, hg, by rw [Nat.zero_add]; exact h.cell (by omega)⟩

end Go.Proofs.YthemehdcakimgakDoor
