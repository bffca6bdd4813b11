/- attestlaw2's plain and lives: a domain without the chapter's answer; chapter 3's example. -/
import Derived.Test.YtidkhgplejglaacDoorDomP
import Derived.Test.YtidkhgplejglaacDoorNew
import Derived.Test.YtidkhgplejglaacDoorRefP
import Derived.Test.YtidkhgplejglaacDoorLaw
import Derived.Test.YtidkhgplejglaacDoorSpoil
namespace Go.Proofs.YtidkhgplejglaacDoor
open Go.RowKit

/-- a domain may be made of these -/
structure GoodAt (q k : Nat) (s : Int) : Prop where
  pr : Num.Prime q
  h3 : 3 ≤ q
  h4 : q ≤ 2147483647
  hk : k ≤ 16
  hd : (q - 1) % 2 ^ k = 0
  hs : ¬ s % (q : Int) = 0
def Good (p n s : Int) : Prop := ∃ q k : Nat, p = (q : Int) ∧ n = ((2 ^ k : Nat) : Int) ∧ GoodAt q k s

theorem two_pow_le {k : Nat} (hk : k ≤ 16) : 2 ^ k ≤ 65536 := Nat.pow_le_pow_right (by decide : 0 < 2) hk

theorem not_dvd_of_emod {p : Nat} {s : Int} (h : ¬ s % (p : Int) = 0) : ¬ (p : Int) ∣ s % (p : Int) := fun hd => h (by
  have := Int.emod_eq_zero_of_dvd hd
  rwa [Int.emod_emod_of_dvd _ (Int.dvd_refl _)] at this)

theorem root17 : RootIs 17 ((2 ^ 2 : Nat) : Int) 13 := Or.inr ⟨by decide, by decide, 3, gen17, by decide⟩

theorem rowB_of_rowIs {w : World} {g n n0 : Nat} {f : Nat → Int} {zs : List Int} (h : w.rowIs g 3 n (fun j => .int .i64 (f j))) (hn : zs.length ≤ n) (hz : ∀ j, j < zs.length → zat zs j = f j) (hg : g < n0) : RowB n0 w (some ⟨g, 0, none⟩) zs :=
  fun k hk => ⟨g, 0, rfl, hg, by rw [Nat.zero_add, hz k hk]; exact h.cell (by omega)⟩

end Go.Proofs.YtidkhgplejglaacDoor
