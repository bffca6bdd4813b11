/- What lies still while a law on codewords goes on: the domain on both sides. -/
import Derived.Test.YtmmlphdekeflfaaDoorCodA
import Derived.Test.YtmmlphdekeflfaaDoorCodB
import Derived.Test.YtmmlphdekeflfaaDoorLawDValues
namespace Go.Proofs.YtmmlphdekeflfaaDoor
open Go.RowKit

theorem DO.of {w : World} {q k b d r : Nat} {s : Int} (hg : GoodAt q k s) (hr : RootIs q ((2 ^ k : Nat) : Int) r) (hc : w.cell? ⟨b, 0, none⟩ = some (.int .i64 q)) (hd : DomAt w d b ((2 ^ k : Nat) : Int) r (s % (q : Int))) : DO w q b d (2 ^ k) r (s % (q : Int)) := by
  obtain ⟨h1, h2⟩ := root_ord2 hg.pr hg.h3 hg.hd hr
  obtain ⟨t0, t1⟩ := emod_bounds s q hg.h3
  exact ⟨hg.pr, hg.h3, hg.h4, hc, hd, ⟨k, hg.hk, rfl⟩, by omega, by omega, h1, t0, t1, not_dvd_of_emod hg.hs⟩

end Go.Proofs.YtmmlphdekeflfaaDoor
