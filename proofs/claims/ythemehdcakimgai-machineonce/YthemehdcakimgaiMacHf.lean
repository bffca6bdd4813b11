/- attestref6.Do: 12, 0 -/
import Derived.Test.YthemehdcakimgaiBiAB
namespace Go.Proofs.Ythemehdcakimgai
open Go.RowKit

end Go.Proofs.Ythemehdcakimgai
