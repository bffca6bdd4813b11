/- attestref6.Do: 9 -/
import Derived.Test.YthemehdcakimgaiBiAB
namespace Go.Proofs.Ythemehdcakimgai
open Go.RowKit

end Go.Proofs.Ythemehdcakimgai
