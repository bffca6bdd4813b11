/- attestref6.Do: op 6 -/
import Derived.Test.YthemehdcakimgaiBiAB
namespace Go.Proofs.Ythemehdcakimgai
open Go.RowKit

end Go.Proofs.Ythemehdcakimgai
