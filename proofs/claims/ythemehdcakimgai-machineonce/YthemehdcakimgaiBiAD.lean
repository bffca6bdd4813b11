/- attestref6.Do: op 3 attestref6.Do: op 4 -/
import Derived.Test.YthemehdcakimgaiBiAB
namespace Go.Proofs.Ythemehdcakimgai
open Go.RowKit

end Go.Proofs.Ythemehdcakimgai

namespace Go.Proofs.Ythemehdcakimgai
open Go.RowKit

end Go.Proofs.Ythemehdcakimgai
