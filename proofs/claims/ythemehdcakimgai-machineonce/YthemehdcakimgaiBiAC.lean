/- attestref6.Do: op 1 attestref6.Do: op 2 -/
import Derived.Test.YthemehdcakimgaiBiAB
namespace Go.Proofs.Ythemehdcakimgai
open Go.RowKit

end Go.Proofs.Ythemehdcakimgai

namespace Go.Proofs.Ythemehdcakimgai
open Go.RowKit

end Go.Proofs.Ythemehdcakimgai
