/- attestref6.Walk: the walk. -/
import Derived.Test.YthemehdcakimgaiBiAI
namespace Go.Proofs.Ythemehdcakimgai
open Go.RowKit

end Go.Proofs.Ythemehdcakimgai
