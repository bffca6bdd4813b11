/- attestref6.Do: 13 attestref6.Do: any other attestref6.Do: any instruction. -/
import Derived.Test.YthemehdcakimgaiBiAB
import Derived.Test.YthemehdcakimgaiBiAC
import Derived.Test.YthemehdcakimgaiBiAD
import Derived.Test.YthemehdcakimgaiMacGSa
import Derived.Test.YthemehdcakimgaiMacHa
import Derived.Test.YthemehdcakimgaiMacHb
import Derived.Test.YthemehdcakimgaiMacHc
import Derived.Test.YthemehdcakimgaiMacHd
import Derived.Test.YthemehdcakimgaiMacHe
import Derived.Test.YthemehdcakimgaiMacHf
namespace Go.Proofs.Ythemehdcakimgai
open Go.RowKit

end Go.Proofs.Ythemehdcakimgai

namespace Go.Proofs.Ythemehdcakimgai
open Go.RowKit

end Go.Proofs.Ythemehdcakimgai

namespace Go.Proofs.Ythemehdcakimgai
open Go.RowKit

end Go.Proofs.Ythemehdcakimgai
