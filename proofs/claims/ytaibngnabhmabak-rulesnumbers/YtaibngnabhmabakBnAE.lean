/- attestref6.Do: 5, 7 attestref6.Do: 8 -/
import Derived.Test.YtaibngnabhmabakBnAB
namespace Go.Proofs.Ytaibngnabhmabak
open Go.RowKit

end Go.Proofs.Ytaibngnabhmabak

namespace Go.Proofs.Ytaibngnabhmabak
open Go.RowKit

end Go.Proofs.Ytaibngnabhmabak
