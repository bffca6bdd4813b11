/- attestref6.Do: 12, 0 attestref6.Do: 13 -/
import Derived.Test.YtaibngnabhmabakBnAB
namespace Go.Proofs.Ytaibngnabhmabak
open Go.RowKit

end Go.Proofs.Ytaibngnabhmabak

namespace Go.Proofs.Ytaibngnabhmabak
open Go.RowKit

end Go.Proofs.Ytaibngnabhmabak
