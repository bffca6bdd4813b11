/- attestref6.Do: op 2 attestref6.Do: op 3 -/
import Derived.Test.YtaibngnabhmabakBnAB
namespace Go.Proofs.Ytaibngnabhmabak
open Go.RowKit

end Go.Proofs.Ytaibngnabhmabak

namespace Go.Proofs.Ytaibngnabhmabak
open Go.RowKit

end Go.Proofs.Ytaibngnabhmabak
