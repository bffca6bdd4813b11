/- attestref6.Do: op 4 attestref6.Do: op 6 -/
import Derived.Test.YtaibngnabhmabakBnAB
namespace Go.Proofs.Ytaibngnabhmabak
open Go.RowKit

end Go.Proofs.Ytaibngnabhmabak

namespace Go.Proofs.Ytaibngnabhmabak
open Go.RowKit

end Go.Proofs.Ytaibngnabhmabak
