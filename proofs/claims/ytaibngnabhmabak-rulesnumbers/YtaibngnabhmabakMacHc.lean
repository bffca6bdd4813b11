/- attestref6.Do: 9 -/
import Derived.Test.YtaibngnabhmabakBnAB
namespace Go.Proofs.Ytaibngnabhmabak
open Go.RowKit

end Go.Proofs.Ytaibngnabhmabak
