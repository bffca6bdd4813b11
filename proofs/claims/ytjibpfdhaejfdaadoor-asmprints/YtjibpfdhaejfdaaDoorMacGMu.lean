/- attestref6.Do: op 3 -/
import Derived.Test.YtjibpfdhaejfdaaDoorMacF
namespace Go.Proofs.YtjibpfdhaejfdaaDoor
open Go.RowKit

end Go.Proofs.YtjibpfdhaejfdaaDoor
