/- attestref6.Do: 5, 7 -/
import Derived.Test.YtjibpfdhaejfdaaDoorMacF
namespace Go.Proofs.YtjibpfdhaejfdaaDoor
open Go.RowKit

end Go.Proofs.YtjibpfdhaejfdaaDoor
