/- attestref6.Do: 13 -/
import Derived.Test.YtjibpfdhaejfdaaDoorMacF
namespace Go.Proofs.YtjibpfdhaejfdaaDoor
open Go.RowKit

end Go.Proofs.YtjibpfdhaejfdaaDoor
