/- attestref6.Do: 8 -/
import Derived.Test.YtjibpfdhaejfdaaDoorMacF
namespace Go.Proofs.YtjibpfdhaejfdaaDoor
open Go.RowKit

end Go.Proofs.YtjibpfdhaejfdaaDoor
