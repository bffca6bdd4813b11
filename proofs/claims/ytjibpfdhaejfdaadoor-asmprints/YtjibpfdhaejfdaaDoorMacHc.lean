/- attestref6.Do: 9 -/
import Derived.Test.YtjibpfdhaejfdaaDoorMacF
namespace Go.Proofs.YtjibpfdhaejfdaaDoor
open Go.RowKit

end Go.Proofs.YtjibpfdhaejfdaaDoor
