/- attestsame.Sponge, attestlaw3's plain and lives. -/
import Derived.Test.YtjibpfdhaejfdaaDoorSpgs
import Derived.Test.YtjibpfdhaejfdaaDoorDoms
namespace Go.Proofs.YtjibpfdhaejfdaaDoor
open Go.RowKit

end Go.Proofs.YtjibpfdhaejfdaaDoor
