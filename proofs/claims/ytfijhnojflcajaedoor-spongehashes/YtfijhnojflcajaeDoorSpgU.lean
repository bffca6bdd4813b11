/- Package sponge: unpermuted. -/
import Derived.Test.YtfijhnojflcajaeDoorSpgP
namespace Go.Proofs.YtfijhnojflcajaeDoor
open Go.RowKit

end Go.Proofs.YtfijhnojflcajaeDoor
