/- attestref6.Do: 11 attestref6.Do: 12, 0 -/
import Derived.Test.YtfppkjpgihnibaaDoorWbtAB
namespace Go.Proofs.YtfppkjpgihnibaaDoor
open Go.RowKit

end Go.Proofs.YtfppkjpgihnibaaDoor

namespace Go.Proofs.YtfppkjpgihnibaaDoor
open Go.RowKit

end Go.Proofs.YtfppkjpgihnibaaDoor
