/- attestref6.Do: op 4 attestref6.Do: op 6 attestref6.Do: 5, 7 -/
import Derived.Test.YtfppkjpgihnibaaDoorWbtAB
namespace Go.Proofs.YtfppkjpgihnibaaDoor
open Go.RowKit

end Go.Proofs.YtfppkjpgihnibaaDoor

namespace Go.Proofs.YtfppkjpgihnibaaDoor
open Go.RowKit

end Go.Proofs.YtfppkjpgihnibaaDoor

namespace Go.Proofs.YtfppkjpgihnibaaDoor
open Go.RowKit

end Go.Proofs.YtfppkjpgihnibaaDoor
