/- attestref6.Do: op 1 attestref6.Do: op 2 attestref6.Do: op 3 -/
import Derived.Test.YtfppkjpgihnibaaGreatShwAA
namespace Go.Proofs.YtfppkjpgihnibaaGreat
open Go.RowKit

end Go.Proofs.YtfppkjpgihnibaaGreat

namespace Go.Proofs.YtfppkjpgihnibaaGreat
open Go.RowKit

end Go.Proofs.YtfppkjpgihnibaaGreat

namespace Go.Proofs.YtfppkjpgihnibaaGreat
open Go.RowKit

end Go.Proofs.YtfppkjpgihnibaaGreat
