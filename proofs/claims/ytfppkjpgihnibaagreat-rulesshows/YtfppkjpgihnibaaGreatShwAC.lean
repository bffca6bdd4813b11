/- attestref6.Do: op 4 attestref6.Do: op 6 attestref6.Do: 5, 7 -/
import Derived.Test.YtfppkjpgihnibaaGreatShwAA
namespace Go.Proofs.YtfppkjpgihnibaaGreat
open Go.RowKit

end Go.Proofs.YtfppkjpgihnibaaGreat

namespace Go.Proofs.YtfppkjpgihnibaaGreat
open Go.RowKit

end Go.Proofs.YtfppkjpgihnibaaGreat

namespace Go.Proofs.YtfppkjpgihnibaaGreat
open Go.RowKit

end Go.Proofs.YtfppkjpgihnibaaGreat
