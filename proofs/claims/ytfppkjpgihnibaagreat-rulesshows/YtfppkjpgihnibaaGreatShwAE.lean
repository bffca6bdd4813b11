/- attestref6.Do: 11 attestref6.Do: 12, 0 attestref6.Do: 13 -/
import Derived.Test.YtfppkjpgihnibaaGreatShwAA
namespace Go.Proofs.YtfppkjpgihnibaaGreat
open Go.RowKit

end Go.Proofs.YtfppkjpgihnibaaGreat

namespace Go.Proofs.YtfppkjpgihnibaaGreat
open Go.RowKit

end Go.Proofs.YtfppkjpgihnibaaGreat

namespace Go.Proofs.YtfppkjpgihnibaaGreat
open Go.RowKit

end Go.Proofs.YtfppkjpgihnibaaGreat
