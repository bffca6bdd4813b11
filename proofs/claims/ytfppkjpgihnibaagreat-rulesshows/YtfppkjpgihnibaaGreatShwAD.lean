/- attestref6.Do: 8 attestref6.Do: 9 attestref6.Do: 10 -/
import Derived.Test.YtfppkjpgihnibaaGreatShwAA
namespace Go.Proofs.YtfppkjpgihnibaaGreat
open Go.RowKit

end Go.Proofs.YtfppkjpgihnibaaGreat

namespace Go.Proofs.YtfppkjpgihnibaaGreat
open Go.RowKit

end Go.Proofs.YtfppkjpgihnibaaGreat

namespace Go.Proofs.YtfppkjpgihnibaaGreat
open Go.RowKit

end Go.Proofs.YtfppkjpgihnibaaGreat
