/- Package tree: a walk's root, where it is not found: both its parts' roots. Package tree: a walk's root. Package tree: checked, where it is not taken. Two digests compared. Package tree: checked, where it is right by its form. -/
import Derived.Test.YtfppkjpgihnibaaGreatShwAU
import Derived.Test.YtfppkjpgihnibaaGreatShwAT
namespace Go.Proofs.YtfppkjpgihnibaaGreat
open Go.RowKit

def fs : Code → Code
  | .seq a _ => a
  | c => c
end Go.Proofs.YtfppkjpgihnibaaGreat

namespace Go.Proofs.YtfppkjpgihnibaaGreat
open Go.RowKit

end Go.Proofs.YtfppkjpgihnibaaGreat

namespace Go.Proofs.YtfppkjpgihnibaaGreat
open Go.RowKit

end Go.Proofs.YtfppkjpgihnibaaGreat

namespace Go.Proofs.YtfppkjpgihnibaaGreat
open Go.RowKit

end Go.Proofs.YtfppkjpgihnibaaGreat

namespace Go.Proofs.YtfppkjpgihnibaaGreat
open Go.RowKit

end Go.Proofs.YtfppkjpgihnibaaGreat
