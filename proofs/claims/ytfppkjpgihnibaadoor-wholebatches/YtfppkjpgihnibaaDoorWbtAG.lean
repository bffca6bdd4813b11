/- Package machine: next. Package machine: cells. -/
import Derived.Test.YtfppkjpgihnibaaDoorWbtAF
import Derived.StillTailTactics
namespace Go.Proofs.YtfppkjpgihnibaaDoor
open Go.RowKit Go.Maps

end Go.Proofs.YtfppkjpgihnibaaDoor

namespace Go.Proofs.YtfppkjpgihnibaaDoor
open Go.RowKit Go.Maps

def I64 (x : Int) : Prop := -9223372036854775808 ≤ x ∧ x ≤ 9223372036854775807
end Go.Proofs.YtfppkjpgihnibaaDoor
