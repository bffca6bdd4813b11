/- Package rules: what is next. -/
import Derived.Test.YtfppkjpgihnibaaDoorWbtAJ
namespace Go.Proofs.YtfppkjpgihnibaaDoor
open Go.RowKit Go.Maps

end Go.Proofs.YtfppkjpgihnibaaDoor
