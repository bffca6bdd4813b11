/- Package machine: step, the walk. A step of the program is one of the document, plainly. -/
import Derived.Test.YtfppkjpgihnibaaDoorWbtAR
import Derived.Test.YtfppkjpgihnibaaDoorWbtAP
namespace Go.Proofs.YtfppkjpgihnibaaDoor
open Go.RowKit Go.Maps

end Go.Proofs.YtfppkjpgihnibaaDoor

namespace Go.Proofs.YtfppkjpgihnibaaDoor
open Go.RowKit Go.Maps

/-- cell 0 is 0 -/
def Zer (cs : List (Int × Int)) : Prop := 0 ≤ finz cs 0 ∧ cvl cs 0 = 0
section
variable {p : Nat} {a b c : Int} {n : Rg} {cs : List (Int × Int)}
end

end Go.Proofs.YtfppkjpgihnibaaDoor
