/- attestref1.Unlike: whether all of a list are unlike, as elements. -/
import Derived.Test.YtmmlphdekeflfaaDoorPls
import Derived.Deep.QuietTactic
import Derived.BigQuiet
namespace Go.Proofs.YtmmlphdekeflfaaDoor
open Go.RowKit

end Go.Proofs.YtmmlphdekeflfaaDoor
