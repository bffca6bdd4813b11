/- attestref4: Variables, Over, weight, Extend, Fix, Total, At. -/
import Derived.Test.YtaapbopcfpihbaaDoorSumP
import Derived.Test.YtaapbopcfpihbaaDoorRefS
import Derived.Test.YtaapbopcfpihbaaDoorRefs
import Derived.Test.YtaapbopcfpihbaaDoorGvAB
import Derived.BigQuiet
namespace Go.Proofs.YtaapbopcfpihbaaDoor
open Go.RowKit

end Go.Proofs.YtaapbopcfpihbaaDoor
