/- attestref6.Do: 12, 0 -/
import Derived.Test.YtgcjpddpolaofaiMacF
namespace Go.Proofs.Ytgcjpddpolaofai
open Go.RowKit

end Go.Proofs.Ytgcjpddpolaofai
