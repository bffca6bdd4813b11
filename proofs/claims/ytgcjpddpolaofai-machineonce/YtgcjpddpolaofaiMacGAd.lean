/- attestref6.Do: op 1 -/
import Derived.Test.YtgcjpddpolaofaiMacF
namespace Go.Proofs.Ytgcjpddpolaofai
open Go.RowKit

end Go.Proofs.Ytgcjpddpolaofai
