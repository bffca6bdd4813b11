/- attestref6.Do: any other -/
import Derived.Test.YtgcjpddpolaofaiMacF
namespace Go.Proofs.Ytgcjpddpolaofai
open Go.RowKit

end Go.Proofs.Ytgcjpddpolaofai
