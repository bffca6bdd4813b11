/- attestref6.Do: any instruction. -/
import Derived.Test.YtgcjpddpolaofaiMacGAd
import Derived.Test.YtgcjpddpolaofaiMacGSu
import Derived.Test.YtgcjpddpolaofaiMacGMu
import Derived.Test.YtgcjpddpolaofaiMacGDi
import Derived.Test.YtgcjpddpolaofaiMacGSa
import Derived.Test.YtgcjpddpolaofaiMacHa
import Derived.Test.YtgcjpddpolaofaiMacHb
import Derived.Test.YtgcjpddpolaofaiMacHc
import Derived.Test.YtgcjpddpolaofaiMacHd
import Derived.Test.YtgcjpddpolaofaiMacHe
import Derived.Test.YtgcjpddpolaofaiMacHf
import Derived.Test.YtgcjpddpolaofaiMacHg
import Derived.Test.YtgcjpddpolaofaiMacHh
namespace Go.Proofs.Ytgcjpddpolaofai
open Go.RowKit

end Go.Proofs.Ytgcjpddpolaofai
