/- Package sponge: Hash. -/
import Derived.Test.YtjibpfdhaejfdaaDoorSpgT
import Derived.Test.YtjibpfdhaejfdaaDoorChk
import Derived.Test.YtjibpfdhaejfdaaDoorHeldR
namespace Go.Proofs.YtjibpfdhaejfdaaDoor
open Go.RowKit Go.Shelf

attribute [local go_sem] Oper.semAt_some

/-! ## one block alone has turned of what was there -/
end Go.Proofs.YtjibpfdhaejfdaaDoor
