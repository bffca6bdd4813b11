
import Derived.Test.YtjlngcmkgkiplaaGreatDoorWcAL
set_option maxRecDepth 1000000
set_option maxHeartbeats 8000000
namespace Go.Proofs.YtjlngcmkgkiplaaGreatDoor
open Go.RowKit
def d4 (d : List Int) : Value := .agg #[.int .i64 (zat d 0), .int .i64 (zat d 1), .int .i64 (zat d 2), .int .i64 (zat d 3)]
def sq : Code -> Code
 | .seq _ b => b
 | c => c
def fs : Code -> Code
 | .seq a _ => a
 | c => c
end Go.Proofs.YtjlngcmkgkiplaaGreatDoor
