
import Derived.Shelf.Slices.In.SortNone
import Derived.Lib.SlKeysI
import Derived.Test.YtjlngcmkgkiplaaGreatDoorWcAK
import Derived.Test.YtjlngcmkgkiplaaGreatDoorTrhD
import Derived.Test.YtjlngcmkgkiplaaGreatDoorWcAM
import Derived.Test.YtjlngcmkgkiplaaGreatDoorWcAG
import Derived.Test.YtjlngcmkgkiplaaGreatDoorWcAI
set_option maxRecDepth 1000000
set_option maxHeartbeats 8000000
namespace Go.Proofs.YtjlngcmkgkiplaaGreatDoor
open Go.RowKit Go.Sort
open Go.RowKit
theorem rows_ext {R S : List (List Int)} (h : R.length = S.length) (k : ∀ j, j < R.length -> rat R j = rat S j) : R = S := by
 apply List.ext_getElem h
 intro j h1 h2
 have := k j h1
 simpa [rat, h1, h2] using this
theorem zat_getR (l : List Int) (j : Nat) (h : j < l.length) : zat l j = l[j] := by simp [zat, h]
open Go.RowKit Go.Maps
end Go.Proofs.YtjlngcmkgkiplaaGreatDoor
