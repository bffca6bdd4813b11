
import Derived.Test.YtlhjifpomchnfaaGreatDoorPoAN
import Derived.Test.YtlhjifpomchnfaaGreatDoorTres
import Derived.Test.YtlhjifpomchnfaaGreatDoorPoAW
import Derived.Test.YtlhjifpomchnfaaGreatDoorPoAU
import Derived.Test.YtlhjifpomchnfaaGreatDoorPoAI
import Derived.Test.YtlhjifpomchnfaaGreatDoorPoAQ
set_option maxRecDepth 1000000
set_option maxHeartbeats 8000000
namespace Go.Proofs.YtlhjifpomchnfaaGreatDoor
open Go.RowKit
theorem rat_mem {rs : List (List Int)} {k : Nat} (h : k < rs.length) : rat rs k ∈ rs := by
 show rs.getD k [] ∈ rs
 rw [List.getD_eq_getElem?_getD, List.getElem?_eq_getElem h, Option.getD_some]
 exact List.getElem_mem h
theorem ascN_once {N : Nat} {ps os : List Int} (h : OnceIs ps os) (hin : ∀ x, x ∈ ps -> 0 <= x /\ x < (N : Int)) : AscN (N : Int) os := fun j hj => by
 have hb := hin (zat os j) ((h.2 _).1 (zat_mem hj))
 refine ⟨hb.1, hb.2, fun h0 => ?_⟩
 have := List.pairwise_iff_getElem.1 h.1 (j - 1) j (by omega) hj (by omega)
 simpa [zat, hj, show j - 1 < os.length by omega] using this
theorem shw_fits {q : Nat} (h3 : 3 <= q) (h4 : q <= 2147483647) {rows : List (List Int)} {os : List Int} (hfr : FitsR rows) (ha : AscN (rows.length : Int) os) : FitsR (shw q rows os) := fun k hk => by
 rw [shw_len] at hk
 rw [rat_shw hk]
 have h := ha k hk
 refine ⟨elr_fits h3 h4 _, ?_⟩
 unfold elr
 rw [ls_len]
 exact (hfr _ (by omega)).2
theorem ndf_dgst {q : Nat} (h3 : 3 <= q) (n : Nat) {rows : List (List Int)} (os : List Int) (h1 : 1 <= rows.length) {k : Nat} (hk : k < (ndf q n rows.length rows os 0).length) : Dgst q (rat (ndf q n rows.length rows os 0) k) := by
 have hm := rat_mem hk
 generalize rat (ndf q n rows.length rows os 0) k = x at *
 rw [ndf_all q n rows os h1] at hm
 obtain ⟨g, _, e⟩ := List.mem_map.1 hm
 rw [<- e]
 exact DR_dgst h3 n rows g.1 g.2
theorem ndf_fits {q : Nat} (h3 : 3 <= q) (h4 : q <= 2147483647) (n : Nat) {rows : List (List Int)} (os : List Int) (h1 : 1 <= rows.length) : FitsR (ndf q n rows.length rows os 0) := fun k hk => by
 have := ndf_dgst h3 n os h1 hk
 exact ⟨this.fits h4, by rw [this.1]; omega⟩
end Go.Proofs.YtlhjifpomchnfaaGreatDoor
namespace Go.Proofs.YtlhjifpomchnfaaGreatDoor.Fol
open Pol Dom
end Go.Proofs.YtlhjifpomchnfaaGreatDoor.Fol
