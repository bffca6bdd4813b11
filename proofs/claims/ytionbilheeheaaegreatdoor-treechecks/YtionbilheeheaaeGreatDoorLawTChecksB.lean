/- TreeChecks, of the landed code. -/
import Derived.Test.YtionbilheeheaaeGreatDoorLawTChecks
import Derived.Test.YtionbilheeheaaeGreatDoorTrgX
namespace Go.Proofs.YtionbilheeheaaeGreatDoor
open Go.RowKit

theorem checks_as (q n d b s : Nat) (ok : SpgOk q n d) : ChecksAs q n d b s := fun c4 cp cr cn a4 ap ar an' root N ps rows nodes W hs _ h2 h3 _ h5 h6 f1 f2 f3 f4 l1 l2 l3 l4 =>
  check_any q n d b s c4 cp cr cn a4 ap ar an' root N ps rows nodes W ok hs (by omega) (by omega) h5 h6 f1 f2 f3 f4 l1 l2 l3 l4

theorem tchecks_walk (p : Int) (a1 : Option Addr) (c1 : Nat) (root : List Int) (N : Int) (ap ar an' : Option Addr) (cp cr cn : Nat) (ps : List Int) (rows nodes : List (List Int)) (w : World) (hL : Laid w) (hp1 : -9223372036854775808 ≤ p) (hp2 : p ≤ 9223372036854775807) (hn1 : -9223372036854775808 ≤ N) (hn2 : N ≤ 9223372036854775807)
    (hlx : root.length ≤ 17592186043904) (hf1 : Fits root) (hl1 : Lst w.heap.size w a1 c1 root) (hr : ps.length ≤ 17592186043904 ∧ (rows.length ≤ 5864062014634 ∧ ∀ k, k < rows.length → (rat rows k).length ≤ 17592186043904) ∧ (nodes.length ≤ 5864062014634 ∧ ∀ k, k < nodes.length → (rat nodes k).length ≤ 17592186043904))
    (lp : Lst w.heap.size w ap cp ps) (lr : LstR w.heap.size w ar cr rows) (ln : LstR w.heap.size w an' cn nodes) (fp : Fits ps) (fr : FitsR rows) (fn : FitsR nodes) :
    Calls Tryz.prog 4 #[.int .i64 p, .slice a1 root.length c1, .int .i64 N, .agg #[.slice ap ps.length cp, .slice ar rows.length cr, .slice an' nodes.length cn]] w fun e w' => e = .returned (.bool true) ∧ Below w.heap.size w w' :=
  tchecks_of checks_as p a1 c1 root N ap ar an' cp cr cn ps rows nodes w hL hp1 hp2 hn1 hn2 hlx hf1 hl1 hr lp lr ln fp fr fn

end Go.Proofs.YtionbilheeheaaeGreatDoor
