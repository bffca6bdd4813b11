/- PledgeKeeps: the walk. Package tree: Collide, where one is not taken. Package tree: Collide, where both are taken. -/
import Derived.Test.YtlhjifpomchnfaaGreatDoorPoBB
import Derived.Test.YtlhjifpomchnfaaGreatDoorPoBA
namespace Go.Proofs.YtlhjifpomchnfaaGreatDoor
open Go.RowKit

end Go.Proofs.YtlhjifpomchnfaaGreatDoor

namespace Go.Proofs.YtlhjifpomchnfaaGreatDoor
open Go.RowKit

theorem CollR.no {q n : Nat} {tt : Prop} {w w' : World} (h : ¬ tt) (hb : Below w.heap.size w w') : CollR q n tt w (.returned (.tuple #[.slice none 0 0, .slice none 0 0, .bool false])) w' := ⟨.inl ⟨rfl, h⟩, hb⟩

/-- two Openings that came in -/
structure TwoO (q n d b s c4 cp cr cn cp2 cr2 cn2 : Nat) (a4 ap ar an' ap2 ar2 an2 : Option Addr) (root : List Int) (N : Int) (ps : List Int) (rows nodes : List (List Int)) (ps2 : List Int) (rows2 nodes2 : List (List Int)) (w : World) : Prop where
  ok : SpgOk q n d
  hs : SpgAt w s b q n d
  pl : ps.length ≤ 281474976710656
  nl : nodes.length ≤ 281474976710656
  pl2 : ps2.length ≤ 281474976710656
  nl2 : nodes2.length ≤ 281474976710656
  N1 : -9223372036854775808 ≤ N
  N2 : N ≤ 9223372036854775807
  f4 : Fits root
  fp : Fits ps
  fr : FitsR rows
  fn : FitsR nodes
  fp2 : Fits ps2
  fr2 : FitsR rows2
  fn2 : FitsR nodes2
  l4 : Lst w.heap.size w a4 c4 root
  lp : Lst w.heap.size w ap cp ps
  lr : LstR w.heap.size w ar cr rows
  ln : LstR w.heap.size w an' cn nodes
  lp2 : Lst w.heap.size w ap2 cp2 ps2
  lr2 : LstR w.heap.size w ar2 cr2 rows2
  ln2 : LstR w.heap.size w an2 cn2 nodes2
theorem TwoO.below {q n d b s c4 cp cr cn cp2 cr2 cn2 : Nat} {a4 ap ar an' ap2 ar2 an2 : Option Addr} {root : List Int} {N : Int} {ps : List Int} {rows nodes : List (List Int)} {ps2 : List Int} {rows2 nodes2 : List (List Int)} {w W : World} (h : TwoO q n d b s c4 cp cr cn cp2 cr2 cn2 a4 ap ar an' ap2 ar2 an2 root N ps rows nodes ps2 rows2 nodes2 w) (e : Below w.heap.size w W) : TwoO q n d b s c4 cp cr cn cp2 cr2 cn2 a4 ap ar an' ap2 ar2 an2 root N ps rows nodes ps2 rows2 nodes2 W :=
  ⟨h.ok, h.hs.keep e, h.pl, h.nl, h.pl2, h.nl2, h.N1, h.N2, h.f4, h.fp, h.fr, h.fn, h.fp2, h.fr2, h.fn2, (h.l4.below e).mono e.size, (h.lp.below e).mono e.size, (h.lr.below e).mono e.size, (h.ln.below e).mono e.size, (h.lp2.below e).mono e.size, (h.lr2.below e).mono e.size, (h.ln2.below e).mono e.size⟩

end Go.Proofs.YtlhjifpomchnfaaGreatDoor

namespace Go.Proofs.YtlhjifpomchnfaaGreatDoor
open Go.RowKit

/-- a walk that is done, later -/
structure WDn (q n N : Nat) (ps : List Int) (rows nodes : List (List Int)) (g B s : Nat) (M' : Nat → Nat → Option (List Int)) (W : World) : Prop where
  wlk : WlkAt W g B s
  map : MapIs W B M'
  snd : Snd M' (DV q n (M0 q n N ps rows nodes))
  cl : ClM (M0 q n N ps rows nodes) M'
  top : M' 0 N ≠ none
theorem WDn.keep {q n N : Nat} {ps : List Int} {rows nodes : List (List Int)} {g B s : Nat} {M' : Nat → Nat → Option (List Int)} {W W' : World} (h : WDn q n N ps rows nodes g B s M' W) (e : Below W.heap.size W W') : WDn q n N ps rows nodes g B s M' W' := ⟨h.wlk.block (e.block _ h.wlk.lt), h.map.below e h.map.lt, h.snd, h.cl, h.top⟩

end Go.Proofs.YtlhjifpomchnfaaGreatDoor
