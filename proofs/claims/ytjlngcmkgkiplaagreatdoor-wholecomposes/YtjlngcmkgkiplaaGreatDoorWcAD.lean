
import Derived.Test.YtjlngcmkgkiplaaGreatDoorWcAA
import Derived.Test.YtjlngcmkgkiplaaGreatDoorWcAB
import Derived.Test.YtjlngcmkgkiplaaGreatDoorWcAC
import Derived.Lib.SmallJoins
import Derived.Maps.OwnOps
import Derived.Maps.OwnSet
import Derived.WalkLawsBesides
set_option maxRecDepth 1000000
set_option maxHeartbeats 8000000
namespace Go.Proofs.YtjlngcmkgkiplaaGreatDoor
open Go.RowKit
structure InsZ where
 op : Int
 a : Int
 b : Int
 c : Int
def insat (L : List InsZ) (k : Nat) : InsZ := L.getD k ⟨0, 0, 0, 0⟩
structure LstI (n0 : Nat) (w : World) (a : Option Addr) (cap : Nat) (L : List InsZ) : Prop where
 row : ∀ k, k < L.length -> ∃ b o, a = some ⟨b, o, none⟩ /\ b < n0 /\ w.cell? ⟨b, o + k * 4, none⟩ = some (.int .i64 (insat L k).op) /\ w.cell? ⟨b, o + k * 4 + 1, none⟩ = some (.int .i64 (insat L k).a) /\ w.cell? ⟨b, o + k * 4 + 2, none⟩ = some (.int .i64 (insat L k).b) /\ w.cell? ⟨b, o + k * 4 + 3, none⟩ = some (.int .i64 (insat L k).c)
 room : L.length <= cap
 nil : a = none -> cap = 0
theorem LstI.below {n0 : Nat} {A B : World} {a : Option Addr} {cap : Nat} {L : List InsZ} (r : LstI n0 A a cap L) (h : Below n0 A B) : LstI n0 B a cap L :=
 ⟨fun k hk => by
  obtain ⟨b, o, h1, h2, h3, h4, h5, h6⟩ := r.row k hk
  exact ⟨b, o, h1, h2, (h.cell (p := ⟨b, o + k * 4, none⟩) h2).trans h3, (h.cell (p := ⟨b, o + k * 4 + 1, none⟩) h2).trans h4, (h.cell (p := ⟨b, o + k * 4 + 2, none⟩) h2).trans h5, (h.cell (p := ⟨b, o + k * 4 + 3, none⟩) h2).trans h6⟩, r.room, r.nil⟩
theorem LstI.mono {n0 n1 : Nat} {A : World} {a : Option Addr} {cap : Nat} {L : List InsZ} (r : LstI n0 A a cap L) (h : n0 <= n1) : LstI n1 A a cap L :=
 ⟨fun k hk => by
  obtain ⟨b, o, h1, h2, h3⟩ := r.row k hk
  exact ⟨b, o, h1, by omega, h3⟩, r.room, r.nil⟩
def InsB (L : List InsZ) : Prop := ∀ k, k < L.length -> (-9223372036854775808 <= (insat L k).op /\ (insat L k).op <= 9223372036854775807) /\ (-9223372036854775808 <= (insat L k).a /\ (insat L k).a <= 9223372036854775807) /\ (-9223372036854775808 <= (insat L k).b /\ (insat L k).b <= 9223372036854775807) /\ (-9223372036854775808 <= (insat L k).c /\ (insat L k).c <= 9223372036854775807)
open Go.RowKit Go.Maps
end Go.Proofs.YtjlngcmkgkiplaaGreatDoor
