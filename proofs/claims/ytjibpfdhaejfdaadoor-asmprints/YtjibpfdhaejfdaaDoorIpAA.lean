/- attestref6.Do: any instruction. attestref6.Walk: what it walks, and Fault. -/
import Derived.Test.YtjibpfdhaejfdaaDoorMacGAd
import Derived.Test.YtjibpfdhaejfdaaDoorMacGSu
import Derived.Test.YtjibpfdhaejfdaaDoorMacGMu
import Derived.Test.YtjibpfdhaejfdaaDoorMacGDi
import Derived.Test.YtjibpfdhaejfdaaDoorMacGSa
import Derived.Test.YtjibpfdhaejfdaaDoorMacHa
import Derived.Test.YtjibpfdhaejfdaaDoorMacHb
import Derived.Test.YtjibpfdhaejfdaaDoorMacHc
import Derived.Test.YtjibpfdhaejfdaaDoorMacHd
import Derived.Test.YtjibpfdhaejfdaaDoorMacHe
import Derived.Test.YtjibpfdhaejfdaaDoorMacHf
import Derived.Test.YtjibpfdhaejfdaaDoorMacHg
import Derived.Test.YtjibpfdhaejfdaaDoorMacHh
import Derived.Lib.SmallJoins
namespace Go.Proofs.YtjibpfdhaejfdaaDoor
open Go.RowKit

end Go.Proofs.YtjibpfdhaejfdaaDoor

namespace Go.Proofs.YtjibpfdhaejfdaaDoor
open Go.RowKit

structure InsZ where
  op : Int
  a : Int
  b : Int
  c : Int
def insat (L : List InsZ) (k : Nat) : InsZ := L.getD k ⟨0, 0, 0, 0⟩
/-- instructions in memory -/
structure LstI (n0 : Nat) (w : World) (a : Option Addr) (cap : Nat) (L : List InsZ) : Prop where
  row : ∀ k, k < L.length → ∃ b o, a = some ⟨b, o, none⟩ ∧ b < n0 ∧ w.cell? ⟨b, o + k * 4, none⟩ = some (.int .i64 (insat L k).op) ∧ w.cell? ⟨b, o + k * 4 + 1, none⟩ = some (.int .i64 (insat L k).a) ∧ w.cell? ⟨b, o + k * 4 + 2, none⟩ = some (.int .i64 (insat L k).b) ∧ w.cell? ⟨b, o + k * 4 + 3, none⟩ = some (.int .i64 (insat L k).c)
  room : L.length ≤ cap
  nil : a = none → cap = 0
theorem LstI.below {n0 : Nat} {A B : World} {a : Option Addr} {cap : Nat} {L : List InsZ} (r : LstI n0 A a cap L) (h : Below n0 A B) : LstI n0 B a cap L :=
  ⟨fun k hk => by
    obtain ⟨b, o, h1, h2, h3, h4, h5, h6⟩ := r.row k hk
    exact ⟨b, o, h1, h2, (h.cell (p := ⟨b, o + k * 4, none⟩) h2).trans h3, (h.cell (p := ⟨b, o + k * 4 + 1, none⟩) h2).trans h4, (h.cell (p := ⟨b, o + k * 4 + 2, none⟩) h2).trans h5, (h.cell (p := ⟨b, o + k * 4 + 3, none⟩) h2).trans h6⟩, r.room, r.nil⟩
theorem LstI.mono {n0 n1 : Nat} {A : World} {a : Option Addr} {cap : Nat} {L : List InsZ} (r : LstI n0 A a cap L) (h : n0 ≤ n1) : LstI n1 A a cap L :=
  ⟨fun k hk => by
    obtain ⟨b, o, h1, h2, h3⟩ := r.row k hk
    exact ⟨b, o, h1, by omega, h3⟩, r.room, r.nil⟩
/-- each number of an instruction is an int -/
def InsB (L : List InsZ) : Prop := ∀ k, k < L.length → (-9223372036854775808 ≤ (insat L k).op ∧ (insat L k).op ≤ 9223372036854775807) ∧ (-9223372036854775808 ≤ (insat L k).a ∧ (insat L k).a ≤ 9223372036854775807) ∧ (-9223372036854775808 ≤ (insat L k).b ∧ (insat L k).b ≤ 9223372036854775807) ∧ (-9223372036854775808 ≤ (insat L k).c ∧ (insat L k).c ≤ 9223372036854775807)

/-- a step as ten numbers -/
def stl (n : Rg) (s : RM) : List Int := [n.pc, n.fp, n.ap, n.rv, s.at' 0, s.at' 1, s.at' 2, s.is' 0, s.is' 1, s.is' 2]
def RM.now (s : RM) : List Int := stl ⟨s.pc, s.fp, s.ap, s.rv⟩ s
/-- what a walk comes to -/
inductive WR where
  | bad (e : Int)
  | good (l : List (List Int)) (cs : List (Int × Int))
theorem SOk.more {p n m k j : Nat} {s : RM} (h : SOk p n k s) (hm : n ≤ m) (hj : k ≤ j) : SOk p m j s := ⟨h.1, Nat.le_trans h.2.1 hm, fun e => Nat.le_trans (h.2.2 e) hj⟩
end Go.Proofs.YtjibpfdhaejfdaaDoor
