/- attestref6.Do: 13 attestref6.Do: any other attestref6.Do: any instruction. attestref6.Walk: what it walks, and Fault. Package machine: cells that are told, as a map; look, tell, must, one. -/
import Derived.Test.YtfppkjpgihnibaaDoorWbtAB
import Derived.Test.YtfppkjpgihnibaaDoorWbtAC
import Derived.Test.YtfppkjpgihnibaaDoorWbtAD
import Derived.Test.YtfppkjpgihnibaaDoorWbtAE
import Derived.Lib.SmallJoins
import Derived.Maps.OwnOps
import Derived.Maps.OwnSet
import Derived.WalkLawsBesides
namespace Go.Proofs.YtfppkjpgihnibaaDoor
open Go.RowKit

end Go.Proofs.YtfppkjpgihnibaaDoor

namespace Go.Proofs.YtfppkjpgihnibaaDoor
open Go.RowKit

end Go.Proofs.YtfppkjpgihnibaaDoor

namespace Go.Proofs.YtfppkjpgihnibaaDoor
open Go.RowKit

end Go.Proofs.YtfppkjpgihnibaaDoor

namespace Go.Proofs.YtfppkjpgihnibaaDoor
open Go.RowKit

structure InsZ where
  op : Int
  a : Int
  b : Int
  c : Int
def insat (L : List InsZ) (k : Nat) : InsZ := L.getD k ⟨0, 0, 0, 0⟩
/-- instructions in memory -/
structure LstI (n0 : Nat) (w : World) (a : Option Addr) (cap : Nat) (L : List InsZ) : Prop where
  row : ∀ k, k < L.length → ∃ b o, a = some ⟨b, o, none⟩ ∧ b < n0 ∧ w.cell? ⟨b, o + k * 4, none⟩ = some (.int .i64 (insat L k).op) ∧ w.cell? ⟨b, o + k * 4 + 1, none⟩ = some (.int .i64 (insat L k).a) ∧ w.cell? ⟨b, o + k * 4 + 2, none⟩ = some (.int .i64 (insat L k).b) ∧ w.cell? ⟨b, o + k * 4 + 3, none⟩ = some (.int .i64 (insat L k).c)
  room : L.length ≤ cap
  nil : a = none → cap = 0
theorem LstI.below {n0 : Nat} {A B : World} {a : Option Addr} {cap : Nat} {L : List InsZ} (r : LstI n0 A a cap L) (h : Below n0 A B) : LstI n0 B a cap L :=
  ⟨fun k hk => by
    obtain ⟨b, o, h1, h2, h3, h4, h5, h6⟩ := r.row k hk
    exact ⟨b, o, h1, h2, (h.cell (p := ⟨b, o + k * 4, none⟩) h2).trans h3, (h.cell (p := ⟨b, o + k * 4 + 1, none⟩) h2).trans h4, (h.cell (p := ⟨b, o + k * 4 + 2, none⟩) h2).trans h5, (h.cell (p := ⟨b, o + k * 4 + 3, none⟩) h2).trans h6⟩, r.room, r.nil⟩
theorem LstI.mono {n0 n1 : Nat} {A : World} {a : Option Addr} {cap : Nat} {L : List InsZ} (r : LstI n0 A a cap L) (h : n0 ≤ n1) : LstI n1 A a cap L :=
  ⟨fun k hk => by
    obtain ⟨b, o, h1, h2, h3⟩ := r.row k hk
    exact ⟨b, o, h1, by omega, h3⟩, r.room, r.nil⟩
/-- each number of an instruction is an int -/
def InsB (L : List InsZ) : Prop := ∀ k, k < L.length → (-9223372036854775808 ≤ (insat L k).op ∧ (insat L k).op ≤ 9223372036854775807) ∧ (-9223372036854775808 ≤ (insat L k).a ∧ (insat L k).a ≤ 9223372036854775807) ∧ (-9223372036854775808 ≤ (insat L k).b ∧ (insat L k).b ≤ 9223372036854775807) ∧ (-9223372036854775808 ≤ (insat L k).c ∧ (insat L k).c ≤ 9223372036854775807)

/-- a step as ten numbers -/
def stl (n : Rg) (s : RM) : List Int := [n.pc, n.fp, n.ap, n.rv, s.at' 0, s.at' 1, s.at' 2, s.is' 0, s.is' 1, s.is' 2]
def RM.now (s : RM) : List Int := stl ⟨s.pc, s.fp, s.ap, s.rv⟩ s
def freshM (cs : List (Int × Int)) (n : Rg) : RM := ⟨cs, n.pc, n.fp, n.ap, n.rv, fun _ => 0, fun _ => 0, 0, 0⟩
/-- what a walk comes to -/
inductive WR where
  | bad (e : Int)
  | good (l : List (List Int)) (cs : List (Int × Int))
def mgo (p : Nat) (L : List InsZ) (limit : Nat) : Nat → RM → List (List Int) → WR
  | 0, _, _ => .bad 8
  | f + 1, s, done =>
    if (L.length : Int) ≤ s.pc then .bad 7
    else if done.length = limit ∧ (insat L s.pc.toNat).op ≠ 0 then .bad 8
    else if (s.step p (insat L s.pc.toNat).op (insat L s.pc.toNat).a (insat L s.pc.toNat).b (insat L s.pc.toNat).c).1.err ≠ 0 then .bad (s.step p (insat L s.pc.toNat).op (insat L s.pc.toNat).a (insat L s.pc.toNat).b (insat L s.pc.toNat).c).1.err
    else if (insat L s.pc.toNat).op = 0 then .good (done ++ [(s.step p (insat L s.pc.toNat).op (insat L s.pc.toNat).a (insat L s.pc.toNat).b (insat L s.pc.toNat).c).1.now]) (s.step p (insat L s.pc.toNat).op (insat L s.pc.toNat).a (insat L s.pc.toNat).b (insat L s.pc.toNat).c).1.cs
    else mgo p L limit f (freshM (s.step p (insat L s.pc.toNat).op (insat L s.pc.toNat).a (insat L s.pc.toNat).b (insat L s.pc.toNat).c).1.cs (s.step p (insat L s.pc.toNat).op (insat L s.pc.toNat).a (insat L s.pc.toNat).b (insat L s.pc.toNat).c).2) (done ++ [(s.step p (insat L s.pc.toNat).op (insat L s.pc.toNat).a (insat L s.pc.toNat).b (insat L s.pc.toNat).c).1.now])
def RgB (p : Nat) (n : Rg) : Prop := (0 ≤ n.pc ∧ n.pc < p) ∧ (0 ≤ n.fp ∧ n.fp < p) ∧ (0 ≤ n.ap ∧ n.ap < p) ∧ (0 ≤ n.rv ∧ n.rv < p)
theorem SOk.more {p n m k j : Nat} {s : RM} (h : SOk p n k s) (hm : n ≤ m) (hj : k ≤ j) : SOk p m j s := ⟨h.1, Nat.le_trans h.2.1 hm, fun e => Nat.le_trans (h.2.2 e) hj⟩
end Go.Proofs.YtfppkjpgihnibaaDoor

namespace Go.Proofs.YtfppkjpgihnibaaDoor
open Go.RowKit Go.Maps

/-- what a cell is -/
def cvl (cs : List (Int × Int)) (x : Int) : Int := if 0 ≤ finz cs x then (cat cs (finz cs x).toNat).2 else 0
/-- a map that reads as cells that are told -/
def CMap (D : DataW Unit) (cs : List (Int × Int)) : Prop := ∀ x : Int, (-9223372036854775808 ≤ x ∧ x ≤ 9223372036854775807) → Maps.has D (.int .i64 x) = decide (0 ≤ finz cs x) ∧ D.atKey (.int .i64 x) (.lit (.int .i64 0)) = .lit (.int .i64 (cvl cs x))
def MapAt (w : World) (B n : Nat) (cs : List (Int × Int)) : Prop := ∃ D : DataW Unit, w.ownsMap Tryd.prog 3 (plainElem Tryd.prog 3) B n D ∧ CMap D cs
theorem MapAt.kept {w w' : World} {B n : Nat} {cs : List (Int × Int)} {row : Option Nat} (h : MapAt w B n cs) (hg : w.grownBy w' row) (hne : some B ≠ row) : MapAt w' B n cs := by
  obtain ⟨D, h1, h2⟩ := h
  exact ⟨D, h1.kept hg hne, h2⟩
end Go.Proofs.YtfppkjpgihnibaaDoor
