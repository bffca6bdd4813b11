/- attestref6.Do: 13 attestref6.Do: any other attestref6.Do: any instruction. attestref6.Walk: what it walks, and Fault. Package lower, plainly: what is written of an expression, of functions, of a program. Package source: what Show shows, in memory. -/
import Derived.Test.YtmmgkdcojkmlcaaGreatDoorLFAI
import Derived.Test.YtmmgkdcojkmlcaaGreatDoorLFAJ
import Derived.Test.YtmmgkdcojkmlcaaGreatDoorLFAK
import Derived.Test.YtmmgkdcojkmlcaaGreatDoorLFAL
import Derived.Lib.SmallJoins
import Derived.Test.YtmmgkdcojkmlcaaGreatDoorLFAH
import Derived.Test.YtmmgkdcojkmlcaaGreatDoorLFAF
namespace Go.Proofs.YtmmgkdcojkmlcaaGreatDoor
open Go.RowKit

end Go.Proofs.YtmmgkdcojkmlcaaGreatDoor

namespace Go.Proofs.YtmmgkdcojkmlcaaGreatDoor
open Go.RowKit

end Go.Proofs.YtmmgkdcojkmlcaaGreatDoor

namespace Go.Proofs.YtmmgkdcojkmlcaaGreatDoor
open Go.RowKit

end Go.Proofs.YtmmgkdcojkmlcaaGreatDoor

namespace Go.Proofs.YtmmgkdcojkmlcaaGreatDoor
open Go.RowKit

structure InsZ where
  op : Int
  a : Int
  b : Int
  c : Int
def insat (L : List InsZ) (k : Nat) : InsZ := L.getD k ⟨0, 0, 0, 0⟩
/-- instructions in memory -/
structure LstI (n0 : Nat) (w : World) (a : Option Addr) (cap : Nat) (L : List InsZ) : Prop where
  row : ∀ k, k < L.length → ∃ b o, a = some ⟨b, o, none⟩ ∧ b < n0 ∧ w.cell? ⟨b, o + k * 4, none⟩ = some (.int .i64 (insat L k).op) ∧ w.cell? ⟨b, o + k * 4 + 1, none⟩ = some (.int .i64 (insat L k).a) ∧ w.cell? ⟨b, o + k * 4 + 2, none⟩ = some (.int .i64 (insat L k).b) ∧ w.cell? ⟨b, o + k * 4 + 3, none⟩ = some (.int .i64 (insat L k).c)
  room : L.length ≤ cap
  nil : a = none → cap = 0
theorem LstI.below {n0 : Nat} {A B : World} {a : Option Addr} {cap : Nat} {L : List InsZ} (r : LstI n0 A a cap L) (h : Below n0 A B) : LstI n0 B a cap L :=
  ⟨fun k hk => by
    obtain ⟨b, o, h1, h2, h3, h4, h5, h6⟩ := r.row k hk
    exact ⟨b, o, h1, h2, (h.cell (p := ⟨b, o + k * 4, none⟩) h2).trans h3, (h.cell (p := ⟨b, o + k * 4 + 1, none⟩) h2).trans h4, (h.cell (p := ⟨b, o + k * 4 + 2, none⟩) h2).trans h5, (h.cell (p := ⟨b, o + k * 4 + 3, none⟩) h2).trans h6⟩, r.room, r.nil⟩
theorem LstI.mono {n0 n1 : Nat} {A : World} {a : Option Addr} {cap : Nat} {L : List InsZ} (r : LstI n0 A a cap L) (h : n0 ≤ n1) : LstI n1 A a cap L :=
  ⟨fun k hk => by
    obtain ⟨b, o, h1, h2, h3⟩ := r.row k hk
    exact ⟨b, o, h1, by omega, h3⟩, r.room, r.nil⟩
/-- each number of an instruction is an int -/
def InsB (L : List InsZ) : Prop := ∀ k, k < L.length → (-9223372036854775808 ≤ (insat L k).op ∧ (insat L k).op ≤ 9223372036854775807) ∧ (-9223372036854775808 ≤ (insat L k).a ∧ (insat L k).a ≤ 9223372036854775807) ∧ (-9223372036854775808 ≤ (insat L k).b ∧ (insat L k).b ≤ 9223372036854775807) ∧ (-9223372036854775808 ≤ (insat L k).c ∧ (insat L k).c ≤ 9223372036854775807)

/-- a step as ten numbers -/
def stl (n : Rg) (s : RM) : List Int := [n.pc, n.fp, n.ap, n.rv, s.at' 0, s.at' 1, s.at' 2, s.is' 0, s.is' 1, s.is' 2]
def RM.now (s : RM) : List Int := stl ⟨s.pc, s.fp, s.ap, s.rv⟩ s
def freshM (cs : List (Int × Int)) (n : Rg) : RM := ⟨cs, n.pc, n.fp, n.ap, n.rv, fun _ => 0, fun _ => 0, 0, 0⟩
/-- what a walk comes to -/
inductive WR where
  | bad (e : Int)
  | good (l : List (List Int)) (cs : List (Int × Int))
def mgo (p : Nat) (L : List InsZ) (limit : Nat) : Nat → RM → List (List Int) → WR
  | 0, _, _ => .bad 8
  | f + 1, s, done =>
    if (L.length : Int) ≤ s.pc then .bad 7
    else if done.length = limit ∧ (insat L s.pc.toNat).op ≠ 0 then .bad 8
    else if (s.step p (insat L s.pc.toNat).op (insat L s.pc.toNat).a (insat L s.pc.toNat).b (insat L s.pc.toNat).c).1.err ≠ 0 then .bad (s.step p (insat L s.pc.toNat).op (insat L s.pc.toNat).a (insat L s.pc.toNat).b (insat L s.pc.toNat).c).1.err
    else if (insat L s.pc.toNat).op = 0 then .good (done ++ [(s.step p (insat L s.pc.toNat).op (insat L s.pc.toNat).a (insat L s.pc.toNat).b (insat L s.pc.toNat).c).1.now]) (s.step p (insat L s.pc.toNat).op (insat L s.pc.toNat).a (insat L s.pc.toNat).b (insat L s.pc.toNat).c).1.cs
    else mgo p L limit f (freshM (s.step p (insat L s.pc.toNat).op (insat L s.pc.toNat).a (insat L s.pc.toNat).b (insat L s.pc.toNat).c).1.cs (s.step p (insat L s.pc.toNat).op (insat L s.pc.toNat).a (insat L s.pc.toNat).b (insat L s.pc.toNat).c).2) (done ++ [(s.step p (insat L s.pc.toNat).op (insat L s.pc.toNat).a (insat L s.pc.toNat).b (insat L s.pc.toNat).c).1.now])
def RgB (p : Nat) (n : Rg) : Prop := (0 ≤ n.pc ∧ n.pc < p) ∧ (0 ≤ n.fp ∧ n.fp < p) ∧ (0 ≤ n.ap ∧ n.ap < p) ∧ (0 ≤ n.rv ∧ n.rv < p)
theorem SOk.more {p n m k j : Nat} {s : RM} (h : SOk p n k s) (hm : n ≤ m) (hj : k ≤ j) : SOk p m j s := ⟨h.1, Nat.le_trans h.2.1 hm, fun e => Nat.le_trans (h.2.2 e) hj⟩
end Go.Proofs.YtmmgkdcojkmlcaaGreatDoor

namespace Go.Proofs.YtmmgkdcojkmlcaaGreatDoor

def insP (p : Nat) (op a b c : Int) : InsZ := ⟨op, a % (p : Int), b % (p : Int), c % (p : Int)⟩
def zIns : InsZ := ⟨0, 0, 0, 0⟩
/-- what is written so far; the calls that are left; how many cells; what names stand for -/
structure LwS where
  L : List InsZ
  cl : List (Nat × List UInt8)
  cells : Nat
  M : List UInt8 → Option Int
def updL (M : List UInt8 → Option Int) (x : List UInt8) (n : Int) : List UInt8 → Option Int := fun y => if y = x then some n else M y
def delL (M : List UInt8 → Option Int) (x : List UInt8) : List UInt8 → Option Int := fun y => if y = x then none else M y
def LwS.lv (s : LwS) : LwS := { s with L := s.L ++ [zIns] }
def LwS.fl (s : LwS) (p k : Nat) (op a b c : Int) : LwS := { s with L := s.L.set k (insP p op a b c) }
def LwS.wr (s : LwS) (p : Nat) (op a b c : Int) : LwS := s.lv.fl p s.L.length op a b c
def LwS.ca (s : LwS) (nm : List UInt8) : LwS := { s.lv with cl := s.cl ++ [(s.L.length, nm)] }
def LwS.sM (s : LwS) (M : List UInt8 → Option Int) : LwS := ⟨s.L, s.cl, s.cells, M⟩
def LwS.sC (s : LwS) (c : Nat) : LwS := ⟨s.L, s.cl, c, s.M⟩
def LwS.cell (s : LwS) : LwS := s.sC (s.cells + 1)
/-- an expression: what it is, its name, what is written of it -/
structure KF where
  kd : Nat
  nm : List UInt8
  f : Int → LwS → LwS
/-- its value's cell -/
def KF.v (q : KF) (s : LwS) : Int × LwS := if q.kd = 1 then ((s.M q.nm).getD 0, s) else ((s.cells : Int), q.f s.cells s.cell)
def Tr.kd : Tr → Nat
  | .node k _ _ _ _ => k
def Tr.nm : Tr → List UInt8
  | .node _ nm _ _ _ => nm
/-- the values of parts, one after another -/
def kvs : List KF → LwS → List Int × LwS
  | [], s => ([], s)
  | q :: r, s => ((q.v s).1 :: (kvs r (q.v s).2).1, (kvs r (q.v s).2).2)
/-- the parts of a call handed on -/
def pss (p : Nat) : List Int → Nat → LwS → LwS
  | [], _, s => s
  | x :: r, i, s => pss p r (i + 1) (s.wr p 13 x i 0)
def opL (k : Nat) : Int := if k = 4 then 1 else if k = 5 then 2 else if k = 6 then 3 else if k = 7 then 4 else 6
/-- if: behind what is asked -/
def ifL (p : Nat) (b c : KF) (to q : Int) (s : LwS) : LwS :=
  let s3 := b.f to s.lv
  let s5 := s3.lv.fl p s.L.length 9 q s3.lv.L.length 0
  let s7 := c.f to (s5.sC s.cells)
  (s7.fl p s3.L.length 8 s7.L.length 0 0).sC (max s7.cells s5.cells)
def tlN (p : Nat) (z : Int) (k : Nat) (nm : List UInt8) (n : Nat) (ks : List KF) (to : Int) (s : LwS) : LwS :=
  if k = 0 then s.wr p 5 to n 0
  else if k = 1 then s.wr p 1 ((s.M nm).getD 0) z to
  else if k = 2 then ((pss p (kvs ks s).1 0 (kvs ks s).2).ca nm).wr p 12 to 0 0
  else match ks with
    | [a] => (a.v s).2.wr p 2 z (a.v s).1 to
    | [a, b] => if k = 9 then
        let s3 := b.f to ((a.v s).2.sM (updL (a.v s).2.M nm (a.v s).1))
        s3.sM (delL s3.M nm)
      else (b.v (a.v s).2).2.wr p (opL k) (a.v s).1 (b.v (a.v s).2).1 to
    | [a, b, c] => if k = 10 then c.f to ((b.v (a.v s).2).2.wr p 7 (a.v s).1 (b.v (a.v s).2).1 0)
      else ifL p b c to (a.v s).1 (a.v s).2
    | _ => s
mutual
/-- what is written of an expression whose value a cell is to be told -/
def tlP (p : Nat) (z : Int) : Tr → Int → LwS → LwS
  | .node k nm _ n kids => tlN p z k nm n (kfP p z kids)
def kfP (p : Nat) (z : Int) : List Tr → List KF
  | [] => []
  | t :: r => ⟨t.kd, t.nm, tlP p z t⟩ :: kfP p z r
end
def kfO (p : Nat) (z : Int) (t : Tr) : KF := ⟨t.kd, t.nm, tlP p z t⟩
theorem kfP_cons (p : Nat) (z : Int) (t : Tr) (r : List Tr) : kfP p z (t :: r) = kfO p z t :: kfP p z r := by rw [kfP]; rfl
theorem kfP_nil (p : Nat) (z : Int) : kfP p z [] = [] := by rw [kfP]
theorem tlP_node (p : Nat) (z : Int) (k : Nat) (nm : List UInt8) (a n : Nat) (kids : List Tr) : tlP p z (.node k nm a n kids) = tlN p z k nm n (kfP p z kids) := by rw [tlP]
/-- how much is written -/
structure LeL (s s' : LwS) (n c k : Nat) : Prop where
  l0 : s.L.length ≤ s'.L.length
  l1 : s'.L.length ≤ s.L.length + n
  c0 : s.cells ≤ s'.cells
  c1 : s'.cells ≤ s.cells + c
  k0 : s.cl.length ≤ s'.cl.length
  k1 : s'.cl.length ≤ s.cl.length + k
theorem LeL.trans {s s' s'' : LwS} {n c k n' c' k' : Nat} (h : LeL s s' n c k) (h' : LeL s' s'' n' c' k') : LeL s s'' (n + n') (c + c') (k + k') :=
  ⟨Nat.le_trans h.l0 h'.l0, by have := h.l1; have := h'.l1; omega, Nat.le_trans h.c0 h'.c0, by have := h.c1; have := h'.c1; omega, Nat.le_trans h.k0 h'.k0, by have := h.k1; have := h'.k1; omega⟩
theorem LeL.more {s s' : LwS} {n c k n' c' k' : Nat} (h : LeL s s' n c k) (h1 : n ≤ n') (h2 : c ≤ c') (h3 : k ≤ k') : LeL s s' n' c' k' :=
  ⟨h.l0, Nat.le_trans h.l1 (by omega), h.c0, Nat.le_trans h.c1 (by omega), h.k0, Nat.le_trans h.k1 (by omega)⟩
theorem LeL.refl (s : LwS) : LeL s s 0 0 0 := ⟨Nat.le_refl _, by omega, Nat.le_refl _, by omega, Nat.le_refl _, by omega⟩
theorem LeL.wr (s : LwS) (p : Nat) (op a b c : Int) : LeL s (s.wr p op a b c) 1 0 0 := by
  constructor <;> simp [LwS.wr, LwS.fl, LwS.lv]
theorem LeL.cell (s : LwS) : LeL s s.cell 0 1 0 := by constructor <;> simp [LwS.cell, LwS.sC]
theorem LeL.v {q : KF} {n c k : Nat} (h : ∀ to s, LeL s (q.f to s) n c k) (s : LwS) : LeL s (q.v s).2 n (c + 1) k := by
  unfold KF.v
  split
  · exact (LeL.refl s).more (by omega) (by omega) (by omega)
  · exact ((LeL.cell s).trans (h _ _)).more (by omega) (by omega) (by omega)
theorem LeL.pss (p : Nat) : ∀ (l : List Int) (i : Nat) (s : LwS), LeL s (pss p l i s) l.length 0 0
  | [], _, s => ⟨Nat.le_refl _, by simp [Proofs.YtmmgkdcojkmlcaaGreatDoor.pss], Nat.le_refl _, by simp [Proofs.YtmmgkdcojkmlcaaGreatDoor.pss], Nat.le_refl _, by simp [Proofs.YtmmgkdcojkmlcaaGreatDoor.pss]⟩
  | x :: r, i, s => by
    rw [Proofs.YtmmgkdcojkmlcaaGreatDoor.pss]
    exact ((LeL.wr s p 13 x i 0).trans (LeL.pss p r (i + 1) _)).more (by simp; omega) (by omega) (by omega)
theorem kvs_len : ∀ (ks : List KF) (s : LwS), (kvs ks s).1.length = ks.length
  | [], _ => rfl
  | q :: r, s => by simp [kvs, kvs_len r]
mutual
theorem tlP_le (p : Nat) (z : Int) : ∀ (t : Tr) (to : Int) (s : LwS), LeL s (tlP p z t to s) (3 * tsz t - 1) (tsz t - 1) (tsz t)
  | .node k nm a n kids, to, s => by
    have hk := kvs_le p z kids
    have h1 : tsz (.node k nm a n kids) = 1 + tszs kids := by rw [tsz]
    have hl : (kfP p z kids).length = kids.length := kfP_len p z kids
    rw [tlP_node, h1]
    unfold tlN
    split
    · exact (LeL.wr s p 5 to n 0).more (by omega) (by omega) (by omega)
    · split
      · exact (LeL.wr s p 1 _ z to).more (by omega) (by omega) (by omega)
      · split
        · have hq := hk s
          have hp := LeL.pss p (kvs (kfP p z kids) s).1 0 (kvs (kfP p z kids) s).2
          rw [kvs_len, hl] at hp
          have hw := LeL.wr ((Proofs.YtmmgkdcojkmlcaaGreatDoor.pss p (kvs (kfP p z kids) s).1 0 (kvs (kfP p z kids) s).2).ca nm) p 12 to 0 0
          have hc : LeL (Proofs.YtmmgkdcojkmlcaaGreatDoor.pss p (kvs (kfP p z kids) s).1 0 (kvs (kfP p z kids) s).2) ((Proofs.YtmmgkdcojkmlcaaGreatDoor.pss p (kvs (kfP p z kids) s).1 0 (kvs (kfP p z kids) s).2).ca nm) 1 0 1 := by
            constructor <;> simp [LwS.ca, LwS.lv]
          have hn := tszs_ln kids
          exact (((hq.trans hp).trans hc).trans hw).more (by omega) (by omega) (by omega)
        · match kids with
          | [] => rw [kfP_nil]; exact (LeL.refl s).more (by omega) (by omega) (by omega)
          | [x] =>
            rw [kfP_cons, kfP_nil]
            have hx := LeL.v (q := kfO p z x) (fun to s => tlP_le p z x to s) s
            have ht := tsz_ps x
            simp only [tszs]
            exact (hx.trans (LeL.wr _ p 2 z _ to)).more (by omega) (by omega) (by omega)
          | [x, y] =>
            rw [kfP_cons, kfP_cons, kfP_nil]
            have hx := LeL.v (q := kfO p z x) (fun to s => tlP_le p z x to s) s
            have ht := tsz_ps x
            have hu := tsz_ps y
            simp only [tszs]
            split
            · have hy := tlP_le p z y to (((kfO p z x).v s).2.sM (updL ((kfO p z x).v s).2.M nm ((kfO p z x).v s).1))
              have h2 : LeL ((kfO p z x).v s).2 ((kfO p z y).f to (((kfO p z x).v s).2.sM (updL ((kfO p z x).v s).2.M nm ((kfO p z x).v s).1))) (3 * tsz y - 1) (tsz y - 1) (tsz y) := ⟨hy.l0, hy.l1, hy.c0, hy.c1, hy.k0, hy.k1⟩
              have h3 := hx.trans h2
              refine LeL.more (n := 3 * tsz x - 1 + (3 * tsz y - 1)) (c := tsz x - 1 + 1 + (tsz y - 1)) (k := tsz x + tsz y) ⟨h3.l0, h3.l1, h3.c0, h3.c1, h3.k0, h3.k1⟩ (by omega) (by omega) (by omega)
            · have hy := LeL.v (q := kfO p z y) (fun to s => tlP_le p z y to s) ((kfO p z x).v s).2
              exact ((hx.trans hy).trans (LeL.wr _ p (opL k) _ _ to)).more (by omega) (by omega) (by omega)
          | [x, y, u] =>
            rw [kfP_cons, kfP_cons, kfP_cons, kfP_nil]
            have hx := LeL.v (q := kfO p z x) (fun to s => tlP_le p z x to s) s
            have ht := tsz_ps x
            have hu := tsz_ps y
            have hv := tsz_ps u
            simp only [tszs]
            split
            · have hy := LeL.v (q := kfO p z y) (fun to s => tlP_le p z y to s) ((kfO p z x).v s).2
              have hc := tlP_le p z u to (((kfO p z y).v ((kfO p z x).v s).2).2.wr p 7 ((kfO p z x).v s).1 ((kfO p z y).v ((kfO p z x).v s).2).1 0)
              exact (((hx.trans hy).trans (LeL.wr _ p 7 _ _ 0)).trans hc).more (by omega) (by omega) (by omega)
            · have hx2 := hx
              obtain ⟨s1, hs1⟩ : ∃ s1, s1 = ((kfO p z x).v s).2 := ⟨_, rfl⟩
              rw [← hs1] at hx ⊢
              have hy := tlP_le p z y to s1.lv
              obtain ⟨s3, hs3⟩ : ∃ s3, s3 = tlP p z y to s1.lv := ⟨_, rfl⟩
              rw [← hs3] at hy
              have e1 : s1.lv.L.length = s1.L.length + 1 := by simp [LwS.lv]
              have e2 : s1.lv.cells = s1.cells := rfl
              have e3 : s1.lv.cl = s1.cl := rfl
              obtain ⟨s5, hs5⟩ : ∃ s5, s5 = s3.lv.fl p s1.L.length 9 ((kfO p z x).v s).1 s3.lv.L.length 0 := ⟨_, rfl⟩
              have e4 : s5.L.length = s3.L.length + 1 := by rw [hs5]; simp [LwS.lv, LwS.fl]
              have e5 : s5.cells = s3.cells := by rw [hs5]; rfl
              have e6 : s5.cl = s3.cl := by rw [hs5]; rfl
              have hc := tlP_le p z u to (s5.sC s1.cells)
              obtain ⟨s7, hs7⟩ : ∃ s7, s7 = tlP p z u to (s5.sC s1.cells) := ⟨_, rfl⟩
              rw [← hs7] at hc
              have ef : ifL p (kfO p z y) (kfO p z u) to ((kfO p z x).v s).1 s1 = (s7.fl p s3.L.length 8 s7.L.length 0 0).sC (max s7.cells s5.cells) := by
                unfold ifL
                simp only [kfO]
                rw [← hs3]
                simp only [kfO] at hs5
                rw [← hs5, ← hs7]
              rw [ef]
              have f1 := hy.l0; have f2 := hy.l1; have f3 := hy.c0; have f4 := hy.c1; have f5 := hy.k0; have f6 := hy.k1
              have g1 := hc.l0; have g2 := hc.l1; have g3 := hc.c0; have g4 := hc.c1; have g5 := hc.k0; have g6 := hc.k1
              have k1 := hx.l0; have k2 := hx.l1; have k3 := hx.c0; have k4 := hx.c1; have k5 := hx.k0; have k6 := hx.k1
              rw [e1] at f1 f2
              rw [e2] at f3 f4
              rw [e3] at f5 f6
              simp only [LwS.sC] at g1 g2 g3 g4 g5 g6
              rw [e4] at g1 g2
              rw [e6] at g5 g6
              constructor <;> simp only [LwS.fl, LwS.sC, List.length_set] <;> omega
          | x :: y :: u :: v :: r => rw [kfP_cons, kfP_cons, kfP_cons, kfP_cons]; exact (LeL.refl s).more (by omega) (by omega) (by omega)
theorem kvs_le (p : Nat) (z : Int) : ∀ (ts : List Tr) (s : LwS), LeL s (kvs (kfP p z ts) s).2 (3 * tszs ts - ts.length) (tszs ts) (tszs ts)
  | [], s => by rw [kfP_nil]; exact (LeL.refl s).more (by omega) (by omega) (by omega)
  | t :: r, s => by
    rw [kfP_cons]
    have ht := tsz_ps t
    have h1 := LeL.v (q := kfO p z t) (fun to s => tlP_le p z t to s) s
    have h2 := kvs_le p z r ((kfO p z t).v s).2
    have hn := tszs_ln r
    simp only [kvs, tszs, List.length_cons]
    exact (h1.trans h2).more (by omega) (by omega) (by omega)
theorem kfP_len (p : Nat) (z : Int) : ∀ (ts : List Tr), (kfP p z ts).length = ts.length
  | [] => by rw [kfP_nil]; rfl
  | t :: r => by rw [kfP_cons, List.length_cons, List.length_cons, kfP_len p z r]
theorem tszs_ln : ∀ (ts : List Tr), ts.length ≤ tszs ts
  | [] => Nat.zero_le _
  | t :: r => by have := tsz_ps t; have := tszs_ln r; simp only [tszs, List.length_cons]; omega
theorem tsz_ps : ∀ (t : Tr), 1 ≤ tsz t
  | .node _ _ _ _ kids => by rw [tsz]; omega
end

end Go.Proofs.YtmmgkdcojkmlcaaGreatDoor

namespace Go.Proofs.YtmmgkdcojkmlcaaGreatDoor
open Go.RowKit

mutual
/-- an expression shown: its four cells, its blocks from lo on -/
def ShP (lo : Nat) (w : World) : Tr → List Value → Prop
  | .node k nm _ n kids, vs => ∃ a c, vs = [.int .i64 (k : Int), .string (bs nm), .int .i64 (n : Int), .slice a kids.length c] ∧ ShPs lo w a kids 0
def ShPs (lo : Nat) (w : World) (a : Option Addr) : List Tr → Nat → Prop
  | [], _ => True
  | t :: r, i => (∃ g cs f vs, a = some ⟨g, 0, none⟩ ∧ lo ≤ g ∧ w.heap[g]? = some (.cells cs 93 f) ∧ (∀ (j : Nat) v, vs[j]? = some v → cs[i * 4 + j]? = some v) ∧ ShP lo w t vs) ∧ ShPs lo w a r (i + 1)
end
mutual
theorem ShP.keep {lo lo' : Nat} {w w' : World} (hl : lo' ≤ lo) (hk : ∀ g cs f, lo ≤ g → w.heap[g]? = some (.cells cs 93 f) → w'.heap[g]? = w.heap[g]?) : ∀ (t : Tr) (vs : List Value), ShP lo w t vs → ShP lo' w' t vs
  | .node k nm _ n kids, vs, h => by
    obtain ⟨a, c, h1, h2⟩ := h
    exact ⟨a, c, h1, ShPs.keep hl hk a kids 0 h2⟩
theorem ShPs.keep {lo lo' : Nat} {w w' : World} (hl : lo' ≤ lo) (hk : ∀ g cs f, lo ≤ g → w.heap[g]? = some (.cells cs 93 f) → w'.heap[g]? = w.heap[g]?) (a : Option Addr) : ∀ (ts : List Tr) (i : Nat), ShPs lo w a ts i → ShPs lo' w' a ts i
  | [], _, _ => trivial
  | t :: r, i, h => by
    obtain ⟨⟨g, cs, f, vs, h1, h2, h3, h4, h5⟩, h6⟩ := h
    exact ⟨⟨g, cs, f, vs, h1, Nat.le_trans hl h2, (hk g cs f h2 h3).trans h3, h4, ShP.keep hl hk t vs h5⟩, ShPs.keep hl hk a r (i + 1) h6⟩
end
theorem ShP.below {lo : Nat} {w w' : World} {t : Tr} {vs : List Value} (h : ShP lo w t vs) (e : Below w.heap.size w w') : ShP lo w' t vs :=
  ShP.keep (Nat.le_refl _) (fun g _ _ _ h => e.block g (Array.getElem?_eq_some_iff.1 h).1) t vs h
theorem ShP.four {lo : Nat} {w : World} {t : Tr} {vs : List Value} (h : ShP lo w t vs) : ∃ v0 v1 v2 v3, vs = [v0, v1, v2, v3] := by
  cases t with
  | node k nm a n kids =>
    obtain ⟨a, c, rfl, _⟩ := h
    exact ⟨_, _, _, _, rfl⟩
/-- a part of one that is shown -/
theorem ShPs.get {lo : Nat} {w : World} {a : Option Addr} : ∀ {ts : List Tr} {i : Nat}, ShPs lo w a ts i → ∀ (k : Nat) (t : Tr), ts[k]? = some t → ∃ g v0 v1 v2 v3, a = some ⟨g, 0, none⟩ ∧ g < w.heap.size ∧ w.cell? ⟨g, (i + k) * 4, none⟩ = some v0 ∧ w.cell? ⟨g, (i + k) * 4 + 1, none⟩ = some v1 ∧ w.cell? ⟨g, (i + k) * 4 + 2, none⟩ = some v2 ∧ w.cell? ⟨g, (i + k) * 4 + 3, none⟩ = some v3 ∧ ShP lo w t [v0, v1, v2, v3]
  | [], _, _, k, t, hk => by simp at hk
  | x :: r, i, h, 0, t, hk => by
    simp at hk
    subst hk
    obtain ⟨⟨g, cs, f, vs, h1, h2, h3, h4, h5⟩, _⟩ := h
    obtain ⟨v0, v1, v2, v3, rfl⟩ := h5.four
    have e0 := h4 0 v0 rfl
    have e1 := h4 1 v1 rfl
    have e2 := h4 2 v2 rfl
    have e3 := h4 3 v3 rfl
    rw [Nat.add_zero] at e0
    refine ⟨g, v0, v1, v2, v3, h1, (Array.getElem?_eq_some_iff.1 h3).1, ?_, ?_, ?_, ?_, h5⟩ <;> rw [Nat.add_zero] <;> simp [World.cell?, *]
  | x :: r, i, h, k + 1, t, hk => by
    simp at hk
    obtain ⟨g, v0, v1, v2, v3, h1, h2, h3, h4, h5, h6, h7⟩ := ShPs.get h.2 k t hk
    rw [show i + 1 + k = i + (k + 1) by omega] at h3 h4 h5 h6
    exact ⟨g, v0, v1, v2, v3, h1, h2, h3, h4, h5, h6, h7⟩
/-- rows of four that are being told -/
def R4 (w : World) (P n i : Nat) (F : Nat → List Value) : Prop := ∃ cs, w.heap[P]? = some (.cells cs 93 (0, 0)) ∧ cs.size = n * 4 ∧ ∀ k, k < i → ∀ j, j < 4 → ∀ v, (F k)[j]? = some v → cs[k * 4 + j]? = some v
theorem R4.set {w : World} {P n i : Nat} {F : Nat → List Value} (h : R4 w P n i F) (hi : i < n) (v0 v1 v2 v3 : Value) (hF : F i = [v0, v1, v2, v3]) :
    R4 ((((w.setCell ⟨P, i * 4, none⟩ v0).setCell ⟨P, i * 4 + 1, none⟩ v1).setCell ⟨P, i * 4 + 2, none⟩ v2).setCell ⟨P, i * 4 + 3, none⟩ v3) P n (i + 1) F := by
  obtain ⟨cs, h1, h2, h3⟩ := h
  have e1 := heap_setCell_same w P (i * 4) cs _ v0 h1
  have e2 := heap_setCell_same _ P (i * 4 + 1) _ _ v1 e1
  have e3 := heap_setCell_same _ P (i * 4 + 2) _ _ v2 e2
  have e4 := heap_setCell_same _ P (i * 4 + 3) _ _ v3 e3
  refine ⟨_, e4, by simp [h2], fun k hk j hj v hv => ?_⟩
  rcases Nat.lt_or_ge k i with hki | hki
  · have := h3 k hki j hj v hv
    rw [Array.getElem?_setIfInBounds_ne (by omega), Array.getElem?_setIfInBounds_ne (by omega), Array.getElem?_setIfInBounds_ne (by omega), Array.getElem?_setIfInBounds_ne (by omega)]
    exact this
  · obtain rfl : k = i := by omega
    rw [hF] at hv
    match j, hj, hv with
    | 0, _, hv =>
      simp at hv; subst hv
      rw [Array.getElem?_setIfInBounds_ne (by omega), Array.getElem?_setIfInBounds_ne (by omega), Array.getElem?_setIfInBounds_ne (by omega), Nat.add_zero, Array.getElem?_setIfInBounds_self_of_lt (by omega)]
    | 1, _, hv =>
      simp at hv; subst hv
      rw [Array.getElem?_setIfInBounds_ne (by omega), Array.getElem?_setIfInBounds_ne (by omega), Array.getElem?_setIfInBounds_self_of_lt (by simp; omega)]
    | 2, _, hv =>
      simp at hv; subst hv
      rw [Array.getElem?_setIfInBounds_ne (by omega), Array.getElem?_setIfInBounds_self_of_lt (by simp; omega)]
    | 3, _, hv =>
      simp at hv; subst hv
      rw [Array.getElem?_setIfInBounds_self_of_lt (by simp; omega)]
theorem R4.block {w w' : World} {P n i : Nat} {F : Nat → List Value} (h : R4 w P n i F) (e : w'.heap[P]? = w.heap[P]?) : R4 w' P n i F := by
  obtain ⟨cs, h1, h2, h3⟩ := h
  exact ⟨cs, e.trans h1, h2, h3⟩
theorem R4.lt {w : World} {P n i : Nat} {F : Nat → List Value} (h : R4 w P n i F) : P < w.heap.size := by
  obtain ⟨cs, h1, _⟩ := h
  exact (Array.getElem?_eq_some_iff.1 h1).1

end Go.Proofs.YtmmgkdcojkmlcaaGreatDoor
