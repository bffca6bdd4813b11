/- attestref6.Walk: what it walks, and Fault. Package machine: cells that are told, as a map; look, tell, must, one. Package machine: next. -/
import Derived.Test.YtaibngnabhmabajDoorBbAE
import Derived.Lib.SmallJoins
import Derived.Maps.OwnOps
import Derived.Maps.OwnSet
import Derived.WalkLawsBesides
import Derived.StillTailTactics
namespace Go.Proofs.YtaibngnabhmabajDoor
open Go.RowKit

structure InsZ where
  op : Int
  a : Int
  b : Int
  c : Int
def insat (L : List InsZ) (k : Nat) : InsZ := L.getD k ⟨0, 0, 0, 0⟩
/-- instructions in memory -/
structure LstI (n0 : Nat) (w : World) (a : Option Addr) (cap : Nat) (L : List InsZ) : Prop where
  row : ∀ k, k < L.length → ∃ b o, a = some ⟨b, o, none⟩ ∧ b < n0 ∧ w.cell? ⟨b, o + k * 4, none⟩ = some (.int .i64 (insat L k).op) ∧ w.cell? ⟨b, o + k * 4 + 1, none⟩ = some (.int .i64 (insat L k).a) ∧ w.cell? ⟨b, o + k * 4 + 2, none⟩ = some (.int .i64 (insat L k).b) ∧ w.cell? ⟨b, o + k * 4 + 3, none⟩ = some (.int .i64 (insat L k).c)
  room : L.length ≤ cap
  nil : a = none → cap = 0
theorem LstI.below {n0 : Nat} {A B : World} {a : Option Addr} {cap : Nat} {L : List InsZ} (r : LstI n0 A a cap L) (h : Below n0 A B) : LstI n0 B a cap L :=
  ⟨fun k hk => by
    obtain ⟨b, o, h1, h2, h3, h4, h5, h6⟩ := r.row k hk
    exact ⟨b, o, h1, h2, (h.cell (p := ⟨b, o + k * 4, none⟩) h2).trans h3, (h.cell (p := ⟨b, o + k * 4 + 1, none⟩) h2).trans h4, (h.cell (p := ⟨b, o + k * 4 + 2, none⟩) h2).trans h5, (h.cell (p := ⟨b, o + k * 4 + 3, none⟩) h2).trans h6⟩, r.room, r.nil⟩
theorem LstI.mono {n0 n1 : Nat} {A : World} {a : Option Addr} {cap : Nat} {L : List InsZ} (r : LstI n0 A a cap L) (h : n0 ≤ n1) : LstI n1 A a cap L :=
  ⟨fun k hk => by
    obtain ⟨b, o, h1, h2, h3⟩ := r.row k hk
    exact ⟨b, o, h1, by omega, h3⟩, r.room, r.nil⟩
/-- each number of an instruction is an int -/
def InsB (L : List InsZ) : Prop := ∀ k, k < L.length → (-9223372036854775808 ≤ (insat L k).op ∧ (insat L k).op ≤ 9223372036854775807) ∧ (-9223372036854775808 ≤ (insat L k).a ∧ (insat L k).a ≤ 9223372036854775807) ∧ (-9223372036854775808 ≤ (insat L k).b ∧ (insat L k).b ≤ 9223372036854775807) ∧ (-9223372036854775808 ≤ (insat L k).c ∧ (insat L k).c ≤ 9223372036854775807)

/-- what is wrong with code -/
def fz6 (p : Int) (size : Int) (n : Nat) (limit : Int) : Int := if size < 0 ∨ 65536 < size ∨ n = 0 ∨ 4096 < n ∨ p < (n : Int) then 2 else if limit < 0 ∨ 16384 < limit then 3 else 0

/-- a step as ten numbers -/
def stl (n : Rg) (s : RM) : List Int := [n.pc, n.fp, n.ap, n.rv, s.at' 0, s.at' 1, s.at' 2, s.is' 0, s.is' 1, s.is' 2]
def RM.now (s : RM) : List Int := stl ⟨s.pc, s.fp, s.ap, s.rv⟩ s
def freshM (cs : List (Int × Int)) (n : Rg) : RM := ⟨cs, n.pc, n.fp, n.ap, n.rv, fun _ => 0, fun _ => 0, 0, 0⟩
/-- what a walk comes to -/
inductive WR where
  | bad (e : Int)
  | good (l : List (List Int)) (cs : List (Int × Int))
def mgo (p : Nat) (L : List InsZ) (limit : Nat) : Nat → RM → List (List Int) → WR
  | 0, _, _ => .bad 8
  | f + 1, s, done =>
    if (L.length : Int) ≤ s.pc then .bad 7
    else if done.length = limit ∧ (insat L s.pc.toNat).op ≠ 0 then .bad 8
    else if (s.step p (insat L s.pc.toNat).op (insat L s.pc.toNat).a (insat L s.pc.toNat).b (insat L s.pc.toNat).c).1.err ≠ 0 then .bad (s.step p (insat L s.pc.toNat).op (insat L s.pc.toNat).a (insat L s.pc.toNat).b (insat L s.pc.toNat).c).1.err
    else if (insat L s.pc.toNat).op = 0 then .good (done ++ [(s.step p (insat L s.pc.toNat).op (insat L s.pc.toNat).a (insat L s.pc.toNat).b (insat L s.pc.toNat).c).1.now]) (s.step p (insat L s.pc.toNat).op (insat L s.pc.toNat).a (insat L s.pc.toNat).b (insat L s.pc.toNat).c).1.cs
    else mgo p L limit f (freshM (s.step p (insat L s.pc.toNat).op (insat L s.pc.toNat).a (insat L s.pc.toNat).b (insat L s.pc.toNat).c).1.cs (s.step p (insat L s.pc.toNat).op (insat L s.pc.toNat).a (insat L s.pc.toNat).b (insat L s.pc.toNat).c).2) (done ++ [(s.step p (insat L s.pc.toNat).op (insat L s.pc.toNat).a (insat L s.pc.toNat).b (insat L s.pc.toNat).c).1.now])
def mwalk (p : Nat) (size : Int) (L : List InsZ) (limit : Nat) : WR := mgo p L limit (limit + 1) (freshM [(0, 0)] ⟨0, 1, (1 + size) % (p : Int), 0⟩) []

def RgB (p : Nat) (n : Rg) : Prop := (0 ≤ n.pc ∧ n.pc < p) ∧ (0 ≤ n.fp ∧ n.fp < p) ∧ (0 ≤ n.ap ∧ n.ap < p) ∧ (0 ≤ n.rv ∧ n.rv < p)
theorem SOk.more {p n m k j : Nat} {s : RM} (h : SOk p n k s) (hm : n ≤ m) (hj : k ≤ j) : SOk p m j s := ⟨h.1, Nat.le_trans h.2.1 hm, fun e => Nat.le_trans (h.2.2 e) hj⟩
theorem rg_ite {p : Nat} (P : Prop) [Decidable P] (x y : Rg) (hx : RgB p x) (hy : RgB p y) : RgB p (if P then x else y) := by split <;> assumption
/-- a step keeps what is known -/
theorem step_ok {p n : Nat} {s : RM} (hp : 3 ≤ p) (h : SOk p n 0 s) (hr : RgB p ⟨s.pc, s.fp, s.ap, s.rv⟩) (op a b c : Int) : SOk p (n + 2) 3 (s.step p op a b c).1 ∧ RgB p (s.step p op a b c).2 := by
  have e := fun x => emod_bounds x p hp
  obtain ⟨r1, r2, r3, r4⟩ := hr
  have hn : RgB p ⟨(s.pc + 1) % (p : Int), s.fp, s.ap, s.rv⟩ := ⟨e _, r2, r3, r4⟩
  unfold RM.step
  split
  · refine ⟨?_, hn⟩
    unfold RM.three
    have l1 := look_ok hp h ((s.fp + a) % (p : Int))
    have l2 := look_ok hp l1.1 ((s.fp + b) % (p : Int))
    exact (tell_ok hp (rck_ok l2.1 op _) _ _).more (by omega) (by omega)
  · split
    · exact ⟨(tell_ok hp h _ _).more (by omega) (by omega), hn⟩
    · split
      · have l1 := look_ok hp h ((s.fp + a) % (p : Int))
        have l2 := look_ok hp l1.1 ((s.fp + b) % (p : Int))
        exact ⟨(must_ok l2.1 _).more (by omega) (by omega), hn⟩
      · split
        · exact ⟨h.more (by omega) (by omega), e _, r2, r3, r4⟩
        · split
          · have l1 := look_ok hp h ((s.fp + a) % (p : Int))
            exact ⟨l1.1.more (by omega) (by omega), rg_ite _ _ _ ⟨e _, r2, r3, r4⟩ hn⟩
          · split
            · exact ⟨(tell_ok hp (tell_ok hp h _ _) _ _).more (by omega) (by omega), e _, e _, e _, r4⟩
            · split
              · have l1 := look_ok hp h ((s.fp - 2) % (p : Int))
                have l2 := look_ok hp l1.1 ((s.fp - 1) % (p : Int))
                have l3 := look_ok hp l2.1 ((s.fp + a) % (p : Int))
                exact ⟨l3.1.more (by omega) (by omega), l2.2, l1.2, r3, l3.2⟩
              · split
                · exact ⟨(tell_ok hp h _ _).more (by omega) (by omega), hn⟩
                · split
                  · have l1 := look_ok hp h ((s.fp + a) % (p : Int))
                    exact ⟨(tell_ok hp l1.1 _ _).more (by omega) (by omega), hn⟩
                  · split
                    · have l1 := look_ok hp h ((s.fp + a) % (p : Int))
                      exact ⟨l1.1.more (by omega) (by omega), hn⟩
                    · exact ⟨⟨h.1, Nat.le_trans h.2.1 (by omega), fun e => absurd (show (7 : Int) = 0 from e) (by decide)⟩, hn⟩

end Go.Proofs.YtaibngnabhmabajDoor

namespace Go.Proofs.YtaibngnabhmabajDoor
open Go.RowKit Go.Maps

theorem keyI : Keyed Tryd.prog 3 := int_keyed Tryd.underlying3
theorem zeroI (w : World) : (zeroValue 3).run Tryd.prog w = .ok (.int .i64 0) w := by kernel_rfl
/-- what a cell is -/
def cvl (cs : List (Int × Int)) (x : Int) : Int := if 0 ≤ finz cs x then (cat cs (finz cs x).toNat).2 else 0
/-- a map that reads as cells that are told -/
def CMap (D : DataW Unit) (cs : List (Int × Int)) : Prop := ∀ x : Int, (-9223372036854775808 ≤ x ∧ x ≤ 9223372036854775807) → Maps.has D (.int .i64 x) = decide (0 ≤ finz cs x) ∧ D.atKey (.int .i64 x) (.lit (.int .i64 0)) = .lit (.int .i64 (cvl cs x))
def MapAt (w : World) (B n : Nat) (cs : List (Int × Int)) : Prop := ∃ D : DataW Unit, w.ownsMap Tryd.prog 3 (plainElem Tryd.prog 3) B n D ∧ CMap D cs
theorem MapAt.kept {w w' : World} {B n : Nat} {cs : List (Int × Int)} {row : Option Nat} (h : MapAt w B n cs) (hg : w.grownBy w' row) (hne : some B ≠ row) : MapAt w' B n cs := by
  obtain ⟨D, h1, h2⟩ := h
  exact ⟨D, h1.kept hg hne, h2⟩
/-- a run that did not go on -/
def pnc (T : TypeId) : Ending := .panicked [{ v := .iface T (.agg #[]), recovered := false }]
/-- a run in memory -/
def rnv (b B : Nat) (aL : Option Addr) (nL cL : Nat) (n : Rg) : Nat → Value
  | 0 => .pointer (some ⟨b, 0, none⟩)
  | 1 => .slice aL nL cL
  | 2 => .map (some B)
  | 3 => .int .i64 n.pc
  | 4 => .int .i64 n.fp
  | 5 => .int .i64 n.ap
  | _ => .int .i64 n.rv
theorem key64 {x : Int} (h : -9223372036854775808 ≤ x ∧ x ≤ 9223372036854775807) : keyOf Tryd.prog 3 (.int .i64 x) = some (.int .i64 x) := keyOf_int_mk Tryd.underlying3 (WalkArith.wf_i64 h)

theorem finz_app {cs : List (Int × Int)} {d : Int × Int} {x : Int} : finz (cs ++ [d]) x = if 0 ≤ finz cs x then finz cs x else if d.1 = x then (cs.length : Int) else -1 := by
  unfold finz
  rw [List.findIdx?_append]
  cases h : cs.findIdx? (fun c => c.1 == x) with
  | some i => simp
  | none =>
    by_cases hd : d.1 = x
    · simp [hd, List.findIdx?_cons]
    · simp [hd, List.findIdx?_cons]
theorem finz_bound {cs : List (Int × Int)} {x : Int} (h : 0 ≤ finz cs x) : (finz cs x).toNat < cs.length ∧ (cat cs (finz cs x).toNat).1 = x := by
  unfold finz at h ⊢
  cases hf : cs.findIdx? (fun c => c.1 == x) with
  | none => rw [hf] at h; simp at h
  | some i =>
    rw [hf] at h
    simp only [Int.toNat_natCast]
    obtain ⟨h1, h2, _⟩ := List.findIdx?_eq_some_iff_getElem.1 hf
    refine ⟨h1, ?_⟩
    simp [cat, h1]
    simpa using h2
/-- the cells behind a telling -/
def tld (cs : List (Int × Int)) (x y : Int) : List (Int × Int) := if 0 ≤ finz cs x then cs else cs ++ [(x, y)]
theorem tld_finz {cs : List (Int × Int)} {x y z : Int} : (0 ≤ finz (tld cs x y) z) ↔ (0 ≤ finz cs z ∨ z = x) := by
  unfold tld
  split
  · rename_i h
    constructor
    · exact .inl
    · rintro (h2 | rfl)
      · exact h2
      · exact h
  · rename_i h
    rw [finz_app]
    constructor
    · intro h2
      by_cases h3 : 0 ≤ finz cs z
      · exact .inl h3
      · rw [if_neg h3] at h2
        by_cases h4 : x = z
        · exact .inr h4.symm
        · simp only [] at h2
          rw [if_neg h4] at h2
          omega
    · rintro (h2 | rfl)
      · rw [if_pos h2]; exact h2
      · rw [if_neg h, if_pos rfl]; omega
theorem tld_cvl {cs : List (Int × Int)} {x y z : Int} (hs : 0 ≤ finz cs x → cvl cs x = y) : cvl (tld cs x y) z = if z = x then y else cvl cs z := by
  by_cases hz : z = x
  · subst hz
    rw [if_pos rfl]
    unfold tld
    split
    · rename_i h; exact hs h
    · rename_i h
      unfold cvl
      rw [finz_app, if_neg h, if_pos rfl, if_pos (by omega)]
      simp [cat]
  · rw [if_neg hz]
    unfold tld
    split
    · rfl
    · rename_i h
      unfold cvl
      rw [finz_app]
      by_cases h2 : 0 ≤ finz cs z
      · rw [if_pos h2, if_pos h2, if_pos h2, cat_app (finz_bound h2).1]
      · rw [if_neg h2, if_neg (show ¬ (x, y).1 = z from fun e => hz e.symm), if_neg (by omega), if_neg h2]
theorem cmap_put {D : DataW Unit} {cs : List (Int × Int)} {x y : Int} (h : CMap D cs) (hi : IsMap D) (hs : 0 ≤ finz cs x → cvl cs x = y) : CMap (D.put (.int .i64 x) (.lit (.int .i64 y))) (tld cs x y) := fun z hz => by
  rw [tld_cvl hs]
  by_cases hzx : z = x
  · subst hzx
    rw [has_put_same (k := Lit.int .i64 z) hi trivial, atKey_put_same (k := Lit.int .i64 z) hi trivial, if_pos rfl, decide_eq_true (tld_finz.2 (.inr rfl))]
    exact ⟨rfl, rfl⟩
  · have hne : (Lit.int .i64 z) ≠ (Lit.int .i64 x) := by intro e; injection e with _ e; exact hzx e
    rw [has_put_other hne, atKey_put_other hne, if_neg hzx, (h z hz).1, (h z hz).2]
    refine ⟨?_, rfl⟩
    rw [decide_eq_decide]
    constructor
    · exact fun h2 => tld_finz.2 (.inl h2)
    · intro h2
      rcases tld_finz.1 h2 with h3 | h3
      · exact h3
      · exact absurd h3 hzx

end Go.Proofs.YtaibngnabhmabajDoor

namespace Go.Proofs.YtaibngnabhmabajDoor
open Go.RowKit Go.Maps

theorem row4_arr {W : World} {g : Nat} {t : TypeId} {f : Nat → Value} (h : W.rowIs g t 4 f) : W.heap[g]? = some (.cells #[f 0, f 1, f 2, f 3] t (0, 0)) := by
  obtain ⟨c, hb, hs, hc⟩ := h
  rw [hb]
  congr 2
  apply Array.ext
  · simpa using hs
  · intro i h1 h2
    have h4 : i < 4 := by simpa using h2
    have := hc i h4
    rw [Array.getElem?_eq_getElem h1] at this
    injection this with this
    rw [this]
    have : i = 0 ∨ i = 1 ∨ i = 2 ∨ i = 3 := by omega
    rcases this with rfl | rfl | rfl | rfl <;> rfl
theorem row4_of {W : World} {g : Nat} {t : TypeId} {a b c d : Value} (h : W.heap[g]? = some (.cells #[a, b, c, d] t (0, 0))) : W.rowIs g t 4 (fun i => #[a, b, c, d].getD i .nilFunc) :=
  ⟨_, h, rfl, fun i hi => by
    have : i = 0 ∨ i = 1 ∨ i = 2 ∨ i = 3 := by omega
    rcases this with rfl | rfl | rfl | rfl <;> rfl⟩
theorem put4_heap {W : World} {g : Nat} {t : TypeId} {z0 z1 z2 z3 : Value} (h : W.heap[g]? = some (.cells #[z0, z1, z2, z3] t (0, 0))) (a b c d : Value) : ((((W.setCell ⟨g, 0, none⟩ a).setCell ⟨g, 1, none⟩ b).setCell ⟨g, 2, none⟩ c).setCell ⟨g, 3, none⟩ d).heap[g]? = some (.cells #[a, b, c, d] t (0, 0)) := by
  have := row4_arr (((((row4_of h).set 0 a).set 1 b).set 2 c).set 3 d)
  simpa using this
theorem put4_oth (W : World) (g : Nat) (a b c d : Value) (k : Nat) (h : k ≠ g) : ((((W.setCell ⟨g, 0, none⟩ a).setCell ⟨g, 1, none⟩ b).setCell ⟨g, 2, none⟩ c).setCell ⟨g, 3, none⟩ d).heap[k]? = W.heap[k]? := by
  rw [Below.heap_setCell _ _ _ _ h, Below.heap_setCell _ _ _ _ h, Below.heap_setCell _ _ _ _ h, Below.heap_setCell _ _ _ _ h]
/-- four cells of a block that is new -/
theorem put4_below {N : Nat} {w W : World} {g : Nat} (e : Below N w W) (hg : N ≤ g) (a b c d : Value) : Below N w ((((W.setCell ⟨g, 0, none⟩ a).setCell ⟨g, 1, none⟩ b).setCell ⟨g, 2, none⟩ c).setCell ⟨g, 3, none⟩ d) :=
  ⟨e.os, e.tape, e.output, by simpa [World.setCell] using e.size, fun k hk => (put4_oth W g a b c d k (by omega)).trans (e.block k hk)⟩

end Go.Proofs.YtaibngnabhmabajDoor
