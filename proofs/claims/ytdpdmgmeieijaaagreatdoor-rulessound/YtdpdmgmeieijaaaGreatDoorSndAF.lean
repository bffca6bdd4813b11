/- attestref6.Walk: what it walks, and Fault. Package machine: cells that are told, as a map; look, tell, must, one. Package machine: next. -/
import Derived.Test.YtdpdmgmeieijaaaGreatDoorSndAE
import Derived.Lib.SmallJoins
import Derived.Maps.OwnOps
import Derived.Maps.OwnSet
import Derived.WalkLawsBesides
import Derived.StillTailTactics
namespace Go.Proofs.YtdpdmgmeieijaaaGreatDoor
open Go.RowKit

structure InsZ where
  op : Int
  a : Int
  b : Int
  c : Int
def insat (L : List InsZ) (k : Nat) : InsZ := L.getD k ⟨0, 0, 0, 0⟩
/-- instructions in memory -/
structure LstI (n0 : Nat) (w : World) (a : Option Addr) (cap : Nat) (L : List InsZ) : Prop where
  row : ∀ k, k < L.length → ∃ b o, a = some ⟨b, o, none⟩ ∧ b < n0 ∧ w.cell? ⟨b, o + k * 4, none⟩ = some (.int .i64 (insat L k).op) ∧ w.cell? ⟨b, o + k * 4 + 1, none⟩ = some (.int .i64 (insat L k).a) ∧ w.cell? ⟨b, o + k * 4 + 2, none⟩ = some (.int .i64 (insat L k).b) ∧ w.cell? ⟨b, o + k * 4 + 3, none⟩ = some (.int .i64 (insat L k).c)
  room : L.length ≤ cap
  nil : a = none → cap = 0
theorem LstI.below {n0 : Nat} {A B : World} {a : Option Addr} {cap : Nat} {L : List InsZ} (r : LstI n0 A a cap L) (h : Below n0 A B) : LstI n0 B a cap L :=
  ⟨fun k hk => by
    obtain ⟨b, o, h1, h2, h3, h4, h5, h6⟩ := r.row k hk
    exact ⟨b, o, h1, h2, (h.cell (p := ⟨b, o + k * 4, none⟩) h2).trans h3, (h.cell (p := ⟨b, o + k * 4 + 1, none⟩) h2).trans h4, (h.cell (p := ⟨b, o + k * 4 + 2, none⟩) h2).trans h5, (h.cell (p := ⟨b, o + k * 4 + 3, none⟩) h2).trans h6⟩, r.room, r.nil⟩
theorem LstI.mono {n0 n1 : Nat} {A : World} {a : Option Addr} {cap : Nat} {L : List InsZ} (r : LstI n0 A a cap L) (h : n0 ≤ n1) : LstI n1 A a cap L :=
  ⟨fun k hk => by
    obtain ⟨b, o, h1, h2, h3⟩ := r.row k hk
    exact ⟨b, o, h1, by omega, h3⟩, r.room, r.nil⟩
/-- each number of an instruction is an int -/
def InsB (L : List InsZ) : Prop := ∀ k, k < L.length → (-9223372036854775808 ≤ (insat L k).op ∧ (insat L k).op ≤ 9223372036854775807) ∧ (-9223372036854775808 ≤ (insat L k).a ∧ (insat L k).a ≤ 9223372036854775807) ∧ (-9223372036854775808 ≤ (insat L k).b ∧ (insat L k).b ≤ 9223372036854775807) ∧ (-9223372036854775808 ≤ (insat L k).c ∧ (insat L k).c ≤ 9223372036854775807)

/-- what is wrong with code -/
def fz6 (p : Int) (size : Int) (n : Nat) (limit : Int) : Int := if size < 0 ∨ 65536 < size ∨ n = 0 ∨ 4096 < n ∨ p < (n : Int) then 2 else if limit < 0 ∨ 16384 < limit then 3 else 0

/-- a step as ten numbers -/
def stl (n : Rg) (s : RM) : List Int := [n.pc, n.fp, n.ap, n.rv, s.at' 0, s.at' 1, s.at' 2, s.is' 0, s.is' 1, s.is' 2]
def RM.now (s : RM) : List Int := stl ⟨s.pc, s.fp, s.ap, s.rv⟩ s
def freshM (cs : List (Int × Int)) (n : Rg) : RM := ⟨cs, n.pc, n.fp, n.ap, n.rv, fun _ => 0, fun _ => 0, 0, 0⟩
/-- what a walk comes to -/
inductive WR where
  | bad (e : Int)
  | good (l : List (List Int)) (cs : List (Int × Int))
def mgo (p : Nat) (L : List InsZ) (limit : Nat) : Nat → RM → List (List Int) → WR
  | 0, _, _ => .bad 8
  | f + 1, s, done =>
    if (L.length : Int) ≤ s.pc then .bad 7
    else if done.length = limit ∧ (insat L s.pc.toNat).op ≠ 0 then .bad 8
    else if (s.step p (insat L s.pc.toNat).op (insat L s.pc.toNat).a (insat L s.pc.toNat).b (insat L s.pc.toNat).c).1.err ≠ 0 then .bad (s.step p (insat L s.pc.toNat).op (insat L s.pc.toNat).a (insat L s.pc.toNat).b (insat L s.pc.toNat).c).1.err
    else if (insat L s.pc.toNat).op = 0 then .good (done ++ [(s.step p (insat L s.pc.toNat).op (insat L s.pc.toNat).a (insat L s.pc.toNat).b (insat L s.pc.toNat).c).1.now]) (s.step p (insat L s.pc.toNat).op (insat L s.pc.toNat).a (insat L s.pc.toNat).b (insat L s.pc.toNat).c).1.cs
    else mgo p L limit f (freshM (s.step p (insat L s.pc.toNat).op (insat L s.pc.toNat).a (insat L s.pc.toNat).b (insat L s.pc.toNat).c).1.cs (s.step p (insat L s.pc.toNat).op (insat L s.pc.toNat).a (insat L s.pc.toNat).b (insat L s.pc.toNat).c).2) (done ++ [(s.step p (insat L s.pc.toNat).op (insat L s.pc.toNat).a (insat L s.pc.toNat).b (insat L s.pc.toNat).c).1.now])
def mwalk (p : Nat) (size : Int) (L : List InsZ) (limit : Nat) : WR := mgo p L limit (limit + 1) (freshM [(0, 0)] ⟨0, 1, (1 + size) % (p : Int), 0⟩) []

def RgB (p : Nat) (n : Rg) : Prop := (0 ≤ n.pc ∧ n.pc < p) ∧ (0 ≤ n.fp ∧ n.fp < p) ∧ (0 ≤ n.ap ∧ n.ap < p) ∧ (0 ≤ n.rv ∧ n.rv < p)
theorem SOk.more {p n m k j : Nat} {s : RM} (h : SOk p n k s) (hm : n ≤ m) (hj : k ≤ j) : SOk p m j s := ⟨h.1, Nat.le_trans h.2.1 hm, fun e => Nat.le_trans (h.2.2 e) hj⟩
theorem rg_ite {p : Nat} (P : Prop) [Decidable P] (x y : Rg) (hx : RgB p x) (hy : RgB p y) : RgB p (if P then x else y) := by split <;> assumption
/-- a step keeps what is known -/
theorem step_ok {p n : Nat} {s : RM} (hp : 3 ≤ p) (h : SOk p n 0 s) (hr : RgB p ⟨s.pc, s.fp, s.ap, s.rv⟩) (op a b c : Int) : SOk p (n + 2) 3 (s.step p op a b c).1 ∧ RgB p (s.step p op a b c).2 := by
  have e := fun x => emod_bounds x p hp
  obtain ⟨r1, r2, r3, r4⟩ := hr
  have hn : RgB p ⟨(s.pc + 1) % (p : Int), s.fp, s.ap, s.rv⟩ := ⟨e _, r2, r3, r4⟩
  unfold RM.step
  split
  · refine ⟨?_, hn⟩
    unfold RM.three
    have l1 := look_ok hp h ((s.fp + a) % (p : Int))
    have l2 := look_ok hp l1.1 ((s.fp + b) % (p : Int))
    exact (tell_ok hp (rck_ok l2.1 op _) _ _).more (by omega) (by omega)
  · split
    · exact ⟨(tell_ok hp h _ _).more (by omega) (by omega), hn⟩
    · split
      · have l1 := look_ok hp h ((s.fp + a) % (p : Int))
        have l2 := look_ok hp l1.1 ((s.fp + b) % (p : Int))
        exact ⟨(must_ok l2.1 _).more (by omega) (by omega), hn⟩
      · split
        · exact ⟨h.more (by omega) (by omega), e _, r2, r3, r4⟩
        · split
          · have l1 := look_ok hp h ((s.fp + a) % (p : Int))
            exact ⟨l1.1.more (by omega) (by omega), rg_ite _ _ _ ⟨e _, r2, r3, r4⟩ hn⟩
          · split
            · exact ⟨(tell_ok hp (tell_ok hp h _ _) _ _).more (by omega) (by omega), e _, e _, e _, r4⟩
            · split
              · have l1 := look_ok hp h ((s.fp - 2) % (p : Int))
                have l2 := look_ok hp l1.1 ((s.fp - 1) % (p : Int))
                have l3 := look_ok hp l2.1 ((s.fp + a) % (p : Int))
                exact ⟨l3.1.more (by omega) (by omega), l2.2, l1.2, r3, l3.2⟩
              · split
                · exact ⟨(tell_ok hp h _ _).more (by omega) (by omega), hn⟩
                · split
                  · have l1 := look_ok hp h ((s.fp + a) % (p : Int))
                    exact ⟨(tell_ok hp l1.1 _ _).more (by omega) (by omega), hn⟩
                  · split
                    · have l1 := look_ok hp h ((s.fp + a) % (p : Int))
                      exact ⟨l1.1.more (by omega) (by omega), hn⟩
                    · exact ⟨⟨h.1, Nat.le_trans h.2.1 (by omega), fun e => absurd (show (7 : Int) = 0 from e) (by decide)⟩, hn⟩

set_option maxRecDepth 100000 in
set_option maxHeartbeats 1000000 in
theorem rfault6_any (p size limit : Int) (n cap : Nat) (a : Option Addr) (w : World) (hn : n ≤ 281474976710656) :
    Calls Tryz.prog 6 #[.int .i64 p, .agg #[.int .i64 size, .slice a n cap], .int .i64 limit] w fun e w' => e = .returned (.int .i64 (fz6 p size n limit)) ∧ Below w.heap.size w w' := by
  have HB : Hid (Below w.heap.size w (w.alloc (.cells #[.int .i64 size, .slice a n cap] 24))) := (Below.refl _ _).alloc (Nat.le_refl _) _
  obtain ⟨z, hz⟩ : ∃ z, z = fz6 p size n limit := ⟨_, rfl⟩
  rw [← hz]
  by_cases h1 : size < 0 ∨ 65536 < size ∨ n = 0 ∨ 4096 < n ∨ p < (n : Int)
  · have HZ : Hid (z = 2) := by unfold Hid; rw [hz, fz6, if_pos h1]
    clear hz
    by_cases a1 : size < 0
    · clear h1
      go_enter Tryz.func6, Tryz.ntmps6
      go_wp2_with fail
      go_ret
      rw [HZ.out]
      exact ⟨rfl, HB.out⟩
    · by_cases a2 : 65536 < size
      · clear h1
        go_enter Tryz.func6, Tryz.ntmps6
        go_wp2_with fail
        go_ret
        rw [HZ.out]
        exact ⟨rfl, HB.out⟩
      · by_cases a3 : n = 0
        · have b3 : ((n : Int) == 0) = true := by simp [a3]
          clear h1 a3
          go_enter Tryz.func6, Tryz.ntmps6
          go_wp2_with fail
          go_ret
          rw [HZ.out]
          exact ⟨rfl, HB.out⟩
        · have b3 : ((n : Int) == 0) = false := by simp [a3]
          by_cases a4 : 4096 < n
          · have b4 : (4096 : Int) < (n : Int) := by omega
            clear h1 a3 a4
            go_enter Tryz.func6, Tryz.ntmps6
            go_wp2_with fail
            go_ret
            rw [HZ.out]
            exact ⟨rfl, HB.out⟩
          · have b4 : ¬ (4096 : Int) < (n : Int) := by omega
            have b5 : p < (n : Int) := by omega
            clear h1 a3 a4
            go_enter Tryz.func6, Tryz.ntmps6
            go_wp2_with fail
            go_ret
            rw [HZ.out]
            exact ⟨rfl, HB.out⟩
  · have a1 : ¬ size < 0 := fun h => h1 (.inl h)
    have a2 : ¬ 65536 < size := fun h => h1 (.inr (.inl h))
    have b3 : ((n : Int) == 0) = false := by rw [beq_eq_false_iff_ne]; intro e; exact h1 (.inr (.inr (.inl (by omega))))
    have b4 : ¬ (4096 : Int) < (n : Int) := fun h => h1 (.inr (.inr (.inr (.inl (by omega)))))
    have b5 : ¬ p < (n : Int) := fun h => h1 (.inr (.inr (.inr (.inr h))))
    by_cases h2 : limit < 0 ∨ 16384 < limit
    · have HZ : Hid (z = 3) := by unfold Hid; rw [hz, fz6, if_neg h1, if_pos h2]
      clear hz h1
      by_cases c1 : limit < 0
      · clear h2
        go_enter Tryz.func6, Tryz.ntmps6
        go_wp2_with fail
        go_ret
        rw [HZ.out]
        exact ⟨rfl, HB.out⟩
      · have c2 : 16384 < limit := by omega
        clear h2
        go_enter Tryz.func6, Tryz.ntmps6
        go_wp2_with fail
        go_ret
        rw [HZ.out]
        exact ⟨rfl, HB.out⟩
    · have HZ : Hid (z = 0) := by unfold Hid; rw [hz, fz6, if_neg h1, if_neg h2]
      have c1 : ¬ limit < 0 := fun h => h2 (.inl h)
      have c2 : ¬ 16384 < limit := fun h => h2 (.inr h)
      clear hz h1 h2
      go_enter Tryz.func6, Tryz.ntmps6
      go_wp2_with fail
      go_ret
      rw [HZ.out]
      exact ⟨rfl, HB.out⟩

end Go.Proofs.YtdpdmgmeieijaaaGreatDoor

namespace Go.Proofs.YtdpdmgmeieijaaaGreatDoor
open Go.RowKit Go.Maps

theorem keyI : Keyed Tryz.prog 3 := int_keyed Tryz.underlying3
theorem zeroI (w : World) : (zeroValue 3).run Tryz.prog w = .ok (.int .i64 0) w := by kernel_rfl
/-- what a cell is -/
def cvl (cs : List (Int × Int)) (x : Int) : Int := if 0 ≤ finz cs x then (cat cs (finz cs x).toNat).2 else 0
/-- a map that reads as cells that are told -/
def CMap (D : DataW Unit) (cs : List (Int × Int)) : Prop := ∀ x : Int, (-9223372036854775808 ≤ x ∧ x ≤ 9223372036854775807) → Maps.has D (.int .i64 x) = decide (0 ≤ finz cs x) ∧ D.atKey (.int .i64 x) (.lit (.int .i64 0)) = .lit (.int .i64 (cvl cs x))
def MapAt (w : World) (B n : Nat) (cs : List (Int × Int)) : Prop := ∃ D : DataW Unit, w.ownsMap Tryz.prog 3 (plainElem Tryz.prog 3) B n D ∧ CMap D cs
theorem MapAt.kept {w w' : World} {B n : Nat} {cs : List (Int × Int)} {row : Option Nat} (h : MapAt w B n cs) (hg : w.grownBy w' row) (hne : some B ≠ row) : MapAt w' B n cs := by
  obtain ⟨D, h1, h2⟩ := h
  exact ⟨D, h1.kept hg hne, h2⟩
/-- a run that did not go on -/
def pnc (T : TypeId) : Ending := .panicked [{ v := .iface T (.agg #[]), recovered := false }]
/-- a run in memory -/
def rnv (b B : Nat) (aL : Option Addr) (nL cL : Nat) (n : Rg) : Nat → Value
  | 0 => .pointer (some ⟨b, 0, none⟩)
  | 1 => .slice aL nL cL
  | 2 => .map (some B)
  | 3 => .int .i64 n.pc
  | 4 => .int .i64 n.fp
  | 5 => .int .i64 n.ap
  | _ => .int .i64 n.rv
def RnAt (w : World) (R b B : Nat) (aL : Option Addr) (nL cL : Nat) (n : Rg) : Prop := w.rowIs R 94 7 (rnv b B aL nL cL n)
theorem key64 {x : Int} (h : -9223372036854775808 ≤ x ∧ x ≤ 9223372036854775807) : keyOf Tryz.prog 3 (.int .i64 x) = some (.int .i64 x) := keyOf_int_mk Tryz.underlying3 (WalkArith.wf_i64 h)

theorem pmust_yes (w : World) : Calls Tryz.prog 77 #[.bool true] w fun e w' => e = .returned (.tuple #[]) ∧ w' = w := by
  have hnot : ∀ (x : Bool) (w : World), (Op.unary .not (.bool x)).run Tryz.prog w = .ok (.bool (!x)) w := fun _ _ => rfl
  go_enter Tryz.func77, Tryz.ntmps77
  go_wp2_with fail
  go_end0
  exact ⟨rfl, rfl⟩
theorem pmust_no (w : World) : Calls Tryz.prog 77 #[.bool false] w fun e w' => e = pnc 88 ∧ w' = w := by
  have hnot : ∀ (x : Bool) (w : World), (Op.unary .not (.bool x)).run Tryz.prog w = .ok (.bool (!x)) w := fun _ _ => rfl
  go_enter Tryz.func77, Tryz.ntmps77
  go_wp2_with fail
  exact ⟨rfl, rfl, rfl⟩
theorem pone_any (b : Bool) (w : World) : Calls Tryz.prog 109 #[.bool b] w fun e w' => e = .returned (.int .i64 (if b then 1 else 0)) ∧ w' = w := by
  cases b
  all_goals
    go_enter Tryz.func109, Tryz.ntmps109
    go_wp2_with fail
    go_ret
    exact ⟨rfl, rfl⟩

theorem plook_yes (R b B nB : Nat) (aL : Option Addr) (nL cL : Nat) (n : Rg) (cs : List (Int × Int)) (x : Int) (w : World) (hR : RnAt w R b B aL nL cL n) (hM : MapAt w B nB cs) (hx : -9223372036854775808 ≤ x ∧ x ≤ 9223372036854775807) (ht : 0 ≤ finz cs x) :
    Calls Tryz.prog 107 #[.pointer (some ⟨R, 0, none⟩), .int .i64 x] w fun e w' => e = .returned (.int .i64 (cvl cs x)) ∧ w' = w := by
  have hnot : ∀ (x : Bool) (w : World), (Op.unary .not (.bool x)).run Tryz.prog w = .ok (.bool (!x)) w := fun _ _ => rfl
  obtain ⟨D, hD, hC⟩ := hM
  have HC := hid (hC x hx)
  have c2 : w.cell? ⟨R, 2, none⟩ = some (.map (some B)) := hR.cell (i := 2) (by decide)
  have HT := hid ht
  clear hC hR ht
  go_enter Tryz.func107, Tryz.ntmps107
  go_wp2_with (at_lookup; refine wpList_lookup_own_ok_int _ rfl _ _ 61 rfl 3 3 .i64 keyI Tryz.underlying61 Tryz.underlying3 (zeroI _) B nB _ rfl hD _ _ rfl (key64 hx) ?_; intro c hat hwc; rw [HC.out.1, decide_eq_true HT.out]; obtain rfl : c = cvl cs x := by (rw [HC.out.2] at hat; injection hat with hat; injection hat with _ hat; exact hat.symm))
  go_ret
  exact ⟨rfl, rfl⟩

theorem plook_no (R b B nB : Nat) (aL : Option Addr) (nL cL : Nat) (n : Rg) (cs : List (Int × Int)) (x : Int) (w : World) (hR : RnAt w R b B aL nL cL n) (hM : MapAt w B nB cs) (hx : -9223372036854775808 ≤ x ∧ x ≤ 9223372036854775807) (ht : ¬ 0 ≤ finz cs x) :
    Calls Tryz.prog 107 #[.pointer (some ⟨R, 0, none⟩), .int .i64 x] w fun e w' => e = pnc 87 ∧ w' = w := by
  have hnot : ∀ (x : Bool) (w : World), (Op.unary .not (.bool x)).run Tryz.prog w = .ok (.bool (!x)) w := fun _ _ => rfl
  obtain ⟨D, hD, hC⟩ := hM
  have HC := hid (hC x hx)
  have c2 : w.cell? ⟨R, 2, none⟩ = some (.map (some B)) := hR.cell (i := 2) (by decide)
  have HT := hid ht
  clear hC hR ht
  go_enter Tryz.func107, Tryz.ntmps107
  go_wp2_with (at_lookup; refine wpList_lookup_own_ok_int _ rfl _ _ 61 rfl 3 3 .i64 keyI Tryz.underlying61 Tryz.underlying3 (zeroI _) B nB _ rfl hD _ _ rfl (key64 hx) ?_; intro c hat hwc; rw [HC.out.1, decide_eq_false HT.out]; obtain rfl : c = cvl cs x := by (rw [HC.out.2] at hat; injection hat with hat; injection hat with _ hat; exact hat.symm))
  exact ⟨rfl, rfl, rfl⟩

theorem finz_app {cs : List (Int × Int)} {d : Int × Int} {x : Int} : finz (cs ++ [d]) x = if 0 ≤ finz cs x then finz cs x else if d.1 = x then (cs.length : Int) else -1 := by
  unfold finz
  rw [List.findIdx?_append]
  cases h : cs.findIdx? (fun c => c.1 == x) with
  | some i => simp
  | none =>
    by_cases hd : d.1 = x
    · simp [hd, List.findIdx?_cons]
    · simp [hd, List.findIdx?_cons]
theorem finz_bound {cs : List (Int × Int)} {x : Int} (h : 0 ≤ finz cs x) : (finz cs x).toNat < cs.length ∧ (cat cs (finz cs x).toNat).1 = x := by
  unfold finz at h ⊢
  cases hf : cs.findIdx? (fun c => c.1 == x) with
  | none => rw [hf] at h; simp at h
  | some i =>
    rw [hf] at h
    simp only [Int.toNat_natCast]
    obtain ⟨h1, h2, _⟩ := List.findIdx?_eq_some_iff_getElem.1 hf
    refine ⟨h1, ?_⟩
    simp [cat, h1]
    simpa using h2
/-- the cells behind a telling -/
def tld (cs : List (Int × Int)) (x y : Int) : List (Int × Int) := if 0 ≤ finz cs x then cs else cs ++ [(x, y)]
theorem tld_finz {cs : List (Int × Int)} {x y z : Int} : (0 ≤ finz (tld cs x y) z) ↔ (0 ≤ finz cs z ∨ z = x) := by
  unfold tld
  split
  · rename_i h
    constructor
    · exact .inl
    · rintro (h2 | rfl)
      · exact h2
      · exact h
  · rename_i h
    rw [finz_app]
    constructor
    · intro h2
      by_cases h3 : 0 ≤ finz cs z
      · exact .inl h3
      · rw [if_neg h3] at h2
        by_cases h4 : x = z
        · exact .inr h4.symm
        · simp only [] at h2
          rw [if_neg h4] at h2
          omega
    · rintro (h2 | rfl)
      · rw [if_pos h2]; exact h2
      · rw [if_neg h, if_pos rfl]; omega
theorem tld_cvl {cs : List (Int × Int)} {x y z : Int} (hs : 0 ≤ finz cs x → cvl cs x = y) : cvl (tld cs x y) z = if z = x then y else cvl cs z := by
  by_cases hz : z = x
  · subst hz
    rw [if_pos rfl]
    unfold tld
    split
    · rename_i h; exact hs h
    · rename_i h
      unfold cvl
      rw [finz_app, if_neg h, if_pos rfl, if_pos (by omega)]
      simp [cat]
  · rw [if_neg hz]
    unfold tld
    split
    · rfl
    · rename_i h
      unfold cvl
      rw [finz_app]
      by_cases h2 : 0 ≤ finz cs z
      · rw [if_pos h2, if_pos h2, if_pos h2, cat_app (finz_bound h2).1]
      · rw [if_neg h2, if_neg (show ¬ (x, y).1 = z from fun e => hz e.symm), if_neg (by omega), if_neg h2]
theorem cmap_put {D : DataW Unit} {cs : List (Int × Int)} {x y : Int} (h : CMap D cs) (hi : IsMap D) (hs : 0 ≤ finz cs x → cvl cs x = y) : CMap (D.put (.int .i64 x) (.lit (.int .i64 y))) (tld cs x y) := fun z hz => by
  rw [tld_cvl hs]
  by_cases hzx : z = x
  · subst hzx
    rw [has_put_same (k := Lit.int .i64 z) hi trivial, atKey_put_same (k := Lit.int .i64 z) hi trivial, if_pos rfl, decide_eq_true (tld_finz.2 (.inr rfl))]
    exact ⟨rfl, rfl⟩
  · have hne : (Lit.int .i64 z) ≠ (Lit.int .i64 x) := by intro e; injection e with _ e; exact hzx e
    rw [has_put_other hne, atKey_put_other hne, if_neg hzx, (h z hz).1, (h z hz).2]
    refine ⟨?_, rfl⟩
    rw [decide_eq_decide]
    constructor
    · exact fun h2 => tld_finz.2 (.inl h2)
    · intro h2
      rcases tld_finz.1 h2 with h3 | h3
      · exact h3
      · exact absurd h3 hzx

theorem ptell_yes (R b B nB : Nat) (aL : Option Addr) (nL cL : Nat) (n : Rg) (cs : List (Int × Int)) (x y : Int) (w : World) (hR : RnAt w R b B aL nL cL n) (hM : MapAt w B nB cs) (hnB : nB < maxLen) (hx : -9223372036854775808 ≤ x ∧ x ≤ 9223372036854775807) (hy : -9223372036854775808 ≤ y ∧ y ≤ 9223372036854775807) (hs : 0 ≤ finz cs x → cvl cs x = y) :
    Calls Tryz.prog 106 #[.pointer (some ⟨R, 0, none⟩), .int .i64 x, .int .i64 y] w fun e w' => e = .returned (.tuple #[]) ∧ MapAt w' B (nB + 1) (tld cs x y) ∧ w.grownBy w' (some B) := by
  have hnot : ∀ (x : Bool) (w : World), (Op.unary .not (.bool x)).run Tryz.prog w = .ok (.bool (!x)) w := fun _ _ => rfl
  obtain ⟨D, hD, hC⟩ := hM
  have HC := hid (hC x hx)
  have HP := hid (cmap_put hC hD.isMap hs)
  have HS := hid hs
  have HMU := hid (pmust_yes w)
  have c2 : w.cell? ⟨R, 2, none⟩ = some (.map (some B)) := hR.cell (i := 2) (by decide)
  clear hC hR hs
  by_cases ht : 0 ≤ finz cs x
  · have he : (cvl cs x == y) = true := by rw [HS.out ht]; simp
    have HT := hid ht
    clear ht
    go_enter Tryz.func106, Tryz.ntmps106
    go_wp2_with (first | (at_lookup; refine wpList_lookup_own_ok_int _ rfl _ _ 61 rfl 3 3 .i64 keyI Tryz.underlying61 Tryz.underlying3 (zeroI _) B nB _ rfl hD _ _ rfl (key64 hx) ?_; intro c hat hwc; rw [HC.out.1, decide_eq_true HT.out]; obtain rfl : c = cvl cs x := by (rw [HC.out.2] at hat; injection hat with hat; injection hat with _ hat; exact hat.symm)) | (at_mapUpdate; refine wpList_mapUpdate_own _ rfl _ _ _ 61 rfl 3 3 keyI Tryz.underlying61 _ B nB _ rfl hD hnB _ _ _ rfl rfl (key64 hx) _ [] (plainElem_int Tryz.underlying3 (WalkArith.wf_i64 hy)) ?_; intro w1 hown1 hgrow1))
    refine HMU.out.mono ?_
    rintro e w2 ⟨rfl, rfl⟩
    go_wp2_with (first | (at_mapUpdate; refine wpList_mapUpdate_own _ rfl _ _ _ 61 rfl 3 3 keyI Tryz.underlying61 _ B nB _ rfl hD hnB _ _ _ rfl rfl (key64 hx) _ [] (plainElem_int Tryz.underlying3 (WalkArith.wf_i64 hy)) ?_; intro w1 hown1 hgrow1))
    go_end0
    exact ⟨rfl, ⟨_, hown1, HP.out⟩, hgrow1⟩
  · have HT := hid ht
    clear ht
    go_enter Tryz.func106, Tryz.ntmps106
    go_wp2_with (first | (at_lookup; refine wpList_lookup_own_ok_int _ rfl _ _ 61 rfl 3 3 .i64 keyI Tryz.underlying61 Tryz.underlying3 (zeroI _) B nB _ rfl hD _ _ rfl (key64 hx) ?_; intro c hat hwc; rw [HC.out.1, decide_eq_false HT.out]; obtain rfl : c = cvl cs x := by (rw [HC.out.2] at hat; injection hat with hat; injection hat with _ hat; exact hat.symm)))
    refine HMU.out.mono ?_
    rintro e w2 ⟨rfl, rfl⟩
    go_wp2_with (first | (at_mapUpdate; refine wpList_mapUpdate_own _ rfl _ _ _ 61 rfl 3 3 keyI Tryz.underlying61 _ B nB _ rfl hD hnB _ _ _ rfl rfl (key64 hx) _ [] (plainElem_int Tryz.underlying3 (WalkArith.wf_i64 hy)) ?_; intro w1 hown1 hgrow1))
    go_end0
    exact ⟨rfl, ⟨_, hown1, HP.out⟩, hgrow1⟩
theorem ptell_no (R b B nB : Nat) (aL : Option Addr) (nL cL : Nat) (n : Rg) (cs : List (Int × Int)) (x y : Int) (w : World) (hR : RnAt w R b B aL nL cL n) (hM : MapAt w B nB cs) (hx : -9223372036854775808 ≤ x ∧ x ≤ 9223372036854775807) (ht : 0 ≤ finz cs x) (hs : cvl cs x ≠ y) :
    Calls Tryz.prog 106 #[.pointer (some ⟨R, 0, none⟩), .int .i64 x, .int .i64 y] w fun e w' => e = pnc 88 ∧ w' = w := by
  have hnot : ∀ (x : Bool) (w : World), (Op.unary .not (.bool x)).run Tryz.prog w = .ok (.bool (!x)) w := fun _ _ => rfl
  obtain ⟨D, hD, hC⟩ := hM
  have HC := hid (hC x hx)
  have HMU := hid (pmust_no w)
  have c2 : w.cell? ⟨R, 2, none⟩ = some (.map (some B)) := hR.cell (i := 2) (by decide)
  have he : (cvl cs x == y) = false := by rw [beq_eq_false_iff_ne]; exact hs
  have HT := hid ht
  clear hC hR hs ht
  go_enter Tryz.func106, Tryz.ntmps106
  go_wp2_with (first | (at_lookup; refine wpList_lookup_own_ok_int _ rfl _ _ 61 rfl 3 3 .i64 keyI Tryz.underlying61 Tryz.underlying3 (zeroI _) B nB _ rfl hD _ _ rfl (key64 hx) ?_; intro c hat hwc; rw [HC.out.1, decide_eq_true HT.out]; obtain rfl : c = cvl cs x := by (rw [HC.out.2] at hat; injection hat with hat; injection hat with _ hat; exact hat.symm)))
  refine HMU.out.mono ?_
  rintro e w2 ⟨rfl, rfl⟩
  exact ⟨rfl, rfl, rfl⟩

end Go.Proofs.YtdpdmgmeieijaaaGreatDoor

namespace Go.Proofs.YtdpdmgmeieijaaaGreatDoor
open Go.RowKit Go.Maps

theorem row4_arr {W : World} {g : Nat} {t : TypeId} {f : Nat → Value} (h : W.rowIs g t 4 f) : W.heap[g]? = some (.cells #[f 0, f 1, f 2, f 3] t (0, 0)) := by
  obtain ⟨c, hb, hs, hc⟩ := h
  rw [hb]
  congr 2
  apply Array.ext
  · simpa using hs
  · intro i h1 h2
    have h4 : i < 4 := by simpa using h2
    have := hc i h4
    rw [Array.getElem?_eq_getElem h1] at this
    injection this with this
    rw [this]
    have : i = 0 ∨ i = 1 ∨ i = 2 ∨ i = 3 := by omega
    rcases this with rfl | rfl | rfl | rfl <;> rfl
theorem row4_of {W : World} {g : Nat} {t : TypeId} {a b c d : Value} (h : W.heap[g]? = some (.cells #[a, b, c, d] t (0, 0))) : W.rowIs g t 4 (fun i => #[a, b, c, d].getD i .nilFunc) :=
  ⟨_, h, rfl, fun i hi => by
    have : i = 0 ∨ i = 1 ∨ i = 2 ∨ i = 3 := by omega
    rcases this with rfl | rfl | rfl | rfl <;> rfl⟩
theorem put4_heap {W : World} {g : Nat} {t : TypeId} {z0 z1 z2 z3 : Value} (h : W.heap[g]? = some (.cells #[z0, z1, z2, z3] t (0, 0))) (a b c d : Value) : ((((W.setCell ⟨g, 0, none⟩ a).setCell ⟨g, 1, none⟩ b).setCell ⟨g, 2, none⟩ c).setCell ⟨g, 3, none⟩ d).heap[g]? = some (.cells #[a, b, c, d] t (0, 0)) := by
  have := row4_arr (((((row4_of h).set 0 a).set 1 b).set 2 c).set 3 d)
  simpa using this
theorem put4_oth (W : World) (g : Nat) (a b c d : Value) (k : Nat) (h : k ≠ g) : ((((W.setCell ⟨g, 0, none⟩ a).setCell ⟨g, 1, none⟩ b).setCell ⟨g, 2, none⟩ c).setCell ⟨g, 3, none⟩ d).heap[k]? = W.heap[k]? := by
  rw [Below.heap_setCell _ _ _ _ h, Below.heap_setCell _ _ _ _ h, Below.heap_setCell _ _ _ _ h, Below.heap_setCell _ _ _ _ h]
/-- four cells of a block that is new -/
theorem put4_below {N : Nat} {w W : World} {g : Nat} (e : Below N w W) (hg : N ≤ g) (a b c d : Value) : Below N w ((((W.setCell ⟨g, 0, none⟩ a).setCell ⟨g, 1, none⟩ b).setCell ⟨g, 2, none⟩ c).setCell ⟨g, 3, none⟩ d) :=
  ⟨e.os, e.tape, e.output, by simpa [World.setCell] using e.size, fun k hk => (put4_oth W g a b c d k (by omega)).trans (e.block k hk)⟩

set_option maxRecDepth 100000 in
set_option maxHeartbeats 1000000 in
theorem pnext_yes (R b B cL k : Nat) (aL : Option Addr) (L : List InsZ) (n : Rg) (w : World) (hR : RnAt w R b B aL L.length cL n) (hL : LstI w.heap.size w aL cL L) (hpc : n.pc = (k : Int)) (hk : k < L.length) :
    Calls Tryz.prog 53 #[.pointer (some ⟨R, 0, none⟩)] w fun e w' => e = .returned (.agg #[.int .i64 (insat L k).op, .int .i64 (insat L k).a, .int .i64 (insat L k).b, .int .i64 (insat L k).c]) ∧ Below w.heap.size w w' := by
  have hmx : Tryz.prog.follows .mixedOrders = true := by kernel_rfl
  obtain ⟨W0, hW0⟩ : ∃ W0, W0 = w.alloc (.cells #[.int .i64 0, .int .i64 0, .int .i64 0, .int .i64 0] 45) := ⟨_, rfl⟩
  have hb0 : Below w.heap.size w W0 := by rw [hW0]; exact (Below.refl _ _).alloc (Nat.le_refl _) _
  have hR0 : RnAt W0 R b B aL L.length cL n := hR.of_block (hb0.block _ hR.lt)
  have c1 : W0.cell? ⟨R, 1, none⟩ = some (.slice aL L.length cL) := hR0.cell (i := 1) (by decide)
  have c3 : W0.cell? ⟨R, 3, none⟩ = some (.int .i64 (k : Int)) := by rw [← hpc]; exact hR0.cell (i := 3) (by decide)
  obtain ⟨bL, oL, rfl, hbL, e0, e1, e2, e3⟩ := (hL.below hb0).row k hk
  have HB0 := hid hb0
  have HMU := hid (fun W => pmust_yes W)
  have hlt : (k : Int) < (L.length : Int) := by omega
  generalize (insat L k).op = op at *
  generalize (insat L k).a = ia at *
  generalize (insat L k).b = ib at *
  generalize (insat L k).c = ic at *
  generalize L.length = nL at *
  clear hR hR0 hL hb0 hpc
  go_enter Tryz.func53, Tryz.ntmps53
  go_wp2_with fail
  rw [← hW0]
  have hs0 : W0.heap[w.heap.size]? = some (.cells #[.int .i64 0, .int .i64 0, .int .i64 0, .int .i64 0] 45 (0, 0)) := by rw [hW0]; exact heap_alloc_new w _
  clear hW0
  go_still_tail 10, hmx
  go_wp2_with fail
  refine (HMU.out _).mono ?_
  rintro e w2 ⟨rfl, hw2⟩
  have d1 : w2.cell? ⟨R, 1, none⟩ = some (.slice (some ⟨bL, oL, none⟩) nL cL) := by rw [hw2]; exact c1
  have d3 : w2.cell? ⟨R, 3, none⟩ = some (.int .i64 (k : Int)) := by rw [hw2]; exact c3
  have f0 : w2.cell? ⟨bL, oL + k * 4, none⟩ = some (.int .i64 op) := by rw [hw2]; exact e0
  have f1 : w2.cell? ⟨bL, oL + k * 4 + 1, none⟩ = some (.int .i64 ia) := by rw [hw2]; exact e1
  have f2 : w2.cell? ⟨bL, oL + k * 4 + 2, none⟩ = some (.int .i64 ib) := by rw [hw2]; exact e2
  have f3 : w2.cell? ⟨bL, oL + k * 4 + 3, none⟩ = some (.int .i64 ic) := by rw [hw2]; exact e3
  have y0 : ∀ i, w2.frozen? ⟨w.heap.size, i, none⟩ = false := by rw [hw2]; exact (row4_of hs0).frozen
  have hs2 : w2.heap[w.heap.size]? = some (.cells #[.int .i64 0, .int .i64 0, .int .i64 0, .int .i64 0] 45 (0, 0)) := by rw [hw2]; exact hs0
  have z0 : w2.cell? ⟨w.heap.size, 0, none⟩ = some (.int .i64 0) := by simp [World.cell?, hs2]
  have z1 : w2.cell? ⟨w.heap.size, 1, none⟩ = some (.int .i64 0) := by simp [World.cell?, hs2]
  have z2 : w2.cell? ⟨w.heap.size, 2, none⟩ = some (.int .i64 0) := by simp [World.cell?, hs2]
  have z3 : w2.cell? ⟨w.heap.size, 3, none⟩ = some (.int .i64 0) := by simp [World.cell?, hs2]
  have HB2 : Hid (Below w.heap.size w w2) := by unfold Hid; rw [hw2]; exact HB0.out.drew
  have HS2 := hid (put4_heap hs2 (.int .i64 op) (.int .i64 ia) (.int .i64 ib) (.int .i64 ic))
  clear hs0 hs2 hw2 c1 c3 e0 e1 e2 e3 HB0
  go_wp2_with fail
  go_still_tail 10, hmx
  go_wp2_with fail
  (try simp only [Exit.inBlock, Exit.then])
  refine bodyPost_ret (results_cell_row rfl _ _ w.heap.size 45 #[.int .i64 op, .int .i64 ia, .int .i64 ib, .int .i64 ic] (0, 0) _ rfl HS2.out Tryz.underlying45 rfl (by kernel_rfl)) rfl ?_
  exact ⟨rfl, (put4_below HB2.out (Nat.le_refl _) _ _ _ _).drew⟩

set_option maxRecDepth 100000 in
set_option maxHeartbeats 1000000 in
theorem pnext_no (R b B cL k : Nat) (aL : Option Addr) (nL : Nat) (n : Rg) (w : World) (hR : RnAt w R b B aL nL cL n) (hpc : n.pc = (k : Int)) (hk : ¬ k < nL) :
    Calls Tryz.prog 53 #[.pointer (some ⟨R, 0, none⟩)] w fun e w' => e = pnc 88 ∧ Below w.heap.size w w' := by
  have hmx : Tryz.prog.follows .mixedOrders = true := by kernel_rfl
  obtain ⟨W0, hW0⟩ : ∃ W0, W0 = w.alloc (.cells #[.int .i64 0, .int .i64 0, .int .i64 0, .int .i64 0] 45) := ⟨_, rfl⟩
  have hb0 : Below w.heap.size w W0 := by rw [hW0]; exact (Below.refl _ _).alloc (Nat.le_refl _) _
  have hR0 : RnAt W0 R b B aL nL cL n := hR.of_block (hb0.block _ hR.lt)
  have c1 : W0.cell? ⟨R, 1, none⟩ = some (.slice aL nL cL) := hR0.cell (i := 1) (by decide)
  have c3 : W0.cell? ⟨R, 3, none⟩ = some (.int .i64 (k : Int)) := by rw [← hpc]; exact hR0.cell (i := 3) (by decide)
  have HB0 := hid hb0
  have HMU := hid (fun W => pmust_no W)
  have hlt : ¬ (k : Int) < (nL : Int) := by omega
  clear hR hR0 hb0 hpc
  go_enter Tryz.func53, Tryz.ntmps53
  go_wp2_with fail
  rw [← hW0]
  clear hW0
  go_still_tail 10, hmx
  go_wp2_with fail
  refine (HMU.out _).mono ?_
  rintro e w2 ⟨rfl, rfl⟩
  exact ⟨rfl, rfl, HB0.out.drew⟩

end Go.Proofs.YtdpdmgmeieijaaaGreatDoor
