/- What package sums must answer; attestlaw4.plain, lives. -/
import Derived.Test.YtecaifjbmfianagDoorSumV
import Derived.Test.YtecaifjbmfianagDoorPls
import Derived.Test.YtecaifjbmfianagDoorFld
import Derived.Shelf.Spec.TrailingZeros
import Derived.Lib.TrailingZeros
namespace Go.Proofs.YtecaifjbmfianagDoor
open Go.RowKit

/-- an error by its number -/
def errz (k : Int) : Value := if k = 0 then .nilIface else .iface 61 (.int .i64 k)
theorem errz_nil : errz 0 = .nilIface := rfl
theorem errz_some {k : Int} (h : k ≠ 0) : errz k = .iface 61 (.int .i64 k) := by unfold errz; rw [if_neg h]
/-- Extend: what is wrong; what it gives -/
def exe (t at' : List Int) : Int := if vrs t.length = (at'.length : Int) then 0 else 2
def exz (p : Nat) (t at' : List Int) : Int := if vrs t.length = (at'.length : Int) then Sum.ext (zat t) (zat at') at'.length % (p : Int) else 0
/-- Fix -/
def fxe (t : List Int) : Int := if 1 ≤ vrs t.length then 0 else 2
def fxl (p : Nat) (t : List Int) (r : Int) : List Int := if 1 ≤ vrs t.length then fixl p t r else []
/-- Total -/
def toe (rows : List (List Int)) : Int := if 0 ≤ ovr rows then 0 else 2
def toz (p : Nat) (rows : List (List Int)) : Int := if 0 ≤ ovr rows then totz p rows else 0
/-- Round -/
def roe (p : Nat) (rows : List (List Int)) : Int := if 1 ≤ ovr rows then (if rows.length < p then 0 else 3) else 2
def rol (p : Nat) (rows : List (List Int)) : List Int := if roe p rows = 0 then rndl p rows else []
/-- the tables behind some draws -/
def tbs (p : Nat) (rows : List (List Int)) (drawn : List Int) : Nat → List (List Int)
  | 0 => rows
  | i + 1 => fixr p (tbs p rows drawn i) (zat drawn i)
/-- Make -/
def mke (p : Nat) (rows : List (List Int)) (drawn : List Int) : Int := if ovr rows = (drawn.length : Int) then (if rows.length < p then 0 else 3) else 2
def mkR (p : Nat) (rows : List (List Int)) (drawn : List Int) : List (List Int) := if mke p rows drawn = 0 then (List.range drawn.length).map (fun i => rndl p (tbs p rows drawn i)) else []
def mkF (p : Nat) (rows : List (List Int)) (drawn : List Int) : List Int := if mke p rows drawn = 0 then ls (fun k => zat (rat (tbs p rows drawn drawn.length) k) 0 % (p : Int)) rows.length else []

/-- a field, and lists that may be handed in -/
structure InF (p b : Nat) (W : World) : Prop where
  pr : Num.Prime p
  h3 : 3 ≤ p
  hm : p ≤ 2147483647
  cell : W.cell? ⟨b, 0, none⟩ = some (.int .i64 p)
theorem InF.below {p b : Nat} {W W' : World} (h : InF p b W) (e : Below W.heap.size W W') : InF p b W' := ⟨h.pr, h.h3, h.hm, (e.cell (p := ⟨b, 0, none⟩) (heap_lt h.cell)).trans h.cell⟩
/-- a field, and the table by which package bits counts last zeros -/
structure InT (p b : Nat) (W : World) : Prop extends InF p b W where
  tab : TabAt 2 Lib.deBruijn64tab W
theorem tabu_below {w w' : World} (h : TabAt 2 Lib.deBruijn64tab w) (hb : Below w.heap.size w w') : TabAt 2 Lib.deBruijn64tab w' :=
  fun j hj => (hb.cell (p := ⟨2, j, none⟩) (cell_lt (h j hj))).trans (h j hj)
theorem InT.below {p b : Nat} {W W' : World} (h : InT p b W) (e : Below W.heap.size W W') : InT p b W' := ⟨h.toInF.below e, tabu_below h.tab e⟩
structure InL (W : World) (a : Option Addr) (c : Nat) (l : List Int) : Prop where
  len : l.length ≤ 17592186043904
  fit : Fits l
  lst : Lst W.heap.size W a c l
theorem InL.below {W W' : World} {a : Option Addr} {c : Nat} {l : List Int} (h : InL W a c l) (e : Below W.heap.size W W') : InL W' a c l := ⟨h.len, h.fit, (h.lst.below e).mono e.size⟩
structure InR (W : World) (a : Option Addr) (c : Nat) (rows : List (List Int)) : Prop where
  len : rows.length ≤ 5864062014634
  lens : ∀ k, k < rows.length → (rat rows k).length ≤ 17592186043904
  fit : ∀ k, k < rows.length → Fits (rat rows k)
  lst : LstR W.heap.size W a c rows
theorem InR.below {W W' : World} {a : Option Addr} {c : Nat} {rows : List (List Int)} (h : InR W a c rows) (e : Below W.heap.size W W') : InR W' a c rows := ⟨h.len, h.lens, h.fit, (h.lst.below e).mono e.size⟩

/-! what package sums must answer -/
def ExtAs : Prop := ∀ (p b c1 c2 : Nat) (a1 a2 : Option Addr) (t at' : List Int) (W : World), InT p b W → InL W a1 c1 t → InL W a2 c2 at' →
    Calls Tryd.prog 21 #[.pointer (some ⟨b, 0, none⟩), .slice a1 t.length c1, .slice a2 at'.length c2] W fun e w' => e = .returned (.tuple #[.int .i64 (exz p t at'), errz (exe t at')]) ∧ Below W.heap.size W w'
def FixAs : Prop := ∀ (p b c1 : Nat) (a1 : Option Addr) (t : List Int) (r : Int) (W : World), InT p b W → InL W a1 c1 t → -9223372036854775808 ≤ r → r ≤ 9223372036854775807 →
    Calls Tryd.prog 24 #[.pointer (some ⟨b, 0, none⟩), .slice a1 t.length c1, .int .i64 r] W fun e w' => ∃ a' c', e = .returned (.tuple #[.slice a' (fxl p t r).length c', errz (fxe t)]) ∧ Lst w'.heap.size w' a' c' (fxl p t r) ∧ SlR w' (fxl p t r) (.slice a' (fxl p t r).length c') ∧ Below W.heap.size W w'
def TotAs : Prop := ∀ (p b c1 : Nat) (a1 : Option Addr) (rows : List (List Int)) (W : World), InF p b W → InR W a1 c1 rows →
    Calls Tryd.prog 19 #[.pointer (some ⟨b, 0, none⟩), .slice a1 rows.length c1] W fun e w' => e = .returned (.tuple #[.int .i64 (toz p rows), errz (toe rows)]) ∧ Below W.heap.size W w'
def MakAs : Prop := ∀ (p b c1 c2 : Nat) (a1 a2 : Option Addr) (rows : List (List Int)) (drawn : List Int) (W : World), InT p b W → InR W a1 c1 rows → InL W a2 c2 drawn →
    Calls Tryd.prog 9 #[.pointer (some ⟨b, 0, none⟩), .slice a1 rows.length c1, .slice a2 drawn.length c2] W fun e w' => ∃ ar cr af cf, e = .returned (.tuple #[.agg #[.slice ar (mkR p rows drawn).length cr, .slice af (mkF p rows drawn).length cf], errz (mke p rows drawn)]) ∧ LstR w'.heap.size w' ar cr (mkR p rows drawn) ∧ Lst w'.heap.size w' af cf (mkF p rows drawn) ∧ Below W.heap.size W w'
def ChkAs : Prop := ∀ (p b cr cf c2 : Nat) (ar af a2 : Option Addr) (claim d : Int) (rounds : List (List Int)) (finals drawn : List Int) (W : World), InF p b W → InR W ar cr rounds → InL W af cf finals → InL W a2 c2 drawn → -9223372036854775808 ≤ claim → claim ≤ 9223372036854775807 → -9223372036854775808 ≤ d → d ≤ 9223372036854775807 →
    Calls Tryd.prog 20 #[.pointer (some ⟨b, 0, none⟩), .int .i64 claim, .int .i64 d, .agg #[.slice ar rounds.length cr, .slice af finals.length cf], .slice a2 drawn.length c2] W fun e w' => e = .returned (.bool (chkz p claim d rounds finals drawn)) ∧ Below W.heap.size W w'

/-- is it told so? -/
theorem told_any (k e : Int) (w : World) (hL : Laid w) : Calls Tryd.prog 11 #[errz k, .int .i64 e] w fun x w' => x = .returned (.bool (k == e)) ∧ Below w.heap.size w w' := by
  by_cases h : k = 0
  · subst h
    rw [errz_nil]
    refine (error_nil e w).mono ?_
    rintro x w' ⟨rfl, rfl⟩
    exact ⟨rfl, Below.refl _ _⟩
  · rw [errz_some h]
    exact error_hit k e w hL

set_option maxRecDepth 100000 in
theorem plain4_yes (q : Nat) (w : World) (h3 : 3 ≤ q) (h4 : q ≤ 2147483647) (hpr : Num.Prime q) :
    Calls Tryd.prog 18 #[.int .i64 q] w fun e w' => ∃ b, e = .returned (.pointer (some ⟨b, 0, none⟩)) ∧ InF q b w' ∧ Below w.heap.size w w' := by
  have HF := hid (new_yes q w h3 h4 hpr)
  have HP := hid hpr
  clear hpr
  go_enter Tryd.func18, Tryd.ntmps18
  go_wp2_with fail
  refine HF.out.mono ?_
  rintro e w1 ⟨rfl, hc1, hb1, hlt1⟩
  have HE : Hid (InF q w.heap.size w1 ∧ Below w.heap.size w w1) := ⟨⟨HP.out, h3, h4, hc1⟩, hb1⟩
  clear hc1 hb1 HF
  go_wp2_with fail
  go_ret
  exact ⟨_, rfl, HE.out⟩
set_option maxRecDepth 100000 in
theorem plain4_no (p : Int) (w : World) (hno : ¬ okPrime p) (hp1 : -9223372036854775808 ≤ p) (hp2 : p ≤ 9223372036854775807) :
    Calls Tryd.prog 18 #[.int .i64 p] w fun e w' => e = .returned (.pointer none) ∧ w' = w := by
  have HF := hid (new_no p w hno hp1 hp2)
  clear hno hp1 hp2
  go_enter Tryd.func18, Tryd.ntmps18
  go_wp2_with fail
  refine HF.out.mono ?_
  rintro e w1 ⟨rfl, rfl⟩
  go_wp2_with fail
  go_ret
  exact ⟨rfl, rfl⟩

end Go.Proofs.YtecaifjbmfianagDoor
