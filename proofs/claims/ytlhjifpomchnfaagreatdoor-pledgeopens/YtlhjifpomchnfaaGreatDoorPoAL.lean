/- attestref4: Check. Plain facts on the tables of the reference: what is true is shown, what is not is caught. What package sums must answer; attestlaw4.plain, lives. Package sums: isTable, variables, hasPlaces, product, across, upTo, fixed. -/
import Derived.Test.YtlhjifpomchnfaaGreatDoorPoAK
import Derived.Test.YtlhjifpomchnfaaGreatDoorPls
import Derived.Test.YtlhjifpomchnfaaGreatDoorFld
import Derived.Shelf.Spec.TrailingZeros
import Derived.Lib.TrailingZeros
import Derived.Test.YtlhjifpomchnfaaGreatDoorDoms
import Derived.Test.YtlhjifpomchnfaaGreatDoorSpgs
import Derived.StillTailTactics
namespace Go.Proofs.YtlhjifpomchnfaaGreatDoor
open Go.RowKit

/-- what is claimed ahead of a round -/
def nowz (p : Nat) (claim : Int) (rounds : List (List Int)) (drawn : List Int) : Nat → Int
  | 0 => claim % (p : Int)
  | i + 1 => atz p (rat rounds i) (zat drawn i)
/-- it is shown -/
def ChkP (p : Nat) (claim d : Int) (rounds : List (List Int)) (finals drawn : List Int) : Prop :=
  1 ≤ d ∧ d ≤ 4 ∧ d < (p : Int) ∧ drawn.length ≤ 12 ∧ rounds.length = drawn.length ∧ (finals.length : Int) = d ∧ (∀ i, i < rounds.length → ((rat rounds i).length : Int) = d + 1) ∧
    (∀ i, i < rounds.length → (zat (rat rounds i) 0 + zat (rat rounds i) 1) % (p : Int) = nowz p claim rounds drawn i) ∧ Sum.prz (zat finals) finals.length % (p : Int) = nowz p claim rounds drawn rounds.length
end Go.Proofs.YtlhjifpomchnfaaGreatDoor

namespace Go.Proofs.YtlhjifpomchnfaaGreatDoor
open Go.RowKit Pol

theorem cnt_at {n j : Nat} (h : j < n) : zat (cnt' n) j = (j : Int) := ls_at _ _ _ h
theorem cnt_unlike {p n : Nat} (h : n ≤ p) : ∀ i j, i < j → j < n → ¬ (p : Int) ∣ zat (cnt' n) j - zat (cnt' n) i := fun i j hij hj hd => by
  rw [cnt_at hj, cnt_at (by omega)] at hd
  have := Int.le_of_dvd (by omega) hd
  omega
theorem evz_pfit {p : Nat} (h3 : 3 ≤ p) (xs ys : List Int) (r : Int) : evz p (pfit p xs ys) r = ps (FS p xs ys xs.length) r xs.length % (p : Int) := evz_mk h3 _ _ _
theorem dvd_mod {p : Nat} {a b : Int} (h : (p : Int) ∣ a % (p : Int) - b) : (p : Int) ∣ a - b := by
  have := Int.dvd_sub h (emod_dvd p a)
  rwa [show a % (p : Int) - b - (a % (p : Int) - a) = a - b from by omega] at this
/-- the tables with the first variable x: their sum -/
theorem totz_fix {p N h : Nat} {rows : List (List Int)} (h1 : 1 ≤ rows.length) (hN : ∀ k, k < rows.length → (rat rows k).length = N) (hh : N / 2 = h) (x : Int) : (p : Int) ∣ totz p (fixr p rows x) - Sum.tqx (fun k i => zat (rat rows k) i) rows.length h x := by
  unfold totz
  have h0 : (rat (fixr p rows x) 0).length = h := by rw [fixr_rat (by omega), fixl_len, hN 0 (by omega), hh]
  rw [h0, fixr_len]
  have e := emod_dvd p (Dom.sm (fun i => Sum.prz (fun k => zat (rat (fixr p rows x) k) i) rows.length) h)
  have e2 : (p : Int) ∣ Dom.sm (fun i => Sum.prz (fun k => zat (rat (fixr p rows x) k) i) rows.length) h - Sum.tqx (fun k i => zat (rat rows k) i) rows.length h x := by
    unfold Sum.tqx
    refine Dom.sm_congr (fun i hi => Sum.prz_congr (fun k hk => ?_))
    rw [fixr_rat hk, fixl_at (by rw [hN k hk, hh]; exact hi), hN k hk, hh]
    exact emod_dvd p _
  have := Int.dvd_add e e2
  rwa [show ∀ a b c : Int, a - b + (b - c) = a - c from fun a b c => by omega] at this
/-- at 0 and at 1 a Round has the sum -/
theorem rnd_ends {p h : Nat} (h3 : 3 ≤ p) {rows : List (List Int)} (h1 : 1 ≤ rows.length) (hN : ∀ k, k < rows.length → (rat rows k).length = h + h) : (zat (rndl p rows) 0 + zat (rndl p rows) 1) % (p : Int) = totz p rows := by
  have e0 : zat (rndl p rows) 0 = totz p (fixr p rows 0) := by unfold rndl; rw [ls_at _ _ _ (by omega)]; rfl
  have e1 : zat (rndl p rows) 1 = totz p (fixr p rows 1) := by unfold rndl; rw [ls_at _ _ _ (by omega)]; rfl
  have g0 := totz_fix (p := p) h1 hN (show (h + h) / 2 = h by omega) 0
  have g1 := totz_fix (p := p) h1 hN (show (h + h) / 2 = h by omega) 1
  have g := Sum.dvd_add_sub g0 g1
  rw [Sum.tqx_ends] at g
  rw [e0, e1]
  unfold totz at g ⊢
  rw [emod_eq_iff (by omega), hN 0 (by omega)]
  exact g
/-- a Round's polynomial is what the sum is -/
theorem atz_rnd {p N h : Nat} (hp : Num.Prime p) (h3 : 3 ≤ p) {rows : List (List Int)} (h1 : 1 ≤ rows.length) (hN : ∀ k, k < rows.length → (rat rows k).length = N) (hh : N / 2 = h) (hd : rows.length < p) (r : Int) : atz p (rndl p rows) r = totz p (fixr p rows r) := by
  unfold atz
  rw [evz_pfit h3, rndl_len, cnt_len]
  have hl : (cnt' (rows.length + 1)).length = rows.length + 1 := cnt_len _
  have hfit := fun j (hj : j < rows.length + 1) => Sum.pfit_at hp h3 (cnt' (rows.length + 1)) (rndl p rows) (by rw [hl]; exact cnt_unlike (by omega)) j (by rw [hl]; exact hj)
  rw [hl] at hfit
  have hag := Sum.tqx_agree hp (fun k i => zat (rat rows k) i) rows.length h (FS p (cnt' (rows.length + 1)) (rndl p rows) (rows.length + 1)) (zat (cnt' (rows.length + 1))) (cnt_unlike (by omega)) (fun j hj => by
    have g := hfit j hj
    have e : zat (rndl p rows) j = totz p (fixr p rows (j : Int)) := by unfold rndl; rw [ls_at _ _ _ hj]
    rw [e] at g
    have g2 := totz_fix (p := p) h1 hN hh (j : Int)
    have := Int.dvd_add g g2
    rw [cnt_at hj] at this ⊢
    rwa [show ∀ a b c : Int, a - b + (b - c) = a - c from fun a b c => by omega] at this) r
  have g3 := totz_fix (p := p) h1 hN hh r
  have g4 := Int.dvd_sub hag g3
  rw [show ∀ a b c : Int, a - b - (c - b) = a - c from fun a b c => by omega] at g4
  have hb := totz_bounds p (fixr p rows r) h3
  have := (emod_eq_iff (a := ps (FS p (cnt' (rows.length + 1)) (rndl p rows) (rows.length + 1)) r (rows.length + 1)) (b := totz p (fixr p rows r)) (show 0 < p by omega)).2 g4
  rw [this, Int.emod_eq_of_lt hb.1 hb.2]
/-- a wrong sum: whatever is told for the round, not at d + 1 unlike elements is it true what is claimed behind it -/
theorem caught {p N h : Nat} (hp : Num.Prime p) (h3 : 3 ≤ p) {rows : List (List Int)} (h1 : 1 ≤ rows.length) (hN : ∀ k, k < rows.length → (rat rows k).length = N) (hh : N = h + h) (hd : rows.length < p) {told drawn : List Int} (ht : told.length = rows.length + 1) (hl : drawn.length = rows.length + 1)
    (hu : ∀ i j, i < j → j < drawn.length → ¬ (p : Int) ∣ zat drawn j - zat drawn i) (hc : (zat told 0 + zat told 1) % (p : Int) ≠ totz p rows) : ∃ i, i < drawn.length ∧ totz p (fixr p rows (zat drawn i)) ≠ atz p told (zat drawn i) := by
  refine Classical.byContradiction fun hno => hc ?_
  have hall : ∀ i, i < drawn.length → totz p (fixr p rows (zat drawn i)) = atz p told (zat drawn i) := fun i hi => Classical.byContradiction fun hne => hno ⟨i, hi, hne⟩
  have hh2 : N / 2 = h := by omega
  have hlc : (cnt' (rows.length + 1)).length = rows.length + 1 := cnt_len _
  have hev : ∀ r, atz p told r = ps (FS p (cnt' (rows.length + 1)) told (rows.length + 1)) r (rows.length + 1) % (p : Int) := fun r => by
    unfold atz
    rw [evz_pfit h3, ht, cnt_len]
  have hag := fun x => Sum.tqx_agree hp (fun k i => zat (rat rows k) i) rows.length h (FS p (cnt' (rows.length + 1)) told (rows.length + 1)) (zat drawn) (by rw [← hl]; exact hu) (fun j hj => by
    have g := hall j (by omega)
    have g2 := totz_fix (p := p) h1 hN hh2 (zat drawn j)
    rw [g, hev] at g2
    exact dvd_mod g2) x
  have hfit := fun j (hj : j < rows.length + 1) => Sum.pfit_at hp h3 (cnt' (rows.length + 1)) told (by rw [hlc]; exact cnt_unlike (by omega)) j (by rw [hlc]; exact hj)
  rw [hlc] at hfit
  have f0 := hfit 0 (by omega)
  have f1 := hfit 1 (by omega)
  rw [cnt_at (by omega), show ((0 : Nat) : Int) = 0 from rfl] at f0
  rw [cnt_at (by omega), show ((1 : Nat) : Int) = 1 from rfl] at f1
  have a0 := Int.dvd_sub (hag 0) f0
  have a1 := Int.dvd_sub (hag 1) f1
  have ha := Sum.dvd_add_sub (show (p : Int) ∣ zat told 0 - Sum.tqx (fun k i => zat (rat rows k) i) rows.length h 0 from by
      rwa [show ∀ a b c : Int, a - b - (a - c) = c - b from fun a b c => by omega] at a0)
    (show (p : Int) ∣ zat told 1 - Sum.tqx (fun k i => zat (rat rows k) i) rows.length h 1 from by
      rwa [show ∀ a b c : Int, a - b - (a - c) = c - b from fun a b c => by omega] at a1)
  rw [Sum.tqx_ends] at ha
  unfold totz
  rw [emod_eq_iff (by omega), hN 0 (by omega), hh]
  exact ha

end Go.Proofs.YtlhjifpomchnfaaGreatDoor

namespace Go.Proofs.YtlhjifpomchnfaaGreatDoor
open Go.RowKit

/-- the tables behind some draws -/
def tbs (p : Nat) (rows : List (List Int)) (drawn : List Int) : Nat → List (List Int)
  | 0 => rows
  | i + 1 => fixr p (tbs p rows drawn i) (zat drawn i)
/-- Make -/
def mke (p : Nat) (rows : List (List Int)) (drawn : List Int) : Int := if ovr rows = (drawn.length : Int) then (if rows.length < p then 0 else 3) else 2
def mkR (p : Nat) (rows : List (List Int)) (drawn : List Int) : List (List Int) := if mke p rows drawn = 0 then (List.range drawn.length).map (fun i => rndl p (tbs p rows drawn i)) else []
def mkF (p : Nat) (rows : List (List Int)) (drawn : List Int) : List Int := if mke p rows drawn = 0 then ls (fun k => zat (rat (tbs p rows drawn drawn.length) k) 0 % (p : Int)) rows.length else []

/-- a field, and lists that may be handed in -/
structure InF (p b : Nat) (W : World) : Prop where
  pr : Num.Prime p
  h3 : 3 ≤ p
  hm : p ≤ 2147483647
  cell : W.cell? ⟨b, 0, none⟩ = some (.int .i64 p)
theorem InF.below {p b : Nat} {W W' : World} (h : InF p b W) (e : Below W.heap.size W W') : InF p b W' := ⟨h.pr, h.h3, h.hm, (e.cell (p := ⟨b, 0, none⟩) (heap_lt h.cell)).trans h.cell⟩
/-- a field, and the table by which package bits counts last zeros -/
structure InT (p b : Nat) (W : World) : Prop extends InF p b W where
  tab : TabAt 2 Lib.deBruijn64tab W
theorem tabu_below {w w' : World} (h : TabAt 2 Lib.deBruijn64tab w) (hb : Below w.heap.size w w') : TabAt 2 Lib.deBruijn64tab w' :=
  fun j hj => (hb.cell (p := ⟨2, j, none⟩) (cell_lt (h j hj))).trans (h j hj)
theorem InT.below {p b : Nat} {W W' : World} (h : InT p b W) (e : Below W.heap.size W W') : InT p b W' := ⟨h.toInF.below e, tabu_below h.tab e⟩
structure InL (W : World) (a : Option Addr) (c : Nat) (l : List Int) : Prop where
  len : l.length ≤ 17592186043904
  fit : Fits l
  lst : Lst W.heap.size W a c l
theorem InL.below {W W' : World} {a : Option Addr} {c : Nat} {l : List Int} (h : InL W a c l) (e : Below W.heap.size W W') : InL W' a c l := ⟨h.len, h.fit, (h.lst.below e).mono e.size⟩
structure InR (W : World) (a : Option Addr) (c : Nat) (rows : List (List Int)) : Prop where
  len : rows.length ≤ 5864062014634
  lens : ∀ k, k < rows.length → (rat rows k).length ≤ 17592186043904
  fit : ∀ k, k < rows.length → Fits (rat rows k)
  lst : LstR W.heap.size W a c rows
theorem InR.below {W W' : World} {a : Option Addr} {c : Nat} {rows : List (List Int)} (h : InR W a c rows) (e : Below W.heap.size W W') : InR W' a c rows := ⟨h.len, h.lens, h.fit, (h.lst.below e).mono e.size⟩

/-! what package sums must answer -/
end Go.Proofs.YtlhjifpomchnfaaGreatDoor

namespace Go.Proofs.YtlhjifpomchnfaaGreatDoor
open Go.RowKit

end Go.Proofs.YtlhjifpomchnfaaGreatDoor
