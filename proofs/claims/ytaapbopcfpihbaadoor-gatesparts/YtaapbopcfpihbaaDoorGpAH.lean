/- attestref4: Check. Plain facts on the tables of the reference: what is true is shown, what is not is caught. -/
import Derived.Test.YtaapbopcfpihbaaDoorSumT
namespace Go.Proofs.YtaapbopcfpihbaaDoor
open Go.RowKit

end Go.Proofs.YtaapbopcfpihbaaDoor

namespace Go.Proofs.YtaapbopcfpihbaaDoor
open Go.RowKit Pol

theorem cnt_at {n j : Nat} (h : j < n) : zat (cnt' n) j = (j : Int) := ls_at _ _ _ h
theorem cnt_unlike {p n : Nat} (h : n ≤ p) : ∀ i j, i < j → j < n → ¬ (p : Int) ∣ zat (cnt' n) j - zat (cnt' n) i := fun i j hij hj hd => by
  rw [cnt_at hj, cnt_at (by omega)] at hd
  have := Int.le_of_dvd (by omega) hd
  omega
theorem evz_pfit {p : Nat} (h3 : 3 ≤ p) (xs ys : List Int) (r : Int) : evz p (pfit p xs ys) r = ps (FS p xs ys xs.length) r xs.length % (p : Int) := evz_mk h3 _ _ _
theorem dvd_mod {p : Nat} {a b : Int} (h : (p : Int) ∣ a % (p : Int) - b) : (p : Int) ∣ a - b := by
  have := Int.dvd_sub h (emod_dvd p a)
  rwa [show a % (p : Int) - b - (a % (p : Int) - a) = a - b from by omega] at this
/-- the tables with the first variable x: their sum -/
theorem totz_fix {p N h : Nat} {rows : List (List Int)} (h1 : 1 ≤ rows.length) (hN : ∀ k, k < rows.length → (rat rows k).length = N) (hh : N / 2 = h) (x : Int) : (p : Int) ∣ totz p (fixr p rows x) - Sum.tqx (fun k i => zat (rat rows k) i) rows.length h x := by
  unfold totz
  have h0 : (rat (fixr p rows x) 0).length = h := by rw [fixr_rat (by omega), fixl_len, hN 0 (by omega), hh]
  rw [h0, fixr_len]
  have e := emod_dvd p (Dom.sm (fun i => Sum.prz (fun k => zat (rat (fixr p rows x) k) i) rows.length) h)
  have e2 : (p : Int) ∣ Dom.sm (fun i => Sum.prz (fun k => zat (rat (fixr p rows x) k) i) rows.length) h - Sum.tqx (fun k i => zat (rat rows k) i) rows.length h x := by
    unfold Sum.tqx
    refine Dom.sm_congr (fun i hi => Sum.prz_congr (fun k hk => ?_))
    rw [fixr_rat hk, fixl_at (by rw [hN k hk, hh]; exact hi), hN k hk, hh]
    exact emod_dvd p _
  have := Int.dvd_add e e2
  rwa [show ∀ a b c : Int, a - b + (b - c) = a - c from fun a b c => by omega] at this
/-- a wrong sum: whatever is told for the round, not at d + 1 unlike elements is it true what is claimed behind it -/
theorem caught {p N h : Nat} (hp : Num.Prime p) (h3 : 3 ≤ p) {rows : List (List Int)} (h1 : 1 ≤ rows.length) (hN : ∀ k, k < rows.length → (rat rows k).length = N) (hh : N = h + h) (hd : rows.length < p) {told drawn : List Int} (ht : told.length = rows.length + 1) (hl : drawn.length = rows.length + 1)
    (hu : ∀ i j, i < j → j < drawn.length → ¬ (p : Int) ∣ zat drawn j - zat drawn i) (hc : (zat told 0 + zat told 1) % (p : Int) ≠ totz p rows) : ∃ i, i < drawn.length ∧ totz p (fixr p rows (zat drawn i)) ≠ atz p told (zat drawn i) := by
  refine Classical.byContradiction fun hno => hc ?_
  have hall : ∀ i, i < drawn.length → totz p (fixr p rows (zat drawn i)) = atz p told (zat drawn i) := fun i hi => Classical.byContradiction fun hne => hno ⟨i, hi, hne⟩
  have hh2 : N / 2 = h := by omega
  have hlc : (cnt' (rows.length + 1)).length = rows.length + 1 := cnt_len _
  have hev : ∀ r, atz p told r = ps (FS p (cnt' (rows.length + 1)) told (rows.length + 1)) r (rows.length + 1) % (p : Int) := fun r => by
    unfold atz
    rw [evz_pfit h3, ht, cnt_len]
  have hag := fun x => Sum.tqx_agree hp (fun k i => zat (rat rows k) i) rows.length h (FS p (cnt' (rows.length + 1)) told (rows.length + 1)) (zat drawn) (by rw [← hl]; exact hu) (fun j hj => by
    have g := hall j (by omega)
    have g2 := totz_fix (p := p) h1 hN hh2 (zat drawn j)
    rw [g, hev] at g2
    exact dvd_mod g2) x
  have hfit := fun j (hj : j < rows.length + 1) => Sum.pfit_at hp h3 (cnt' (rows.length + 1)) told (by rw [hlc]; exact cnt_unlike (by omega)) j (by rw [hlc]; exact hj)
  rw [hlc] at hfit
  have f0 := hfit 0 (by omega)
  have f1 := hfit 1 (by omega)
  rw [cnt_at (by omega), show ((0 : Nat) : Int) = 0 from rfl] at f0
  rw [cnt_at (by omega), show ((1 : Nat) : Int) = 1 from rfl] at f1
  have a0 := Int.dvd_sub (hag 0) f0
  have a1 := Int.dvd_sub (hag 1) f1
  have ha := Sum.dvd_add_sub (show (p : Int) ∣ zat told 0 - Sum.tqx (fun k i => zat (rat rows k) i) rows.length h 0 from by
      rwa [show ∀ a b c : Int, a - b - (a - c) = c - b from fun a b c => by omega] at a0)
    (show (p : Int) ∣ zat told 1 - Sum.tqx (fun k i => zat (rat rows k) i) rows.length h 1 from by
      rwa [show ∀ a b c : Int, a - b - (a - c) = c - b from fun a b c => by omega] at a1)
  rw [Sum.tqx_ends] at ha
  unfold totz
  rw [emod_eq_iff (by omega), hN 0 (by omega), hh]
  exact ha

end Go.Proofs.YtaapbopcfpihbaaDoor
