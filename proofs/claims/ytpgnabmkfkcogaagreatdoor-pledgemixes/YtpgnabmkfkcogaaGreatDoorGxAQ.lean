/- Plain facts on the tables of the reference: what is true is shown, what is not is caught. What package sums must answer; attestlaw4.plain, lives. Package sums: isTable, variables, hasPlaces, product, across, upTo, fixed. What bits.TrailingZeros answers in this program, by the library's own contract, where its table reads as its text lays it. Package sums: variables, by the table that counts last zeros. -/
import Derived.Test.YtpgnabmkfkcogaaGreatDoorGxAP
import Derived.Test.YtpgnabmkfkcogaaGreatDoorPls
import Derived.Test.YtpgnabmkfkcogaaGreatDoorFld
import Derived.Shelf.Spec.TrailingZeros
import Derived.Lib.TrailingZeros
import Derived.Test.YtpgnabmkfkcogaaGreatDoorDoms
import Derived.Test.YtpgnabmkfkcogaaGreatDoorSpgs
import Derived.StillTailTactics
import Derived.Test.YtpgnabmkfkcogaaGreatDoorProg
namespace Go.Proofs.YtpgnabmkfkcogaaGreatDoor
open Go.RowKit Pol

theorem cnt_at {n j : Nat} (h : j < n) : zat (cnt' n) j = (j : Int) := ls_at _ _ _ h
theorem cnt_unlike {p n : Nat} (h : n ≤ p) : ∀ i j, i < j → j < n → ¬ (p : Int) ∣ zat (cnt' n) j - zat (cnt' n) i := fun i j hij hj hd => by
  rw [cnt_at hj, cnt_at (by omega)] at hd
  have := Int.le_of_dvd (by omega) hd
  omega
theorem evz_pfit {p : Nat} (h3 : 3 ≤ p) (xs ys : List Int) (r : Int) : evz p (pfit p xs ys) r = ps (FS p xs ys xs.length) r xs.length % (p : Int) := evz_mk h3 _ _ _
theorem dvd_mod {p : Nat} {a b : Int} (h : (p : Int) ∣ a % (p : Int) - b) : (p : Int) ∣ a - b := by
  have := Int.dvd_sub h (emod_dvd p a)
  rwa [show a % (p : Int) - b - (a % (p : Int) - a) = a - b from by omega] at this
/-- the tables with the first variable x: their sum -/
theorem totz_fix {p N h : Nat} {rows : List (List Int)} (h1 : 1 ≤ rows.length) (hN : ∀ k, k < rows.length → (rat rows k).length = N) (hh : N / 2 = h) (x : Int) : (p : Int) ∣ totz p (fixr p rows x) - Sum.tqx (fun k i => zat (rat rows k) i) rows.length h x := by
  unfold totz
  have h0 : (rat (fixr p rows x) 0).length = h := by rw [fixr_rat (by omega), fixl_len, hN 0 (by omega), hh]
  rw [h0, fixr_len]
  have e := emod_dvd p (Dom.sm (fun i => Sum.prz (fun k => zat (rat (fixr p rows x) k) i) rows.length) h)
  have e2 : (p : Int) ∣ Dom.sm (fun i => Sum.prz (fun k => zat (rat (fixr p rows x) k) i) rows.length) h - Sum.tqx (fun k i => zat (rat rows k) i) rows.length h x := by
    unfold Sum.tqx
    refine Dom.sm_congr (fun i hi => Sum.prz_congr (fun k hk => ?_))
    rw [fixr_rat hk, fixl_at (by rw [hN k hk, hh]; exact hi), hN k hk, hh]
    exact emod_dvd p _
  have := Int.dvd_add e e2
  rwa [show ∀ a b c : Int, a - b + (b - c) = a - c from fun a b c => by omega] at this
/-- a wrong sum: whatever is told for the round, not at d + 1 unlike elements is it true what is claimed behind it -/
theorem caught {p N h : Nat} (hp : Num.Prime p) (h3 : 3 ≤ p) {rows : List (List Int)} (h1 : 1 ≤ rows.length) (hN : ∀ k, k < rows.length → (rat rows k).length = N) (hh : N = h + h) (hd : rows.length < p) {told drawn : List Int} (ht : told.length = rows.length + 1) (hl : drawn.length = rows.length + 1)
    (hu : ∀ i j, i < j → j < drawn.length → ¬ (p : Int) ∣ zat drawn j - zat drawn i) (hc : (zat told 0 + zat told 1) % (p : Int) ≠ totz p rows) : ∃ i, i < drawn.length ∧ totz p (fixr p rows (zat drawn i)) ≠ atz p told (zat drawn i) := by
  refine Classical.byContradiction fun hno => hc ?_
  have hall : ∀ i, i < drawn.length → totz p (fixr p rows (zat drawn i)) = atz p told (zat drawn i) := fun i hi => Classical.byContradiction fun hne => hno ⟨i, hi, hne⟩
  have hh2 : N / 2 = h := by omega
  have hlc : (cnt' (rows.length + 1)).length = rows.length + 1 := cnt_len _
  have hev : ∀ r, atz p told r = ps (FS p (cnt' (rows.length + 1)) told (rows.length + 1)) r (rows.length + 1) % (p : Int) := fun r => by
    unfold atz
    rw [evz_pfit h3, ht, cnt_len]
  have hag := fun x => Sum.tqx_agree hp (fun k i => zat (rat rows k) i) rows.length h (FS p (cnt' (rows.length + 1)) told (rows.length + 1)) (zat drawn) (by rw [← hl]; exact hu) (fun j hj => by
    have g := hall j (by omega)
    have g2 := totz_fix (p := p) h1 hN hh2 (zat drawn j)
    rw [g, hev] at g2
    exact dvd_mod g2) x
  have hfit := fun j (hj : j < rows.length + 1) => Sum.pfit_at hp h3 (cnt' (rows.length + 1)) told (by rw [hlc]; exact cnt_unlike (by omega)) j (by rw [hlc]; exact hj)
  rw [hlc] at hfit
  have f0 := hfit 0 (by omega)
  have f1 := hfit 1 (by omega)
  rw [cnt_at (by omega), show ((0 : Nat) : Int) = 0 from rfl] at f0
  rw [cnt_at (by omega), show ((1 : Nat) : Int) = 1 from rfl] at f1
  have a0 := Int.dvd_sub (hag 0) f0
  have a1 := Int.dvd_sub (hag 1) f1
  have ha := Sum.dvd_add_sub (show (p : Int) ∣ zat told 0 - Sum.tqx (fun k i => zat (rat rows k) i) rows.length h 0 from by
      rwa [show ∀ a b c : Int, a - b - (a - c) = c - b from fun a b c => by omega] at a0)
    (show (p : Int) ∣ zat told 1 - Sum.tqx (fun k i => zat (rat rows k) i) rows.length h 1 from by
      rwa [show ∀ a b c : Int, a - b - (a - c) = c - b from fun a b c => by omega] at a1)
  rw [Sum.tqx_ends] at ha
  unfold totz
  rw [emod_eq_iff (by omega), hN 0 (by omega), hh]
  exact ha

end Go.Proofs.YtpgnabmkfkcogaaGreatDoor

namespace Go.Proofs.YtpgnabmkfkcogaaGreatDoor
open Go.RowKit

/-- an error by its number -/
def errz (k : Int) : Value := if k = 0 then .nilIface else .iface 101 (.int .i64 k)
theorem errz_nil : errz 0 = .nilIface := rfl
theorem errz_some {k : Int} (h : k ≠ 0) : errz k = .iface 101 (.int .i64 k) := by unfold errz; rw [if_neg h]
/-- a field, and lists that may be handed in -/
structure InF (p b : Nat) (W : World) : Prop where
  pr : Num.Prime p
  h3 : 3 ≤ p
  hm : p ≤ 2147483647
  cell : W.cell? ⟨b, 0, none⟩ = some (.int .i64 p)
theorem InF.below {p b : Nat} {W W' : World} (h : InF p b W) (e : Below W.heap.size W W') : InF p b W' := ⟨h.pr, h.h3, h.hm, (e.cell (p := ⟨b, 0, none⟩) (heap_lt h.cell)).trans h.cell⟩
/-- a field, and the table by which package bits counts last zeros -/
structure InT (p b : Nat) (W : World) : Prop extends InF p b W where
  tab : TabAt 2 Lib.deBruijn64tab W
theorem tabu_below {w w' : World} (h : TabAt 2 Lib.deBruijn64tab w) (hb : Below w.heap.size w w') : TabAt 2 Lib.deBruijn64tab w' :=
  fun j hj => (hb.cell (p := ⟨2, j, none⟩) (cell_lt (h j hj))).trans (h j hj)
theorem InT.below {p b : Nat} {W W' : World} (h : InT p b W) (e : Below W.heap.size W W') : InT p b W' := ⟨h.toInF.below e, tabu_below h.tab e⟩
structure InL (W : World) (a : Option Addr) (c : Nat) (l : List Int) : Prop where
  len : l.length ≤ 17592186043904
  fit : Fits l
  lst : Lst W.heap.size W a c l
theorem InL.below {W W' : World} {a : Option Addr} {c : Nat} {l : List Int} (h : InL W a c l) (e : Below W.heap.size W W') : InL W' a c l := ⟨h.len, h.fit, (h.lst.below e).mono e.size⟩
structure InR (W : World) (a : Option Addr) (c : Nat) (rows : List (List Int)) : Prop where
  len : rows.length ≤ 5864062014634
  lens : ∀ k, k < rows.length → (rat rows k).length ≤ 17592186043904
  fit : ∀ k, k < rows.length → Fits (rat rows k)
  lst : LstR W.heap.size W a c rows
theorem InR.below {W W' : World} {a : Option Addr} {c : Nat} {rows : List (List Int)} (h : InR W a c rows) (e : Below W.heap.size W W') : InR W' a c rows := ⟨h.len, h.lens, h.fit, (h.lst.below e).mono e.size⟩

/-! what package sums must answer -/
/-- is it told so? -/
theorem told_any (k e : Int) (w : World) (hL : Laid w) : Calls Tryz.prog 11 #[errz k, .int .i64 e] w fun x w' => x = .returned (.bool (k == e)) ∧ Below w.heap.size w w' := by
  by_cases h : k = 0
  · subst h
    rw [errz_nil]
    refine (error_nil e w).mono ?_
    rintro x w' ⟨rfl, rfl⟩
    exact ⟨rfl, Below.refl _ _⟩
  · rw [errz_some h]
    exact error_hit k e w hL

end Go.Proofs.YtpgnabmkfkcogaaGreatDoor

namespace Go.Proofs.YtpgnabmkfkcogaaGreatDoor
open Go.RowKit

end Go.Proofs.YtpgnabmkfkcogaaGreatDoor

namespace Go.Proofs
open Go.Shelf
def Tryz.laysTz_ren : Go.Shelf.Ren := ⟨fun | 27 => 107 | 28 => 174 | 29 => 175 | n => n, fun | 0 => 0 | 3 => 3 | 4 => 4 | 5 => 5 | 22 => 222 | 25 => 179 | 27 => 220 | 53 => 274 | 54 => 275 | n => n, fun | 0 => 1 | 1 => 2 | n => n⟩
theorem Tryz.laysTz : Go.Proofs.Lays7.n27 Tryz.prog Tryz.laysTz_ren := {
  mixed := by kernel_rfl
  f27 := Tryz.func107.trans (congrArg some (by kernel_rfl))
  f28 := Tryz.func174.trans (congrArg some (by kernel_rfl))
  f29 := Tryz.func175.trans (congrArg some (by kernel_rfl))
  t0 := Tryz.underlying0
  a0 := Tryz.isAgg0
  z0 := Tryz.sizeOf0
  v0 := Tryz.zeroValue0
  i0 := by kernel_rfl
  t3 := Tryz.underlying3
  a3 := Tryz.isAgg3
  z3 := Tryz.sizeOf3
  v3 := Tryz.zeroValue3
  i3 := by kernel_rfl
  t4 := Tryz.underlying4
  a4 := Tryz.isAgg4
  z4 := Tryz.sizeOf4
  v4 := Tryz.zeroValue4
  i4 := by kernel_rfl
  t5 := Tryz.underlying5
  a5 := Tryz.isAgg5
  z5 := Tryz.sizeOf5
  v5 := Tryz.zeroValue5
  i5 := by kernel_rfl
  t22 := Tryz.underlying222
  a22 := Tryz.isAgg222
  z22 := Tryz.sizeOf222
  v22 := Tryz.zeroValue222
  i22 := by kernel_rfl
  t25 := Tryz.underlying179
  a25 := Tryz.isAgg179
  z25 := Tryz.sizeOf179
  v25 := Tryz.zeroValue179
  i25 := by kernel_rfl
  t27 := Tryz.underlying220
  a27 := Tryz.isAgg220
  z27 := Tryz.sizeOf220
  v27 := Tryz.zeroValue220
  i27 := by kernel_rfl
  t53 := Tryz.underlying274
  a53 := Tryz.isAgg274
  z53 := Tryz.sizeOf274
  v53 := Tryz.zeroValue274
  i53 := by kernel_rfl
  t54 := Tryz.underlying275
  a54 := Tryz.isAgg275
  z54 := Tryz.sizeOf275
  g0 := by kernel_rfl
  g1 := by kernel_rfl }
end Go.Proofs

namespace Go.Proofs.YtpgnabmkfkcogaaGreatDoor
open Go.RowKit

theorem pow_odd {S v m : Nat} (h : 2 ^ v = 2 ^ S * (2 * m + 1)) : S = v := by
  rcases Nat.lt_trichotomy S v with g | g | g
  · obtain ⟨d, rfl⟩ : ∃ d, v = S + (d + 1) := ⟨v - S - 1, by omega⟩
    rw [Nat.pow_add] at h
    have := Nat.eq_of_mul_eq_mul_left (Nat.pow_pos (by decide)) h
    rw [Nat.pow_succ] at this
    omega
  · exact g
  · obtain ⟨d, rfl⟩ : ∃ d, S = v + (d + 1) := ⟨S - v - 1, by omega⟩
    rw [Nat.pow_add, Nat.mul_assoc] at h
    have h2 : 2 ^ v * 1 = 2 ^ v * (2 ^ (d + 1) * (2 * m + 1)) := by rw [Nat.mul_one]; exact h
    have := Nat.eq_of_mul_eq_mul_left (Nat.pow_pos (by decide)) h2
    have h3 : 2 ^ (d + 1) * (2 * m + 1) % 2 = 1 := by rw [← this]
    rw [Nat.pow_succ, Nat.mul_right_comm, Nat.mul_mod_left] at h3
    omega

end Go.Proofs.YtpgnabmkfkcogaaGreatDoor
