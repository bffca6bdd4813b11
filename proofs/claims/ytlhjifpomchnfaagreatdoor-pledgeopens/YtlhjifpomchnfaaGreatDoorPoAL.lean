/- attestref4: Check. Plain facts on the tables of the reference: what is true is shown, what is not is caught. What package sums must answer; attestlaw4.plain, lives. Package sums: isTable, variables, hasPlaces, product, across, upTo, fixed. -/
import Derived.Test.YtlhjifpomchnfaaGreatDoorPoAK
import Derived.Test.YtlhjifpomchnfaaGreatDoorPls
import Derived.Test.YtlhjifpomchnfaaGreatDoorFld
import Derived.Shelf.Spec.TrailingZeros
import Derived.Lib.TrailingZeros
import Derived.Test.YtlhjifpomchnfaaGreatDoorDoms
import Derived.Test.YtlhjifpomchnfaaGreatDoorSpgs
import Derived.StillTailTactics
namespace Go.Proofs.YtlhjifpomchnfaaGreatDoor
open Go.RowKit

/-- what is claimed ahead of a round -/
def nowz (p : Nat) (claim : Int) (rounds : List (List Int)) (drawn : List Int) : Nat → Int
  | 0 => claim % (p : Int)
  | i + 1 => atz p (rat rounds i) (zat drawn i)
/-- it is shown -/
def ChkP (p : Nat) (claim d : Int) (rounds : List (List Int)) (finals drawn : List Int) : Prop :=
  1 ≤ d ∧ d ≤ 4 ∧ d < (p : Int) ∧ drawn.length ≤ 12 ∧ rounds.length = drawn.length ∧ (finals.length : Int) = d ∧ (∀ i, i < rounds.length → ((rat rounds i).length : Int) = d + 1) ∧
    (∀ i, i < rounds.length → (zat (rat rounds i) 0 + zat (rat rounds i) 1) % (p : Int) = nowz p claim rounds drawn i) ∧ Sum.prz (zat finals) finals.length % (p : Int) = nowz p claim rounds drawn rounds.length
end Go.Proofs.YtlhjifpomchnfaaGreatDoor

namespace Go.Proofs.YtlhjifpomchnfaaGreatDoor
open Go.RowKit Pol

theorem cnt_at {n j : Nat} (h : j < n) : zat (cnt' n) j = (j : Int) := ls_at _ _ _ h
theorem cnt_unlike {p n : Nat} (h : n ≤ p) : ∀ i j, i < j → j < n → ¬ (p : Int) ∣ zat (cnt' n) j - zat (cnt' n) i := fun i j hij hj hd => by
  rw [cnt_at hj, cnt_at (by omega)] at hd
  have := Int.le_of_dvd (by omega) hd
  omega
theorem evz_pfit {p : Nat} (h3 : 3 ≤ p) (xs ys : List Int) (r : Int) : evz p (pfit p xs ys) r = ps (FS p xs ys xs.length) r xs.length % (p : Int) := evz_mk h3 _ _ _
theorem dvd_mod {p : Nat} {a b : Int} (h : (p : Int) ∣ a % (p : Int) - b) : (p : Int) ∣ a - b := by
  have := Int.dvd_sub h (emod_dvd p a)
  rwa [show a % (p : Int) - b - (a % (p : Int) - a) = a - b from by omega] at this
/-- the tables with the first variable x: their sum -/
theorem totz_fix {p N h : Nat} {rows : List (List Int)} (h1 : 1 ≤ rows.length) (hN : ∀ k, k < rows.length → (rat rows k).length = N) (hh : N / 2 = h) (x : Int) : (p : Int) ∣ totz p (fixr p rows x) - Sum.tqx (fun k i => zat (rat rows k) i) rows.length h x := by
  unfold totz
  have h0 : (rat (fixr p rows x) 0).length = h := by rw [fixr_rat (by omega), fixl_len, hN 0 (by omega), hh]
  rw [h0, fixr_len]
  have e := emod_dvd p (Dom.sm (fun i => Sum.prz (fun k => zat (rat (fixr p rows x) k) i) rows.length) h)
  have e2 : (p : Int) ∣ Dom.sm (fun i => Sum.prz (fun k => zat (rat (fixr p rows x) k) i) rows.length) h - Sum.tqx (fun k i => zat (rat rows k) i) rows.length h x := by
    unfold Sum.tqx
    refine Dom.sm_congr (fun i hi => Sum.prz_congr (fun k hk => ?_))
    rw [fixr_rat hk, fixl_at (by rw [hN k hk, hh]; exact hi), hN k hk, hh]
    exact emod_dvd p _
  have := Int.dvd_add e e2
  rwa [show ∀ a b c : Int, a - b + (b - c) = a - c from fun a b c => by omega] at this
/-- at 0 and at 1 a Round has the sum -/
theorem rnd_ends {p h : Nat} (h3 : 3 ≤ p) {rows : List (List Int)} (h1 : 1 ≤ rows.length) (hN : ∀ k, k < rows.length → (rat rows k).length = h + h) : (zat (rndl p rows) 0 + zat (rndl p rows) 1) % (p : Int) = totz p rows := by
  have e0 : zat (rndl p rows) 0 = totz p (fixr p rows 0) := by unfold rndl; rw [ls_at _ _ _ (by omega)]; rfl
  have e1 : zat (rndl p rows) 1 = totz p (fixr p rows 1) := by unfold rndl; rw [ls_at _ _ _ (by omega)]; rfl
  have g0 := totz_fix (p := p) h1 hN (show (h + h) / 2 = h by omega) 0
  have g1 := totz_fix (p := p) h1 hN (show (h + h) / 2 = h by omega) 1
  have g := Sum.dvd_add_sub g0 g1
  rw [Sum.tqx_ends] at g
  rw [e0, e1]
  unfold totz at g ⊢
  rw [emod_eq_iff (by omega), hN 0 (by omega)]
  exact g
/-- a Round's polynomial is what the sum is -/
theorem atz_rnd {p N h : Nat} (hp : Num.Prime p) (h3 : 3 ≤ p) {rows : List (List Int)} (h1 : 1 ≤ rows.length) (hN : ∀ k, k < rows.length → (rat rows k).length = N) (hh : N / 2 = h) (hd : rows.length < p) (r : Int) : atz p (rndl p rows) r = totz p (fixr p rows r) := by
  unfold atz
  rw [evz_pfit h3, rndl_len, cnt_len]
  have hl : (cnt' (rows.length + 1)).length = rows.length + 1 := cnt_len _
  have hfit := fun j (hj : j < rows.length + 1) => Sum.pfit_at hp h3 (cnt' (rows.length + 1)) (rndl p rows) (by rw [hl]; exact cnt_unlike (by omega)) j (by rw [hl]; exact hj)
  rw [hl] at hfit
  have hag := Sum.tqx_agree hp (fun k i => zat (rat rows k) i) rows.length h (FS p (cnt' (rows.length + 1)) (rndl p rows) (rows.length + 1)) (zat (cnt' (rows.length + 1))) (cnt_unlike (by omega)) (fun j hj => by
    have g := hfit j hj
    have e : zat (rndl p rows) j = totz p (fixr p rows (j : Int)) := by unfold rndl; rw [ls_at _ _ _ hj]
    rw [e] at g
    have g2 := totz_fix (p := p) h1 hN hh (j : Int)
    have := Int.dvd_add g g2
    rw [cnt_at hj] at this ⊢
    rwa [show ∀ a b c : Int, a - b + (b - c) = a - c from fun a b c => by omega] at this) r
  have g3 := totz_fix (p := p) h1 hN hh r
  have g4 := Int.dvd_sub hag g3
  rw [show ∀ a b c : Int, a - b - (c - b) = a - c from fun a b c => by omega] at g4
  have hb := totz_bounds p (fixr p rows r) h3
  have := (emod_eq_iff (a := ps (FS p (cnt' (rows.length + 1)) (rndl p rows) (rows.length + 1)) r (rows.length + 1)) (b := totz p (fixr p rows r)) (show 0 < p by omega)).2 g4
  rw [this, Int.emod_eq_of_lt hb.1 hb.2]
/-- a wrong sum: whatever is told for the round, not at d + 1 unlike elements is it true what is claimed behind it -/
theorem caught {p N h : Nat} (hp : Num.Prime p) (h3 : 3 ≤ p) {rows : List (List Int)} (h1 : 1 ≤ rows.length) (hN : ∀ k, k < rows.length → (rat rows k).length = N) (hh : N = h + h) (hd : rows.length < p) {told drawn : List Int} (ht : told.length = rows.length + 1) (hl : drawn.length = rows.length + 1)
    (hu : ∀ i j, i < j → j < drawn.length → ¬ (p : Int) ∣ zat drawn j - zat drawn i) (hc : (zat told 0 + zat told 1) % (p : Int) ≠ totz p rows) : ∃ i, i < drawn.length ∧ totz p (fixr p rows (zat drawn i)) ≠ atz p told (zat drawn i) := by
  refine Classical.byContradiction fun hno => hc ?_
  have hall : ∀ i, i < drawn.length → totz p (fixr p rows (zat drawn i)) = atz p told (zat drawn i) := fun i hi => Classical.byContradiction fun hne => hno ⟨i, hi, hne⟩
  have hh2 : N / 2 = h := by omega
  have hlc : (cnt' (rows.length + 1)).length = rows.length + 1 := cnt_len _
  have hev : ∀ r, atz p told r = ps (FS p (cnt' (rows.length + 1)) told (rows.length + 1)) r (rows.length + 1) % (p : Int) := fun r => by
    unfold atz
    rw [evz_pfit h3, ht, cnt_len]
  have hag := fun x => Sum.tqx_agree hp (fun k i => zat (rat rows k) i) rows.length h (FS p (cnt' (rows.length + 1)) told (rows.length + 1)) (zat drawn) (by rw [← hl]; exact hu) (fun j hj => by
    have g := hall j (by omega)
    have g2 := totz_fix (p := p) h1 hN hh2 (zat drawn j)
    rw [g, hev] at g2
    exact dvd_mod g2) x
  have hfit := fun j (hj : j < rows.length + 1) => Sum.pfit_at hp h3 (cnt' (rows.length + 1)) told (by rw [hlc]; exact cnt_unlike (by omega)) j (by rw [hlc]; exact hj)
  rw [hlc] at hfit
  have f0 := hfit 0 (by omega)
  have f1 := hfit 1 (by omega)
  rw [cnt_at (by omega), show ((0 : Nat) : Int) = 0 from rfl] at f0
  rw [cnt_at (by omega), show ((1 : Nat) : Int) = 1 from rfl] at f1
  have a0 := Int.dvd_sub (hag 0) f0
  have a1 := Int.dvd_sub (hag 1) f1
  have ha := Sum.dvd_add_sub (show (p : Int) ∣ zat told 0 - Sum.tqx (fun k i => zat (rat rows k) i) rows.length h 0 from by
      rwa [show ∀ a b c : Int, a - b - (a - c) = c - b from fun a b c => by omega] at a0)
    (show (p : Int) ∣ zat told 1 - Sum.tqx (fun k i => zat (rat rows k) i) rows.length h 1 from by
      rwa [show ∀ a b c : Int, a - b - (a - c) = c - b from fun a b c => by omega] at a1)
  rw [Sum.tqx_ends] at ha
  unfold totz
  rw [emod_eq_iff (by omega), hN 0 (by omega), hh]
  exact ha

end Go.Proofs.YtlhjifpomchnfaaGreatDoor

namespace Go.Proofs.YtlhjifpomchnfaaGreatDoor
open Go.RowKit

/-- an error by its number -/
def errz (k : Int) : Value := if k = 0 then .nilIface else .iface 90 (.int .i64 k)
theorem errz_nil : errz 0 = .nilIface := rfl
theorem errz_some {k : Int} (h : k ≠ 0) : errz k = .iface 90 (.int .i64 k) := by unfold errz; rw [if_neg h]
/-- Extend: what is wrong; what it gives -/
def exe (t at' : List Int) : Int := if vrs t.length = (at'.length : Int) then 0 else 2
def exz (p : Nat) (t at' : List Int) : Int := if vrs t.length = (at'.length : Int) then Sum.ext (zat t) (zat at') at'.length % (p : Int) else 0
/-- the tables behind some draws -/
def tbs (p : Nat) (rows : List (List Int)) (drawn : List Int) : Nat → List (List Int)
  | 0 => rows
  | i + 1 => fixr p (tbs p rows drawn i) (zat drawn i)
/-- Make -/
def mke (p : Nat) (rows : List (List Int)) (drawn : List Int) : Int := if ovr rows = (drawn.length : Int) then (if rows.length < p then 0 else 3) else 2
def mkR (p : Nat) (rows : List (List Int)) (drawn : List Int) : List (List Int) := if mke p rows drawn = 0 then (List.range drawn.length).map (fun i => rndl p (tbs p rows drawn i)) else []
def mkF (p : Nat) (rows : List (List Int)) (drawn : List Int) : List Int := if mke p rows drawn = 0 then ls (fun k => zat (rat (tbs p rows drawn drawn.length) k) 0 % (p : Int)) rows.length else []

/-- a field, and lists that may be handed in -/
structure InF (p b : Nat) (W : World) : Prop where
  pr : Num.Prime p
  h3 : 3 ≤ p
  hm : p ≤ 2147483647
  cell : W.cell? ⟨b, 0, none⟩ = some (.int .i64 p)
theorem InF.below {p b : Nat} {W W' : World} (h : InF p b W) (e : Below W.heap.size W W') : InF p b W' := ⟨h.pr, h.h3, h.hm, (e.cell (p := ⟨b, 0, none⟩) (heap_lt h.cell)).trans h.cell⟩
/-- a field, and the table by which package bits counts last zeros -/
structure InT (p b : Nat) (W : World) : Prop extends InF p b W where
  tab : TabAt 2 Lib.deBruijn64tab W
theorem tabu_below {w w' : World} (h : TabAt 2 Lib.deBruijn64tab w) (hb : Below w.heap.size w w') : TabAt 2 Lib.deBruijn64tab w' :=
  fun j hj => (hb.cell (p := ⟨2, j, none⟩) (cell_lt (h j hj))).trans (h j hj)
theorem InT.below {p b : Nat} {W W' : World} (h : InT p b W) (e : Below W.heap.size W W') : InT p b W' := ⟨h.toInF.below e, tabu_below h.tab e⟩
structure InL (W : World) (a : Option Addr) (c : Nat) (l : List Int) : Prop where
  len : l.length ≤ 17592186043904
  fit : Fits l
  lst : Lst W.heap.size W a c l
theorem InL.below {W W' : World} {a : Option Addr} {c : Nat} {l : List Int} (h : InL W a c l) (e : Below W.heap.size W W') : InL W' a c l := ⟨h.len, h.fit, (h.lst.below e).mono e.size⟩
structure InR (W : World) (a : Option Addr) (c : Nat) (rows : List (List Int)) : Prop where
  len : rows.length ≤ 5864062014634
  lens : ∀ k, k < rows.length → (rat rows k).length ≤ 17592186043904
  fit : ∀ k, k < rows.length → Fits (rat rows k)
  lst : LstR W.heap.size W a c rows
theorem InR.below {W W' : World} {a : Option Addr} {c : Nat} {rows : List (List Int)} (h : InR W a c rows) (e : Below W.heap.size W W') : InR W' a c rows := ⟨h.len, h.lens, h.fit, (h.lst.below e).mono e.size⟩

/-! what package sums must answer -/
def ExtAs : Prop := ∀ (p b c1 c2 : Nat) (a1 a2 : Option Addr) (t at' : List Int) (W : World), InT p b W → InL W a1 c1 t → InL W a2 c2 at' →
    Calls Tryz.prog 18 #[.pointer (some ⟨b, 0, none⟩), .slice a1 t.length c1, .slice a2 at'.length c2] W fun e w' => e = .returned (.tuple #[.int .i64 (exz p t at'), errz (exe t at')]) ∧ Below W.heap.size W w'
/-- is it told so? -/
theorem told_any (k e : Int) (w : World) (hL : Laid w) : Calls Tryz.prog 11 #[errz k, .int .i64 e] w fun x w' => x = .returned (.bool (k == e)) ∧ Below w.heap.size w w' := by
  by_cases h : k = 0
  · subst h
    rw [errz_nil]
    refine (error_nil e w).mono ?_
    rintro x w' ⟨rfl, rfl⟩
    exact ⟨rfl, Below.refl _ _⟩
  · rw [errz_some h]
    exact error_hit k e w hL

end Go.Proofs.YtlhjifpomchnfaaGreatDoor

namespace Go.Proofs.YtlhjifpomchnfaaGreatDoor
open Go.RowKit

theorem vrs_iff (n : Nat) : 0 ≤ vrs n ↔ ∃ v : Nat, v ≤ 12 ∧ n = 2 ^ v := by
  constructor
  · intro h
    obtain ⟨v, h1, h2, _⟩ := vrs_of h
    exact ⟨v, h1, h2⟩
  · rintro ⟨v, h1, h2⟩
    rw [vrs_yes h1 h2]
    omega
theorem pow_12 {v : Nat} (h : v ≤ 12) : 2 ^ v ≤ 4096 := by
  have : 2 ^ v ≤ 2 ^ 12 := Nat.pow_le_pow_right (by omega) h
  omega

set_option maxRecDepth 100000 in
theorem istable_any (n cap : Nat) (a : Option Addr) (w : World) (hn : n ≤ 281474976710656) :
    Calls Tryz.prog 59 #[.slice a n cap] w fun e w' => e = .returned (.bool (decide (0 ≤ vrs n))) ∧ w' = w := by
  by_cases h1 : n ≤ 4096
  · have HO := hid (ones_any n w (by omega))
    have h2 : (n : Int) ≤ 4096 := by omega
    have HB : Hid ((((pnz n : Nat) : Int) == 1) = decide (0 ≤ vrs n)) := by
      unfold Hid
      rw [Bool.eq_iff_iff, beq_iff_eq, decide_eq_true_eq, vrs_iff]
      constructor
      · intro h
        obtain ⟨k, hk, rfl⟩ := (pnz_one (n := n) (by omega)).1 (by omega)
        refine ⟨k, ?_, rfl⟩
        rcases Nat.lt_or_ge 12 k with g | g
        · have : 2 ^ 13 ≤ 2 ^ k := Nat.pow_le_pow_right (by omega) g
          omega
        · exact g
      · rintro ⟨v, hv, rfl⟩
        rw [(pnz_one (by omega)).2 ⟨v, by omega, rfl⟩]
        rfl
    generalize pnz n = z at *
    generalize decide (0 ≤ vrs n) = B at *
    go_enter Tryz.func59, Tryz.ntmps59
    go_wp2_with fail
    refine HO.out.mono ?_
    rintro e w1 ⟨rfl, rfl⟩
    go_wp2_with fail
    go_ret
    exact ⟨by rw [← HB.out]; rfl, rfl⟩
  · have h2 : ¬ (n : Int) ≤ 4096 := by omega
    have HB : decide (0 ≤ vrs n) = false := by
      rw [decide_eq_false_iff_not, vrs_iff]
      rintro ⟨v, hv, rfl⟩
      have := pow_12 hv
      omega
    rw [HB]
    clear HB
    go_enter Tryz.func59, Tryz.ntmps59
    go_wp2_with fail
    go_ret
    exact ⟨rfl, rfl⟩

set_option maxRecDepth 100000 in
set_option maxHeartbeats 2000000 in
theorem fixed_any (p b c1 : Nat) (a1 : Option Addr) (t : List Int) (r : Int) (w : World) (n1 : Nat) (h3 : 3 ≤ p) (hm : p ≤ 2147483647) (hp : w.cell? ⟨b, 0, none⟩ = some (.int .i64 p)) (hl : t.length ≤ 17592186043904) (hf1 : Fits t) (hr1 : -9223372036854775808 ≤ r) (hr2 : r ≤ 9223372036854775807) (hrow : RowB n1 w a1 t) (hn1 : n1 ≤ w.heap.size) :
    Calls Tryz.prog 61 #[.pointer (some ⟨b, 0, none⟩), .slice a1 t.length c1, .int .i64 r] w fun e w' => e = .returned (.slice (some ⟨w.heap.size, 0, none⟩) (t.length / 2) (t.length / 2)) ∧ ArrI w' w.heap.size 3 (t.length / 2) (zat (fixl p t r)) ∧ Below w.heap.size w w' := by
  have HF1 := hid hf1
  have HR1 := hid hrow
  have HP := hid hp
  have hbl : b < w.heap.size := heap_lt hp
  obtain ⟨N, hN⟩ : ∃ N, N = t.length := ⟨_, rfl⟩
  obtain ⟨h, hh⟩ : ∃ h, h = N / 2 := ⟨_, rfl⟩
  have q1 : IntKind.i64.wrap ((N : Int).tdiv 2) = (h : Int) := by
    rw [Int.tdiv_eq_ediv_of_nonneg (by omega), IntKind.wrap_i64]
    omega
  have q0 : (N : Int) / 2 = (h : Int) := by omega
  have q2 : IntKind.i64.wrap (h : Int) = (h : Int) := by rw [IntKind.wrap_i64]; omega
  have hhN : h + h ≤ N := by omega
  rw [← hN] at hl ⊢
  rw [← hh]
  have HN := hid hN
  have HH : Hid (h = t.length / 2) := by unfold Hid; rw [hh, hN]
  obtain ⟨G, hG⟩ : ∃ G : Nat → Int, G = zat (fixl p t r) := ⟨_, rfl⟩
  rw [← hG]
  have HG : Hid (∀ i, i < h → G i = (zat t i * (1 - r) + zat t (i + h) * r) % (p : Int)) := fun i hi => by rw [hG, HH.out]; exact fixl_at (by rw [← HH.out]; exact hi)
  have hmx : Tryz.prog.follows .mixedOrders = true := by kernel_rfl
  clear hf1 hrow hN hh hG hp
  have hmk2 := fun w => run_make_row' (P := Tryz.prog) 22 3 (.int .i64 0) 8 Tryz.underlying22 Tryz.infoInt rfl .i64 .i64 h (by omega) (by omega) w
  go_enter Tryz.func61, Tryz.ntmps61
  go_wp2_with fail
  go_loopw [17] (fun iv wr => ∃ k : Nat, k ≤ h ∧ iv = .int .i64 k ∧ Hid (ArrI wr w.heap.size 3 h (fll G (fun _ => 0) k) ∧ Below w.heap.size w wr)) (fun iv _ => h - (intOf iv).toNat)
  case atStart => exact ⟨0, by omega, rfl, by rw [fll_zero]; exact World.rowIs_made _ _ _ _, (Below.refl _ _).alloc (Nat.le_refl _) _⟩
  case round =>
    obtain ⟨k, hk, rfl, hI⟩ := hrel
    by_cases hlt : k < h
    · have hlt2 : (k : Int) < (h : Int) := by omega
      have hkN : (k : Int) < (N : Int) := by omega
      have hks : IntKind.i64.wrap ((k : Int) + 1) = (k : Int) + 1 := by rw [IntKind.wrap_i64]; omega
      obtain ⟨bt, ot, rfl, hb, hc⟩ := HR1.out k (by rw [← HN.out]; omega)
      obtain ⟨_, _, e1, _, hd⟩ := HR1.out (k + h) (by rw [← HN.out]; omega)
      cases e1
      have hc2 := (hI.out.2.cell (p := ⟨bt, ot + k, none⟩) (show bt < w.heap.size by omega)).trans hc
      have hd2 := (hI.out.2.cell (p := ⟨bt, ot + (k + h), none⟩) (show bt < w.heap.size by omega)).trans hd
      have hpc := (hI.out.2.cell (p := ⟨b, 0, none⟩) hbl).trans HP.out
      obtain ⟨f1, f2⟩ := HF1.out.all k
      obtain ⟨g1, g2⟩ := HF1.out.all (k + h)
      have HGk : Hid (G k = (zat t k * (1 - r) + zat t (k + h) * r) % (p : Int)) := HG.out k hlt
      obtain ⟨kh, hkh⟩ : ∃ kh, kh = k + h := ⟨_, rfl⟩
      have k1 : IntKind.i64.wrap ((h : Int) + (k : Int)) = (kh : Int) := by rw [IntKind.wrap_i64]; omega
      have k0 : (h : Int) + (k : Int) = (kh : Int) := by omega
      have k3 : IntKind.i64.wrap (kh : Int) = (kh : Int) := by rw [IntKind.wrap_i64]; omega
      have k2 : (kh : Int) < (N : Int) := by omega
      rw [← hkh] at hd2 g1 g2 HGk
      generalize zat t k = x at *
      generalize zat t kh = y at *
      have HSU := hid (sub_any p b y x wr.drew h3 hm hpc g1 g2 f1 f2)
      obtain ⟨m1, m2⟩ := emod_bounds (y - x) p h3
      have HSD := hid (dvd_self_mod p (y - x))
      generalize (y - x) % (p : Int) = sm' at *
      have HMU := hid (mul_any p b r sm' wr.drew h3 hm hpc hr1 hr2 (by omega) (by omega))
      obtain ⟨m3, m4⟩ := emod_bounds (r * sm') p h3
      have HMD := hid (dvd_self_mod p (r * sm'))
      generalize r * sm' % (p : Int) = mm at *
      have HAD := hid (add_any p b x mm wr.drew h3 hm hpc f1 f2 (by omega) (by omega))
      have HS : Hid ((x + mm) % (p : Int) = G k) := by
        unfold Hid
        rw [HGk.out, Pol.emod_eq_iff (by omega)]
        have e2 := Int.dvd_mul_of_dvd_right (b := r) HSD.out
        have e3 := Int.dvd_add HMD.out e2
        rwa [show mm - r * sm' + r * (sm' - (y - x)) = x + mm - (x * (1 - r) + y * r) from by grind] at e3
      rw [HS.out] at HAD
      have c1 := hI.out.1.cell hlt
      have y1 := hI.out.1.frozen k
      have HE : Hid (ArrI (wr.setCell ⟨w.heap.size, k, none⟩ (.int .i64 (G k))).drew w.heap.size 3 h (fll G (fun _ => 0) (k + 1)) ∧ Below w.heap.size w (wr.setCell ⟨w.heap.size, k, none⟩ (.int .i64 (G k))).drew) := ⟨hI.out.1.next, (hI.out.2.setCell (p := ⟨w.heap.size, k, none⟩) (by simp) _).drew⟩
      generalize G k = z at *
      generalize fll G (fun _ => 0) k k = y0 at *
      clear hI hc hd hkh HGk HS HSD HMD hb hpc
      go_wp2_with fail
      go_still_tail 24, hmx
      still_call HSU.out
      repeat still_step
      still_call HMU.out
      repeat still_step
      still_call HAD.out
      repeat still_step
      refine wpStill_nil ?_
      go_wp2_with fail
      go_roundw
      case rel => exact ⟨k + 1, by omega, by go_num, HE⟩
      case measure => simp [intOf]; omega
    · obtain rfl : k = h := by omega
      have hlt2 : ¬ (k : Int) < (k : Int) := by omega
      have HE : Hid (ArrI wr w.heap.size 3 k G ∧ Below w.heap.size w wr) := ⟨hI.out.1.congr (fun j hj => fll_all hj), hI.out.2⟩
      clear hI
      go_wp2_with fail
      go_ret
      exact ⟨rfl, HE.out⟩

end Go.Proofs.YtlhjifpomchnfaaGreatDoor
