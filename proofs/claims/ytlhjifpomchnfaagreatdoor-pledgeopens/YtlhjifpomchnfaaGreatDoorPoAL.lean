
import Derived.Test.YtlhjifpomchnfaaGreatDoorPoAK
import Derived.Test.YtlhjifpomchnfaaGreatDoorPls
import Derived.Test.YtlhjifpomchnfaaGreatDoorFld
import Derived.Shelf.Spec.TrailingZeros
import Derived.Lib.TrailingZeros
import Derived.Test.YtlhjifpomchnfaaGreatDoorDoms
import Derived.Test.YtlhjifpomchnfaaGreatDoorSpgs
import Derived.StillTailTactics
set_option maxRecDepth 1000000
set_option maxHeartbeats 8000000
namespace Go.Proofs.YtlhjifpomchnfaaGreatDoor
open Go.RowKit
open Go.RowKit Pol
def errz (k : Int) : Value := if k = 0 then .nilIface else .iface 90 (.int .i64 k)
theorem errz_nil : errz 0 = .nilIface := rfl
theorem errz_some {k : Int} (h : k ≠ 0) : errz k = .iface 90 (.int .i64 k) := by unfold errz; rw [if_neg h]
def exe (t at' : List Int) : Int := if vrs t.length = (at'.length : Int) then 0 else 2
def exz (p : Nat) (t at' : List Int) : Int := if vrs t.length = (at'.length : Int) then Sum.ext (zat t) (zat at') at'.length % (p : Int) else 0
def tbs (p : Nat) (rows : List (List Int)) (drawn : List Int) : Nat -> List (List Int)
 | 0 => rows
 | i + 1 => fixr p (tbs p rows drawn i) (zat drawn i)
def mke (p : Nat) (rows : List (List Int)) (drawn : List Int) : Int := if ovr rows = (drawn.length : Int) then (if rows.length < p then 0 else 3) else 2
def mkF (p : Nat) (rows : List (List Int)) (drawn : List Int) : List Int := if mke p rows drawn = 0 then ls (fun k => zat (rat (tbs p rows drawn drawn.length) k) 0 % (p : Int)) rows.length else []
structure InF (p b : Nat) (W : World) : Prop where
 pr : Num.Prime p
 h3 : 3 <= p
 hm : p <= 2147483647
 cell : W.cell? ⟨b, 0, none⟩ = some (.int .i64 p)
theorem InF.below {p b : Nat} {W W' : World} (h : InF p b W) (e : Below W.heap.size W W') : InF p b W' := ⟨h.pr, h.h3, h.hm, (e.cell (p := ⟨b, 0, none⟩) (heap_lt h.cell)).trans h.cell⟩
structure InT (p b : Nat) (W : World) : Prop extends InF p b W where
 tab : TabAt 2 Lib.deBruijn64tab W
theorem tabu_below {w w' : World} (h : TabAt 2 Lib.deBruijn64tab w) (hb : Below w.heap.size w w') : TabAt 2 Lib.deBruijn64tab w' :=
 fun j hj => (hb.cell (p := ⟨2, j, none⟩) (cell_lt (h j hj))).trans (h j hj)
structure InL (W : World) (a : Option Addr) (c : Nat) (l : List Int) : Prop where
 len : l.length <= 17592186043904
 fit : Fits l
 lst : Lst W.heap.size W a c l
def ExtAs : Prop := ∀ (p b c1 c2 : Nat) (a1 a2 : Option Addr) (t at' : List Int) (W : World), InT p b W -> InL W a1 c1 t -> InL W a2 c2 at' ->
  Calls Tryz.prog 18 #[.pointer (some ⟨b, 0, none⟩), .slice a1 t.length c1, .slice a2 at'.length c2] W fun e w' => e = .returned (.tuple #[.int .i64 (exz p t at'), errz (exe t at')]) /\ Below W.heap.size W w'
theorem told_any (k e : Int) (w : World) (hL : Laid w) : Calls Tryz.prog 11 #[errz k, .int .i64 e] w fun x w' => x = .returned (.bool (k == e)) /\ Below w.heap.size w w' := by
 by_cases h : k = 0
 ·subst h
  rw [errz_nil]
  refine (error_nil e w).mono ?_
  rintro x w' ⟨rfl, rfl⟩
  exact ⟨rfl, Below.refl _ _⟩
 ·rw [errz_some h]
  exact error_hit k e w hL
theorem vrs_iff (n : Nat) : 0 <= vrs n ↔ ∃ v : Nat, v <= 12 /\ n = 2 ^ v := by
 constructor
 ·intro h
  obtain ⟨v, h1, h2, _⟩ := vrs_of h
  exact ⟨v, h1, h2⟩
 ·rintro ⟨v, h1, h2⟩
  rw [vrs_yes h1 h2]
  omega
theorem pow_12 {v : Nat} (h : v <= 12) : 2 ^ v <= 4096 := by
 have : 2 ^ v <= 2 ^ 12 := Nat.pow_le_pow_right (by omega) h
 omega
theorem istable_any (n cap : Nat) (a : Option Addr) (w : World) (hn : n <= 281474976710656) :
  Calls Tryz.prog 59 #[.slice a n cap] w fun e w' => e = .returned (.bool (decide (0 <= vrs n))) /\ w' = w := by
 by_cases h1 : n <= 4096
 ·have HO := hid (ones_any n w (by omega))
  have h2 : (n : Int) <= 4096 := by omega
  have HB : Hid ((((pnz n : Nat) : Int) == 1) = decide (0 <= vrs n)) := by
   unfold Hid
   rw [Bool.eq_iff_iff, beq_iff_eq, decide_eq_true_eq, vrs_iff]
   constructor
   ·intro h
    obtain ⟨k, hk, rfl⟩ := (pnz_one (n := n) (by omega)).1 (by omega)
    refine ⟨k, ?_, rfl⟩
    rcases Nat.lt_or_ge 12 k with g | g
    ·have : 2 ^ 13 <= 2 ^ k := Nat.pow_le_pow_right (by omega) g
     omega
    ·exact g
   ·rintro ⟨v, hv, rfl⟩
    rw [(pnz_one (by omega)).2 ⟨v, by omega, rfl⟩]
    rfl
  generalize pnz n = z at *
  generalize decide (0 <= vrs n) = B at *
  go_enter Tryz.func59, Tryz.ntmps59
  go_wp2_with fail
  refine HO.out.mono ?_
  rintro e w1 ⟨rfl, rfl⟩
  go_wp2_with fail
  go_ret
  exact ⟨by rw [<- HB.out]; rfl, rfl⟩
 ·have h2 : ¬ (n : Int) <= 4096 := by omega
  have HB : decide (0 <= vrs n) = false := by
   rw [decide_eq_false_iff_not, vrs_iff]
   rintro ⟨v, hv, rfl⟩
   have := pow_12 hv
   omega
  rw [HB]
  clear HB
  go_enter Tryz.func59, Tryz.ntmps59
  go_wp2_with fail
  go_ret
  exact ⟨rfl, rfl⟩
theorem fixed_any (p b c1 : Nat) (a1 : Option Addr) (t : List Int) (r : Int) (w : World) (n1 : Nat) (h3 : 3 <= p) (hm : p <= 2147483647) (hp : w.cell? ⟨b, 0, none⟩ = some (.int .i64 p)) (hl : t.length <= 17592186043904) (hf1 : Fits t) (hr1 : -9223372036854775808 <= r) (hr2 : r <= 9223372036854775807) (hrow : RowB n1 w a1 t) (hn1 : n1 <= w.heap.size) :
  Calls Tryz.prog 61 #[.pointer (some ⟨b, 0, none⟩), .slice a1 t.length c1, .int .i64 r] w fun e w' => e = .returned (.slice (some ⟨w.heap.size, 0, none⟩) (t.length / 2) (t.length / 2)) /\ ArrI w' w.heap.size 3 (t.length / 2) (zat (fixl p t r)) /\ Below w.heap.size w w' := by
 have HF1 := hid hf1
 have HR1 := hid hrow
 have HP := hid hp
 have hbl : b < w.heap.size := heap_lt hp
 obtain ⟨N, hN⟩ := exE (t.length)
 obtain ⟨h, hh⟩ := exE (N / 2)
 have q1 : IntKind.i64.wrap ((N : Int).tdiv 2) = (h : Int) := by
  rw [Int.tdiv_eq_ediv_of_nonneg (by omega), IntKind.wrap_i64]
  omega
 have q0 : (N : Int) / 2 = (h : Int) := by omega
 have q2 : IntKind.i64.wrap (h : Int) = (h : Int) := by rw [IntKind.wrap_i64]; omega
 have hhN : h + h <= N := by omega
 rw [<- hN] at hl ⊢
 rw [<- hh]
 have HN := hid hN
 have HH : Hid (h = t.length / 2) := by unfold Hid; rw [hh, hN]
 obtain ⟨G, hG⟩ : ∃ G : Nat -> Int, G = zat (fixl p t r) := ⟨_, rfl⟩
 rw [<- hG]
 have HG : Hid (∀ i, i < h -> G i = (zat t i * (1 - r) + zat t (i + h) * r) % (p : Int)) := fun i hi => by rw [hG, HH.out]; exact fixl_at (by rw [<- HH.out]; exact hi)
 have hmx : Tryz.prog.follows .mixedOrders = true := by kernel_rfl
 clear hf1 hrow hN hh hG hp
 have hmk2 := fun w => run_make_row' (P := Tryz.prog) 22 3 (.int .i64 0) 8 Tryz.underlying22 Tryz.infoInt rfl .i64 .i64 h (by omega) (by omega) w
 go_enter Tryz.func61, Tryz.ntmps61
 go_wp2_with fail
 go_loopw [17] (fun iv wr => ∃ k : Nat, k <= h /\ iv = .int .i64 k /\ Hid (ArrI wr w.heap.size 3 h (fll G (fun _ => 0) k) /\ Below w.heap.size w wr)) (fun iv _ => h - (intOf iv).toNat)
 case atStart => exact ⟨0, by omega, rfl, by rw [fll_zero]; exact World.rowIs_made _ _ _ _, (Below.refl _ _).alloc (Nat.le_refl _) _⟩
 case round =>
  obtain ⟨k, hk, rfl, hI⟩ := hrel
  by_cases hlt : k < h
  ·have hlt2 : (k : Int) < (h : Int) := by omega
   have hkN : (k : Int) < (N : Int) := by omega
   have hks : IntKind.i64.wrap ((k : Int) + 1) = (k : Int) + 1 := by rw [IntKind.wrap_i64]; omega
   obtain ⟨bt, ot, rfl, hb, hc⟩ := HR1.out k (by rw [<- HN.out]; omega)
   obtain ⟨_, _, e1, _, hd⟩ := HR1.out (k + h) (by rw [<- HN.out]; omega)
   cases e1
   have hc2 := (hI.out.2.cell (p := ⟨bt, ot + k, none⟩) (show bt < w.heap.size by omega)).trans hc
   have hd2 := (hI.out.2.cell (p := ⟨bt, ot + (k + h), none⟩) (show bt < w.heap.size by omega)).trans hd
   have hpc := (hI.out.2.cell (p := ⟨b, 0, none⟩) hbl).trans HP.out
   obtain ⟨f1, f2⟩ := HF1.out.all k
   obtain ⟨g1, g2⟩ := HF1.out.all (k + h)
   have HGk : Hid (G k = (zat t k * (1 - r) + zat t (k + h) * r) % (p : Int)) := HG.out k hlt
   obtain ⟨kh, hkh⟩ := exE (k + h)
   have k1 : IntKind.i64.wrap ((h : Int) + (k : Int)) = (kh : Int) := by rw [IntKind.wrap_i64]; omega
   have k0 : (h : Int) + (k : Int) = (kh : Int) := by omega
   have k3 : IntKind.i64.wrap (kh : Int) = (kh : Int) := by rw [IntKind.wrap_i64]; omega
   have k2 : (kh : Int) < (N : Int) := by omega
   rw [<- hkh] at hd2 g1 g2 HGk
   generalize zat t k = x at *
   generalize zat t kh = y at *
   have HSU := hid (sub_any p b y x wr.drew h3 hm hpc g1 g2 f1 f2)
   obtain ⟨m1, m2⟩ := emod_bounds (y - x) p h3
   have HSD := hid (dvd_self_mod p (y - x))
   generalize (y - x) % (p : Int) = sm' at *
   have HMU := hid (mul_any p b r sm' wr.drew h3 hm hpc hr1 hr2 (by omega) (by omega))
   obtain ⟨m3, m4⟩ := emod_bounds (r * sm') p h3
   have HMD := hid (dvd_self_mod p (r * sm'))
   generalize r * sm' % (p : Int) = mm at *
   have HAD := hid (add_any p b x mm wr.drew h3 hm hpc f1 f2 (by omega) (by omega))
   have HS : Hid ((x + mm) % (p : Int) = G k) := by
    unfold Hid
    rw [HGk.out, Pol.emod_eq_iff (by omega)]
    have e2 := Int.dvd_mul_of_dvd_right (b := r) HSD.out
    have e3 := Int.dvd_add HMD.out e2
    rwa [show mm - r * sm' + r * (sm' - (y - x)) = x + mm - (x * (1 - r) + y * r) from by grind] at e3
   rw [HS.out] at HAD
   have c1 := hI.out.1.cell hlt
   have y1 := hI.out.1.frozen k
   have HE : Hid (ArrI (wr.setCell ⟨w.heap.size, k, none⟩ (.int .i64 (G k))).drew w.heap.size 3 h (fll G (fun _ => 0) (k + 1)) /\ Below w.heap.size w (wr.setCell ⟨w.heap.size, k, none⟩ (.int .i64 (G k))).drew) := ⟨hI.out.1.next, (hI.out.2.setCell (p := ⟨w.heap.size, k, none⟩) (by simp) _).drew⟩
   generalize G k = z at *
   generalize fll G (fun _ => 0) k k = y0 at *
   clear hI hc hd hkh HGk HS HSD HMD hb hpc
   go_wp2_with fail
   go_still_tail 24, hmx
   still_call HSU.out
   repeat still_step
   still_call HMU.out
   repeat still_step
   still_call HAD.out
   repeat still_step
   refine wpStill_nil ?_
   go_wp2_with fail
   go_roundw
   case rel => exact ⟨k + 1, by omega, by go_num, HE⟩
   case measure => simp [intOf]; omega
  ·obtain rfl : k = h := by omega
   have hlt2 : ¬ (k : Int) < (k : Int) := by omega
   have HE : Hid (ArrI wr w.heap.size 3 k G /\ Below w.heap.size w wr) := ⟨hI.out.1.congr (fun j hj => fll_all hj), hI.out.2⟩
   clear hI
   go_wp2_with fail
   go_ret
   exact ⟨rfl, HE.out⟩
end Go.Proofs.YtlhjifpomchnfaaGreatDoor
