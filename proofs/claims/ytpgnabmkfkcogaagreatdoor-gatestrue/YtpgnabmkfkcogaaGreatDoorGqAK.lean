/- Package sums: isTable, variables, hasPlaces, product, across, upTo, fixed. What bits.TrailingZeros answers in this program, by the library's own contract, where its table reads as its text lays it. Package sums: variables, by the table that counts last zeros. Package gates: variables, own, joined, product, weight. -/
import Derived.Test.YtpgnabmkfkcogaaGreatDoorGqAJ
import Derived.Test.YtpgnabmkfkcogaaGreatDoorDoms
import Derived.Test.YtpgnabmkfkcogaaGreatDoorSpgs
import Derived.StillTailTactics
import Derived.Shelf.Spec.TrailingZeros
import Derived.Lib.TrailingZeros
import Derived.Test.YtpgnabmkfkcogaaGreatDoorProg
namespace Go.Proofs.YtpgnabmkfkcogaaGreatDoor
open Go.RowKit

theorem vrs_iff (n : Nat) : 0 ≤ vrs n ↔ ∃ v : Nat, v ≤ 12 ∧ n = 2 ^ v := by
  constructor
  · intro h
    obtain ⟨v, h1, h2, _⟩ := vrs_of h
    exact ⟨v, h1, h2⟩
  · rintro ⟨v, h1, h2⟩
    rw [vrs_yes h1 h2]
    omega
theorem pow_12 {v : Nat} (h : v ≤ 12) : 2 ^ v ≤ 4096 := by
  have : 2 ^ v ≤ 2 ^ 12 := Nat.pow_le_pow_right (by omega) h
  omega

set_option maxRecDepth 100000 in
theorem istable_any (n cap : Nat) (a : Option Addr) (w : World) (hn : n ≤ 281474976710656) :
    Calls Tryz.prog 75 #[.slice a n cap] w fun e w' => e = .returned (.bool (decide (0 ≤ vrs n))) ∧ w' = w := by
  by_cases h1 : n ≤ 4096
  · have HO := hid (ones_any n w (by omega))
    have h2 : (n : Int) ≤ 4096 := by omega
    have HB : Hid ((((pnz n : Nat) : Int) == 1) = decide (0 ≤ vrs n)) := by
      unfold Hid
      rw [Bool.eq_iff_iff, beq_iff_eq, decide_eq_true_eq, vrs_iff]
      constructor
      · intro h
        obtain ⟨k, hk, rfl⟩ := (pnz_one (n := n) (by omega)).1 (by omega)
        refine ⟨k, ?_, rfl⟩
        rcases Nat.lt_or_ge 12 k with g | g
        · have : 2 ^ 13 ≤ 2 ^ k := Nat.pow_le_pow_right (by omega) g
          omega
        · exact g
      · rintro ⟨v, hv, rfl⟩
        rw [(pnz_one (by omega)).2 ⟨v, by omega, rfl⟩]
        rfl
    generalize pnz n = z at *
    generalize decide (0 ≤ vrs n) = B at *
    go_enter Tryz.func75, Tryz.ntmps75
    go_wp2_with fail
    refine HO.out.mono ?_
    rintro e w1 ⟨rfl, rfl⟩
    go_wp2_with fail
    go_ret
    exact ⟨by rw [← HB.out]; rfl, rfl⟩
  · have h2 : ¬ (n : Int) ≤ 4096 := by omega
    have HB : decide (0 ≤ vrs n) = false := by
      rw [decide_eq_false_iff_not, vrs_iff]
      rintro ⟨v, hv, rfl⟩
      have := pow_12 hv
      omega
    rw [HB]
    clear HB
    go_enter Tryz.func75, Tryz.ntmps75
    go_wp2_with fail
    go_ret
    exact ⟨rfl, rfl⟩

set_option maxRecDepth 100000 in
set_option maxHeartbeats 2000000 in
theorem fixed_any (p b c1 : Nat) (a1 : Option Addr) (t : List Int) (r : Int) (w : World) (n1 : Nat) (h3 : 3 ≤ p) (hm : p ≤ 2147483647) (hp : w.cell? ⟨b, 0, none⟩ = some (.int .i64 p)) (hl : t.length ≤ 17592186043904) (hf1 : Fits t) (hr1 : -9223372036854775808 ≤ r) (hr2 : r ≤ 9223372036854775807) (hrow : RowB n1 w a1 t) (hn1 : n1 ≤ w.heap.size) :
    Calls Tryz.prog 77 #[.pointer (some ⟨b, 0, none⟩), .slice a1 t.length c1, .int .i64 r] w fun e w' => e = .returned (.slice (some ⟨w.heap.size, 0, none⟩) (t.length / 2) (t.length / 2)) ∧ ArrI w' w.heap.size 3 (t.length / 2) (zat (fixl p t r)) ∧ Below w.heap.size w w' := by
  have HF1 := hid hf1
  have HR1 := hid hrow
  have HP := hid hp
  have hbl : b < w.heap.size := heap_lt hp
  obtain ⟨N, hN⟩ : ∃ N, N = t.length := ⟨_, rfl⟩
  obtain ⟨h, hh⟩ : ∃ h, h = N / 2 := ⟨_, rfl⟩
  have q1 : IntKind.i64.wrap ((N : Int).tdiv 2) = (h : Int) := by
    rw [Int.tdiv_eq_ediv_of_nonneg (by omega), IntKind.wrap_i64]
    omega
  have q0 : (N : Int) / 2 = (h : Int) := by omega
  have q2 : IntKind.i64.wrap (h : Int) = (h : Int) := by rw [IntKind.wrap_i64]; omega
  have hhN : h + h ≤ N := by omega
  rw [← hN] at hl ⊢
  rw [← hh]
  have HN := hid hN
  have HH : Hid (h = t.length / 2) := by unfold Hid; rw [hh, hN]
  obtain ⟨G, hG⟩ : ∃ G : Nat → Int, G = zat (fixl p t r) := ⟨_, rfl⟩
  rw [← hG]
  have HG : Hid (∀ i, i < h → G i = (zat t i * (1 - r) + zat t (i + h) * r) % (p : Int)) := fun i hi => by rw [hG, HH.out]; exact fixl_at (by rw [← HH.out]; exact hi)
  have hmx : Tryz.prog.follows .mixedOrders = true := by kernel_rfl
  clear hf1 hrow hN hh hG hp
  have hmk2 := fun w => run_make_row' (P := Tryz.prog) 23 3 (.int .i64 0) 8 Tryz.underlying23 Tryz.infoInt rfl .i64 .i64 h (by omega) (by omega) w
  go_enter Tryz.func77, Tryz.ntmps77
  go_wp2_with fail
  go_loopw [17] (fun iv wr => ∃ k : Nat, k ≤ h ∧ iv = .int .i64 k ∧ Hid (ArrI wr w.heap.size 3 h (fll G (fun _ => 0) k) ∧ Below w.heap.size w wr)) (fun iv _ => h - (intOf iv).toNat)
  case atStart => exact ⟨0, by omega, rfl, by rw [fll_zero]; exact World.rowIs_made _ _ _ _, (Below.refl _ _).alloc (Nat.le_refl _) _⟩
  case round =>
    obtain ⟨k, hk, rfl, hI⟩ := hrel
    by_cases hlt : k < h
    · have hlt2 : (k : Int) < (h : Int) := by omega
      have hkN : (k : Int) < (N : Int) := by omega
      have hks : IntKind.i64.wrap ((k : Int) + 1) = (k : Int) + 1 := by rw [IntKind.wrap_i64]; omega
      obtain ⟨bt, ot, rfl, hb, hc⟩ := HR1.out k (by rw [← HN.out]; omega)
      obtain ⟨_, _, e1, _, hd⟩ := HR1.out (k + h) (by rw [← HN.out]; omega)
      cases e1
      have hc2 := (hI.out.2.cell (p := ⟨bt, ot + k, none⟩) (show bt < w.heap.size by omega)).trans hc
      have hd2 := (hI.out.2.cell (p := ⟨bt, ot + (k + h), none⟩) (show bt < w.heap.size by omega)).trans hd
      have hpc := (hI.out.2.cell (p := ⟨b, 0, none⟩) hbl).trans HP.out
      obtain ⟨f1, f2⟩ := HF1.out.all k
      obtain ⟨g1, g2⟩ := HF1.out.all (k + h)
      have HGk : Hid (G k = (zat t k * (1 - r) + zat t (k + h) * r) % (p : Int)) := HG.out k hlt
      obtain ⟨kh, hkh⟩ : ∃ kh, kh = k + h := ⟨_, rfl⟩
      have k1 : IntKind.i64.wrap ((h : Int) + (k : Int)) = (kh : Int) := by rw [IntKind.wrap_i64]; omega
      have k0 : (h : Int) + (k : Int) = (kh : Int) := by omega
      have k3 : IntKind.i64.wrap (kh : Int) = (kh : Int) := by rw [IntKind.wrap_i64]; omega
      have k2 : (kh : Int) < (N : Int) := by omega
      rw [← hkh] at hd2 g1 g2 HGk
      generalize zat t k = x at *
      generalize zat t kh = y at *
      have HSU := hid (sub_any p b y x wr.drew h3 hm hpc g1 g2 f1 f2)
      obtain ⟨m1, m2⟩ := emod_bounds (y - x) p h3
      have HSD := hid (dvd_self_mod p (y - x))
      generalize (y - x) % (p : Int) = sm' at *
      have HMU := hid (mul_any p b r sm' wr.drew h3 hm hpc hr1 hr2 (by omega) (by omega))
      obtain ⟨m3, m4⟩ := emod_bounds (r * sm') p h3
      have HMD := hid (dvd_self_mod p (r * sm'))
      generalize r * sm' % (p : Int) = mm at *
      have HAD := hid (add_any p b x mm wr.drew h3 hm hpc f1 f2 (by omega) (by omega))
      have HS : Hid ((x + mm) % (p : Int) = G k) := by
        unfold Hid
        rw [HGk.out, Pol.emod_eq_iff (by omega)]
        have e2 := Int.dvd_mul_of_dvd_right (b := r) HSD.out
        have e3 := Int.dvd_add HMD.out e2
        rwa [show mm - r * sm' + r * (sm' - (y - x)) = x + mm - (x * (1 - r) + y * r) from by grind] at e3
      rw [HS.out] at HAD
      have c1 := hI.out.1.cell hlt
      have y1 := hI.out.1.frozen k
      have HE : Hid (ArrI (wr.setCell ⟨w.heap.size, k, none⟩ (.int .i64 (G k))).drew w.heap.size 3 h (fll G (fun _ => 0) (k + 1)) ∧ Below w.heap.size w (wr.setCell ⟨w.heap.size, k, none⟩ (.int .i64 (G k))).drew) := ⟨hI.out.1.next, (hI.out.2.setCell (p := ⟨w.heap.size, k, none⟩) (by simp) _).drew⟩
      generalize G k = z at *
      generalize fll G (fun _ => 0) k k = y0 at *
      clear hI hc hd hkh HGk HS HSD HMD hb hpc
      go_wp2_with fail
      go_still_tail 24, hmx
      still_call HSU.out
      repeat still_step
      still_call HMU.out
      repeat still_step
      still_call HAD.out
      repeat still_step
      refine wpStill_nil ?_
      go_wp2_with fail
      go_roundw
      case rel => exact ⟨k + 1, by omega, by go_num, HE⟩
      case measure => simp [intOf]; omega
    · obtain rfl : k = h := by omega
      have hlt2 : ¬ (k : Int) < (k : Int) := by omega
      have HE : Hid (ArrI wr w.heap.size 3 k G ∧ Below w.heap.size w wr) := ⟨hI.out.1.congr (fun j hj => fll_all hj), hI.out.2⟩
      clear hI
      go_wp2_with fail
      go_ret
      exact ⟨rfl, HE.out⟩

end Go.Proofs.YtpgnabmkfkcogaaGreatDoor

namespace Go.Proofs
open Go.Shelf
def Tryz.laysTz_ren : Go.Shelf.Ren := ⟨fun | 27 => 107 | 28 => 174 | 29 => 175 | n => n, fun | 0 => 0 | 3 => 3 | 4 => 4 | 5 => 5 | 22 => 222 | 25 => 179 | 27 => 220 | 53 => 274 | 54 => 275 | n => n, fun | 0 => 1 | 1 => 2 | n => n⟩
theorem Tryz.laysTz : Go.Proofs.Lays7.n27 Tryz.prog Tryz.laysTz_ren := {
  mixed := by kernel_rfl
  f27 := Tryz.func107.trans (congrArg some (by kernel_rfl))
  f28 := Tryz.func174.trans (congrArg some (by kernel_rfl))
  f29 := Tryz.func175.trans (congrArg some (by kernel_rfl))
  t0 := Tryz.underlying0
  a0 := Tryz.isAgg0
  z0 := Tryz.sizeOf0
  v0 := Tryz.zeroValue0
  i0 := by kernel_rfl
  t3 := Tryz.underlying3
  a3 := Tryz.isAgg3
  z3 := Tryz.sizeOf3
  v3 := Tryz.zeroValue3
  i3 := by kernel_rfl
  t4 := Tryz.underlying4
  a4 := Tryz.isAgg4
  z4 := Tryz.sizeOf4
  v4 := Tryz.zeroValue4
  i4 := by kernel_rfl
  t5 := Tryz.underlying5
  a5 := Tryz.isAgg5
  z5 := Tryz.sizeOf5
  v5 := Tryz.zeroValue5
  i5 := by kernel_rfl
  t22 := Tryz.underlying222
  a22 := Tryz.isAgg222
  z22 := Tryz.sizeOf222
  v22 := Tryz.zeroValue222
  i22 := by kernel_rfl
  t25 := Tryz.underlying179
  a25 := Tryz.isAgg179
  z25 := Tryz.sizeOf179
  v25 := Tryz.zeroValue179
  i25 := by kernel_rfl
  t27 := Tryz.underlying220
  a27 := Tryz.isAgg220
  z27 := Tryz.sizeOf220
  v27 := Tryz.zeroValue220
  i27 := by kernel_rfl
  t53 := Tryz.underlying274
  a53 := Tryz.isAgg274
  z53 := Tryz.sizeOf274
  v53 := Tryz.zeroValue274
  i53 := by kernel_rfl
  t54 := Tryz.underlying275
  a54 := Tryz.isAgg275
  z54 := Tryz.sizeOf275
  g0 := by kernel_rfl
  g1 := by kernel_rfl }
theorem YtpgnabmkfkcogaaGreatDoor.tz_any (x : Nat) (hx0 : x ≠ 0) (hx : x ≤ 2147483647) (w : World) (hT : TabAt 2 Lib.deBruijn64tab w) :
    Calls Tryz.prog 107 #[.int .u64 x] w fun e w' => ∃ S m : Nat, e = .returned (.int .i64 S) ∧ S < 64 ∧ x = 2 ^ S * (2 * m + 1) ∧ w' = w := by
  refine (Any7.bits_TrailingZeros Tryz.laysTz x (by omega) w (fun _ => hT)).mono fun e w' ⟨he, hw⟩ => ?_
  obtain ⟨m, h1, h2⟩ := Lib.ctzFrom_spec 64 x (by omega) (Nat.lt_of_le_of_lt hx (by decide))
  refine ⟨Lib.ctz 64 x, m, he, ?_, ?_, hw⟩
  · unfold Lib.ctz; rw [if_neg hx0]; exact h2
  · unfold Lib.ctz; rw [if_neg hx0]; exact h1
end Go.Proofs

namespace Go.Proofs.YtpgnabmkfkcogaaGreatDoor
open Go.RowKit

theorem pow_odd {S v m : Nat} (h : 2 ^ v = 2 ^ S * (2 * m + 1)) : S = v := by
  rcases Nat.lt_trichotomy S v with g | g | g
  · obtain ⟨d, rfl⟩ : ∃ d, v = S + (d + 1) := ⟨v - S - 1, by omega⟩
    rw [Nat.pow_add] at h
    have := Nat.eq_of_mul_eq_mul_left (Nat.pow_pos (by decide)) h
    rw [Nat.pow_succ] at this
    omega
  · exact g
  · obtain ⟨d, rfl⟩ : ∃ d, S = v + (d + 1) := ⟨S - v - 1, by omega⟩
    rw [Nat.pow_add, Nat.mul_assoc] at h
    have h2 : 2 ^ v * 1 = 2 ^ v * (2 ^ (d + 1) * (2 * m + 1)) := by rw [Nat.mul_one]; exact h
    have := Nat.eq_of_mul_eq_mul_left (Nat.pow_pos (by decide)) h2
    have h3 : 2 ^ (d + 1) * (2 * m + 1) % 2 = 1 := by rw [← this]
    rw [Nat.pow_succ, Nat.mul_right_comm, Nat.mul_mod_left] at h3
    omega

set_option maxRecDepth 100000 in
theorem vars_any (n v cap : Nat) (a : Option Addr) (w : World) (hv : v ≤ 12) (hn : n = 2 ^ v) (hT : TabAt 2 Lib.deBruijn64tab w) :
    Calls Tryz.prog 76 #[.slice a n cap] w fun e w' => e = .returned (.int .i64 (v : Int)) ∧ w' = w := by
  have h1 := pow_12 hv
  have h0 : 0 < 2 ^ v := Nat.pow_pos (by decide)
  have HZ : Hid (Calls Tryz.prog 107 #[.int .u64 (n : Int)] w fun e w' => e = .returned (.int .i64 (v : Int)) ∧ w' = w) := by
    refine (tz_any n (by omega) (by omega) w hT).mono ?_
    rintro e w' ⟨S, m, rfl, _, h, hw⟩
    rw [hn] at h
    rw [pow_odd h]
    exact ⟨rfl, hw⟩
  have hn2 : n ≤ 4096 := by omega
  clear hn hT h1 h0
  go_enter Tryz.func76, Tryz.ntmps76
  go_wp2_with fail
  refine HZ.out.mono ?_
  rintro e w1 ⟨rfl, rfl⟩
  go_wp2_with fail
  go_ret
  exact ⟨rfl, rfl⟩

end Go.Proofs.YtpgnabmkfkcogaaGreatDoor

namespace Go.Proofs.YtpgnabmkfkcogaaGreatDoor
open Go.RowKit

theorem prz_back (f : Nat → Int) (n : Nat) : Sum.prz (fun k => f (n - 1 - k)) n = Sum.prz f n := by
  induction n generalizing f with
  | zero => rfl
  | succ n ih =>
    rw [prz_front f n, ← ih (fun k => f (k + 1))]
    rw [Sum.prz, show n + 1 - 1 - n = 0 from by omega, Int.mul_comm]
    congr 1
    exact Sum.prz_same (fun k hk => by rw [show n + 1 - 1 - k = n - 1 - k + 1 from by omega])
/-- a place's factor at a variable -/
def wgf (at' : Nat → Int) (v i t : Nat) : Int := if (i / 2 ^ (v - 1 - t)) % 2 = 0 then 1 - at' t else at' t
theorem prz_wgf (at' : Nat → Int) (v i : Nat) : Sum.prz (wgf at' v i) v = Sum.wgt at' v i := by
  rw [← prz_back]
  unfold Sum.wgt
  refine Sum.prz_same (fun k hk => ?_)
  unfold wgf
  rw [show v - 1 - (v - 1 - k) = k from by omega]

set_option maxRecDepth 100000 in
theorem gvars_any (n v : Nat) (w : World) (hv : v ≤ 6) (hn : n = 2 ^ v) (hT : TabAt 2 Lib.deBruijn64tab w) :
    Calls Tryz.prog 150 #[.int .i64 (n : Int)] w fun e w' => e = .returned (.int .i64 (v : Int)) ∧ w' = w := by
  have h1 := pow_6 hv
  have h0 : 0 < 2 ^ v := Nat.pow_pos (by decide)
  have HZ : Hid (Calls Tryz.prog 107 #[.int .u64 (n : Int)] w fun e w' => e = .returned (.int .i64 (v : Int)) ∧ w' = w) := by
    refine (tz_any n (by omega) (by omega) w hT).mono ?_
    rintro e w' ⟨S, m, rfl, _, h, hw⟩
    rw [hn] at h
    rw [pow_odd h]
    exact ⟨rfl, hw⟩
  have hn2 : n ≤ 64 := by omega
  clear hn hT h1 h0
  go_enter Tryz.func150, Tryz.ntmps150
  go_wp2_with fail
  refine HZ.out.mono ?_
  rintro e w1 ⟨rfl, rfl⟩
  go_wp2_with fail
  go_ret
  exact ⟨rfl, rfl⟩

set_option maxRecDepth 100000 in
set_option maxHeartbeats 1000000 in
theorem gjoined_any (p b : Nat) (y z : Value) (kind x1 x2 : Int) (w : World) (h3 : 3 ≤ p) (hm : p ≤ 2147483647) (hp : w.cell? ⟨b, 0, none⟩ = some (.int .i64 p)) (h11 : -9223372036854775808 ≤ x1) (h12 : x1 ≤ 9223372036854775807) (h21 : -9223372036854775808 ≤ x2) (h22 : x2 ≤ 9223372036854775807) :
    Calls Tryz.prog 212 #[.agg #[.pointer (some ⟨b, 0, none⟩), y, z], .int .i64 kind, .int .i64 x1, .int .i64 x2] w fun e w' => e = .returned (.int .i64 (jnz p kind x1 x2)) ∧ Below w.heap.size w w' := by
  obtain ⟨W0, hW0⟩ : ∃ W0, W0 = w.alloc (.cells #[.pointer (some ⟨b, 0, none⟩), y, z] 149) := ⟨_, rfl⟩
  obtain ⟨hb0, hs0, hz0⟩ := own_blk hW0
  have hp0 := (hb0.cell (p := ⟨b, 0, none⟩) (heap_lt hp)).trans hp
  have HA := hid (add_any p b x1 x2 W0 h3 hm hp0 h11 h12 h21 h22)
  have HM := hid (mul_any p b x1 x2 W0 h3 hm hp0 h11 h12 h21 h22)
  have HB0 := hid hb0
  clear hb0 hs0 hz0 hp hp0
  by_cases hk : kind = 0
  · have hk2 : (kind == 0) = true := by rw [hk]; rfl
    have HJ : Hid (jnz p kind x1 x2 = (x1 + x2) % (p : Int)) := by unfold Hid jnz; rw [if_pos hk]
    generalize jnz p kind x1 x2 = J at *
    generalize (x1 + x2) % (p : Int) = E at *
    clear hk HM
    go_enter Tryz.func212, Tryz.ntmps212
    go_wp2_with fail
    rw [← hW0]
    clear hW0
    refine HA.out.mono ?_
    rintro e w1 ⟨rfl, hw⟩
    have hw1 := hw.symm
    subst hw1
    clear hw
    go_wp2_with fail
    go_ret
    exact ⟨by rw [HJ.out]; rfl, HB0.out⟩
  · have hk2 : (kind == 0) = false := by rw [beq_eq_false_iff_ne]; exact hk
    have HJ : Hid (jnz p kind x1 x2 = x1 * x2 % (p : Int)) := by unfold Hid jnz; rw [if_neg hk]
    generalize jnz p kind x1 x2 = J at *
    generalize x1 * x2 % (p : Int) = E at *
    clear hk HA
    go_enter Tryz.func212, Tryz.ntmps212
    go_wp2_with fail
    rw [← hW0]
    clear hW0
    refine HM.out.mono ?_
    rintro e w1 ⟨rfl, hw⟩
    have hw1 := hw.symm
    subst hw1
    clear hw
    go_wp2_with fail
    go_ret
    exact ⟨by rw [HJ.out]; rfl, HB0.out⟩

theorem bit_and (i m : Nat) : (bits BinOp.and IntKind.i64 ((i : Int) / 2 ^ m) 1 == 0) = decide ((i / 2 ^ m) % 2 = 0) := by
  rw [andn_i64 1 _ (by omega) 1 rfl]
  have e : (i : Int) / 2 ^ m = ((i / 2 ^ m : Nat) : Int) := by rw [Int.natCast_ediv]; simp
  rw [e]
  generalize i / 2 ^ m = X
  rw [Bool.eq_iff_iff, beq_iff_eq, decide_eq_true_eq]
  omega
theorem prz_mod {p : Nat} (f : Nat → Int) (k : Nat) (r : Int) (h : (p : Int) ∣ r - f k) : (Sum.prz f k % (p : Int)) * r % (p : Int) = Sum.prz f (k + 1) % (p : Int) := by
  refine emod_of_dvd ?_
  have h1 : (p : Int) ∣ Sum.prz f k % (p : Int) - Sum.prz f k := Pol.emod_dvd p _
  exact Sum.dvd_mul_sub h1 h

set_option maxRecDepth 100000 in
set_option maxHeartbeats 1000000 in
theorem gproduct_any (p b cap : Nat) (y z : Value) (a : Option Addr) (zs : List Int) (w : World) (h3 : 3 ≤ p) (hm : p ≤ 2147483647) (hp : w.cell? ⟨b, 0, none⟩ = some (.int .i64 p)) (hn : zs.length ≤ 281474976710656) (hf : Fits zs) (hr : RowB w.heap.size w a zs) :
    Calls Tryz.prog 249 #[.agg #[.pointer (some ⟨b, 0, none⟩), y, z], .slice a zs.length cap] w fun e w' => e = .returned (.int .i64 (Sum.prz (zat zs) zs.length % (p : Int))) ∧ Below w.heap.size w w' := by
  obtain ⟨W0, hW0⟩ : ∃ W0, W0 = w.alloc (.cells #[.pointer (some ⟨b, 0, none⟩), y, z] 149) := ⟨_, rfl⟩
  obtain ⟨hb0, hs0, hz0⟩ := own_blk hW0
  have hp0 := (hb0.cell (p := ⟨b, 0, none⟩) (heap_lt hp)).trans hp
  obtain ⟨G, hG⟩ : ∃ G, G = w.heap.size := ⟨_, rfl⟩
  have HGE := hid hG
  rw [← hG] at hs0
  have c0 : W0.cell? ⟨G, 0, none⟩ = some (.pointer (some ⟨b, 0, none⟩)) := by simp [World.cell?, hs0]
  have HM : Hid (∀ x y : Int, -9223372036854775808 ≤ x → x ≤ 9223372036854775807 → -9223372036854775808 ≤ y → y ≤ 9223372036854775807 → Calls Tryz.prog 121 #[.pointer (some ⟨b, 0, none⟩), .int .i64 x, .int .i64 y] W0 fun e w' => e = .returned (.int .i64 (x * y % (p : Int))) ∧ w' = W0) := fun x y h1 h2 h4 h5 => mul_any p b x y W0 h3 hm hp0 h1 h2 h4 h5
  have HB0 := hid hb0
  have HRO := hid ((hr.below hb0).mono hb0.size)
  have HF := hid hf
  have HST : Hid (∀ k r, (p : Int) ∣ r - zat zs k → (Sum.prz (zat zs) k % (p : Int)) * r % (p : Int) = Sum.prz (zat zs) (k + 1) % (p : Int)) := fun k r h => prz_mod _ _ _ h
  have HZ : Hid (∀ k, 0 ≤ Sum.prz (zat zs) k % (p : Int) ∧ Sum.prz (zat zs) k % (p : Int) < p) := fun k => emod_bounds _ p h3
  have HO : Hid (Sum.prz (zat zs) 0 % (p : Int) = 1) := by unfold Hid; rw [Sum.prz]; exact Int.emod_eq_of_lt (by omega) (by omega)
  obtain ⟨P, hP⟩ : ∃ P : Nat → Int, P = fun k => Sum.prz (zat zs) k % (p : Int) := ⟨_, rfl⟩
  have HST2 : Hid (∀ k r, (p : Int) ∣ r - zat zs k → P k * r % (p : Int) = P (k + 1)) := fun k r h => by rw [hP]; exact HST.out k r h
  have HZ2 : Hid (∀ k, 0 ≤ P k ∧ P k < p) := fun k => by rw [hP]; exact HZ.out k
  have HO2 : Hid (P 0 = 1) := by unfold Hid; rw [hP]; exact HO.out
  obtain ⟨n, hnn⟩ : ∃ n, n = zs.length := ⟨_, rfl⟩
  have HN := hid hnn
  rw [show Sum.prz (zat zs) zs.length % (p : Int) = P n from by rw [hP, hnn]]
  rw [← hnn] at hn ⊢
  clear hb0 hs0 hz0 hp hp0 hr hf HST HZ HO hP hnn hG
  go_enter Tryz.func249, Tryz.ntmps249
  go_wp2_with fail
  rw [← HGE.out, ← hW0]
  clear hW0
  go_loop [5, 7, 10] (fun ov _ iv => ∃ k : Nat, k ≤ n ∧ iv = .int .i64 (k : Int) ∧ ∃ x : Int, ov = .int .i64 x ∧ Hid (x = P k)) (fun _ _ iv => n - (intOf iv).toNat)
  case atStart => exact ⟨0, by omega, rfl, 1, rfl, HO2.out.symm⟩
  case round =>
    obtain ⟨k, hk, rfl, x, rfl, hx⟩ := hrel
    by_cases hlt : k < n
    · have hlt2 : (k : Int) < (n : Int) := by omega
      have hks : IntKind.i64.wrap ((k : Int) + 1) = (k : Int) + 1 := by rw [IntKind.wrap_i64]; omega
      obtain ⟨b0, o0, rfl, hb0, hx0⟩ := HRO.out k (by rw [← HN.out]; exact hlt)
      obtain ⟨f1, f2⟩ := HF.out.all k
      have hz := HZ2.out k
      rw [← hx.out] at hz
      have HMU := hid (HM.out x (zat zs k) (by omega) (by omega) f1 f2)
      have HNX : Hid (x * zat zs k % (p : Int) = P (k + 1)) := by unfold Hid; rw [hx.out]; exact HST2.out k _ (by simp)
      generalize zat zs k = r at *
      generalize x * r % (p : Int) = E at *
      clear hx f1 f2 hz
      go_wp2_with fail
      refine HMU.out.mono ?_
      rintro e w1 ⟨rfl, hw⟩
      have hw1 := hw.symm
      subst hw1
      clear hw
      go_wp2_with fail
      go_round
      case rel => exact ⟨k + 1, by omega, by go_num, E, rfl, HNX.out⟩
      case measure => simp [intOf]; omega
    · obtain rfl : k = n := by omega
      have hlt2 : ¬ (k : Int) < (k : Int) := by omega
      go_wp2_with fail
      go_ret
      exact ⟨by rw [← hx.out]; rfl, HB0.out⟩

set_option maxRecDepth 100000 in
set_option maxHeartbeats 1000000 in
theorem weight_any (p b cap i : Nat) (y z : Value) (a : Option Addr) (at' : List Int) (w : World) (h3 : 3 ≤ p) (hm : p ≤ 2147483647) (hp : w.cell? ⟨b, 0, none⟩ = some (.int .i64 p)) (hv : at'.length ≤ 60) (hf : Fits at') (hr : RowB w.heap.size w a at') :
    Calls Tryz.prog 250 #[.agg #[.pointer (some ⟨b, 0, none⟩), y, z], .int .i64 (i : Int), .slice a at'.length cap] w fun e w' => e = .returned (.int .i64 (Sum.wgt (zat at') at'.length i % (p : Int))) ∧ Below w.heap.size w w' := by
  obtain ⟨W0, hW0⟩ : ∃ W0, W0 = w.alloc (.cells #[.pointer (some ⟨b, 0, none⟩), y, z] 149) := ⟨_, rfl⟩
  obtain ⟨hb0, hs0, hz0⟩ := own_blk hW0
  have hp0 := (hb0.cell (p := ⟨b, 0, none⟩) (heap_lt hp)).trans hp
  obtain ⟨G, hG⟩ : ∃ G, G = w.heap.size := ⟨_, rfl⟩
  have HGE := hid hG
  rw [← hG] at hs0
  have c0 : W0.cell? ⟨G, 0, none⟩ = some (.pointer (some ⟨b, 0, none⟩)) := by simp [World.cell?, hs0]
  have HM : Hid (∀ x y : Int, -9223372036854775808 ≤ x → x ≤ 9223372036854775807 → -9223372036854775808 ≤ y → y ≤ 9223372036854775807 → Calls Tryz.prog 121 #[.pointer (some ⟨b, 0, none⟩), .int .i64 x, .int .i64 y] W0 fun e w' => e = .returned (.int .i64 (x * y % (p : Int))) ∧ w' = W0) := fun x y h1 h2 h4 h5 => mul_any p b x y W0 h3 hm hp0 h1 h2 h4 h5
  have HSU : Hid (∀ x y : Int, -9223372036854775808 ≤ x → x ≤ 9223372036854775807 → -9223372036854775808 ≤ y → y ≤ 9223372036854775807 → Calls Tryz.prog 139 #[.pointer (some ⟨b, 0, none⟩), .int .i64 x, .int .i64 y] W0 fun e w' => e = .returned (.int .i64 ((x - y) % (p : Int))) ∧ w' = W0) := fun x y h1 h2 h4 h5 => sub_any p b x y W0 h3 hm hp0 h1 h2 h4 h5
  have HB0 := hid hb0
  have HRO := hid ((hr.below hb0).mono hb0.size)
  have HF := hid hf
  obtain ⟨n, hnn⟩ : ∃ n, n = at'.length := ⟨_, rfl⟩
  obtain ⟨P, hP⟩ : ∃ P : Nat → Int, P = fun k => Sum.prz (wgf (zat at') n i) k % (p : Int) := ⟨_, rfl⟩
  have HST2 : Hid (∀ k r, (p : Int) ∣ r - wgf (zat at') n i k → P k * r % (p : Int) = P (k + 1)) := fun k r h => by rw [hP]; exact prz_mod _ _ _ h
  have HZ2 : Hid (∀ k, 0 ≤ P k ∧ P k < p) := fun k => by rw [hP]; exact emod_bounds _ p h3
  have HO2 : Hid (P 0 = 1) := by unfold Hid; rw [hP]; show Sum.prz _ 0 % _ = 1; rw [Sum.prz]; exact Int.emod_eq_of_lt (by omega) (by omega)
  have HN := hid hnn
  rw [show Sum.wgt (zat at') at'.length i % (p : Int) = P n from by rw [hP, ← hnn]; show _ = Sum.prz _ n % _; rw [prz_wgf]]
  rw [← hnn] at hv ⊢
  clear hb0 hs0 hz0 hp hp0 hr hf hP hnn hG
  go_enter Tryz.func250, Tryz.ntmps250
  go_wp2_with fail
  rw [← HGE.out, ← hW0]
  clear hW0
  go_loop [7, 8, 9, 12] (fun ov _ _ iv => ∃ k : Nat, k ≤ n ∧ iv = .int .i64 (k : Int) ∧ ∃ x : Int, ov = .int .i64 x ∧ Hid (x = P k)) (fun _ _ _ iv => n - (intOf iv).toNat)
  case atStart => exact ⟨0, by omega, rfl, 1, rfl, HO2.out.symm⟩
  case round =>
    obtain ⟨k, hk, rfl, x, rfl, hx⟩ := hrel
    by_cases hlt : k < n
    · have hlt2 : (k : Int) < (n : Int) := by omega
      have hks : IntKind.i64.wrap ((k : Int) + 1) = (k : Int) + 1 := by rw [IntKind.wrap_i64]; omega
      obtain ⟨b0, o0, rfl, hb0, hx0⟩ := HRO.out k (by rw [← HN.out]; exact hlt)
      obtain ⟨f1, f2⟩ := HF.out.all k
      have hz := HZ2.out k
      rw [← hx.out] at hz
      have hbt := bit_and i (n - 1 - k)
      by_cases hb : (i / 2 ^ (n - 1 - k)) % 2 = 0
      · rw [decide_eq_true hb] at hbt
        have HSX := hid (HSU.out 1 (zat at' k) (by omega) (by omega) f1 f2)
        obtain ⟨t1, t2⟩ := emod_bounds (1 - zat at' k) p h3
        have HMU := hid (HM.out x ((1 - zat at' k) % (p : Int)) (by omega) (by omega) (by omega) (by omega))
        have HNX : Hid (x * ((1 - zat at' k) % (p : Int)) % (p : Int) = P (k + 1)) := by
          unfold Hid
          rw [hx.out]
          refine HST2.out k _ ?_
          unfold wgf
          rw [if_pos hb]
          exact Pol.emod_dvd p _
        generalize (1 - zat at' k) % (p : Int) = s at *
        generalize zat at' k = r at *
        generalize x * s % (p : Int) = E at *
        clear hx f1 f2 hz hb t1 t2
        go_wp2_with fail
        refine HSX.out.mono ?_
        rintro e w1 ⟨rfl, hw⟩
        have hw1 := hw.symm
        subst hw1
        clear hw
        go_wp2_with fail
        refine HMU.out.mono ?_
        rintro e w1 ⟨rfl, hw⟩
        have hw1 := hw.symm
        subst hw1
        clear hw
        go_wp2_with fail
        go_round
        case rel => exact ⟨k + 1, by omega, by go_num, E, rfl, HNX.out⟩
        case measure => simp [intOf]; omega
      · rw [decide_eq_false hb] at hbt
        have HMU := hid (HM.out x (zat at' k) (by omega) (by omega) f1 f2)
        have HNX : Hid (x * zat at' k % (p : Int) = P (k + 1)) := by
          unfold Hid
          rw [hx.out]
          refine HST2.out k _ ?_
          unfold wgf
          rw [if_neg hb]
          simp
        generalize zat at' k = r at *
        generalize x * r % (p : Int) = E at *
        clear hx f1 f2 hz hb
        go_wp2_with fail
        refine HMU.out.mono ?_
        rintro e w1 ⟨rfl, hw⟩
        have hw1 := hw.symm
        subst hw1
        clear hw
        go_wp2_with fail
        go_round
        case rel => exact ⟨k + 1, by omega, by go_num, E, rfl, HNX.out⟩
        case measure => simp [intOf]; omega
    · obtain rfl : k = n := by omega
      have hlt2 : ¬ (k : Int) < (k : Int) := by omega
      go_wp2_with fail
      go_ret
      exact ⟨by rw [← hx.out]; rfl, HB0.out⟩

end Go.Proofs.YtpgnabmkfkcogaaGreatDoor
