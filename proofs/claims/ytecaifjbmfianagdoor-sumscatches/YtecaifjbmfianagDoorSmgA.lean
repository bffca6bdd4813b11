/- Package sums: isTable, variables, hasPlaces, product, across, upTo, fixed. -/
import Derived.Test.YtecaifjbmfianagDoorSumW
import Derived.Test.YtecaifjbmfianagDoorDoms
import Derived.Test.YtecaifjbmfianagDoorSpgs
import Derived.StillTailTactics
namespace Go.Proofs.YtecaifjbmfianagDoor
open Go.RowKit

theorem vrs_iff (n : Nat) : 0 ≤ vrs n ↔ ∃ v : Nat, v ≤ 12 ∧ n = 2 ^ v := by
  constructor
  · intro h
    obtain ⟨v, h1, h2, _⟩ := vrs_of h
    exact ⟨v, h1, h2⟩
  · rintro ⟨v, h1, h2⟩
    rw [vrs_yes h1 h2]
    omega
theorem pow_12 {v : Nat} (h : v ≤ 12) : 2 ^ v ≤ 4096 := by
  have : 2 ^ v ≤ 2 ^ 12 := Nat.pow_le_pow_right (by omega) h
  omega

set_option maxRecDepth 100000 in
theorem istable_any (n cap : Nat) (a : Option Addr) (w : World) (hn : n ≤ 281474976710656) :
    Calls Tryd.prog 49 #[.slice a n cap] w fun e w' => e = .returned (.bool (decide (0 ≤ vrs n))) ∧ w' = w := by
  by_cases h1 : n ≤ 4096
  · have HO := hid (ones_any n w (by omega))
    have h2 : (n : Int) ≤ 4096 := by omega
    have HB : Hid ((((pnz n : Nat) : Int) == 1) = decide (0 ≤ vrs n)) := by
      unfold Hid
      rw [Bool.eq_iff_iff, beq_iff_eq, decide_eq_true_eq, vrs_iff]
      constructor
      · intro h
        obtain ⟨k, hk, rfl⟩ := (pnz_one (n := n) (by omega)).1 (by omega)
        refine ⟨k, ?_, rfl⟩
        rcases Nat.lt_or_ge 12 k with g | g
        · have : 2 ^ 13 ≤ 2 ^ k := Nat.pow_le_pow_right (by omega) g
          omega
        · exact g
      · rintro ⟨v, hv, rfl⟩
        rw [(pnz_one (by omega)).2 ⟨v, by omega, rfl⟩]
        rfl
    generalize pnz n = z at *
    generalize decide (0 ≤ vrs n) = B at *
    go_enter Tryd.func49, Tryd.ntmps49
    go_wp2_with fail
    refine HO.out.mono ?_
    rintro e w1 ⟨rfl, rfl⟩
    go_wp2_with fail
    go_ret
    exact ⟨by rw [← HB.out]; rfl, rfl⟩
  · have h2 : ¬ (n : Int) ≤ 4096 := by omega
    have HB : decide (0 ≤ vrs n) = false := by
      rw [decide_eq_false_iff_not, vrs_iff]
      rintro ⟨v, hv, rfl⟩
      have := pow_12 hv
      omega
    rw [HB]
    clear HB
    go_enter Tryd.func49, Tryd.ntmps49
    go_wp2_with fail
    go_ret
    exact ⟨rfl, rfl⟩

set_option maxRecDepth 100000 in
theorem hasplaces_any (p b : Nat) (d : Int) (w : World) (hp : w.cell? ⟨b, 0, none⟩ = some (.int .i64 p)) :
    Calls Tryd.prog 34 #[.pointer (some ⟨b, 0, none⟩), .int .i64 d] w fun e w' => e = .returned (.bool (decide (d < (p : Int)))) ∧ w' = w := by
  have HP := hid (p_any p b w hp)
  clear hp
  go_enter Tryd.func34, Tryd.ntmps34
  go_wp2_with fail
  refine HP.out.mono ?_
  rintro e w1 ⟨rfl, rfl⟩
  go_wp2_with fail
  go_ret
  exact ⟨rfl, rfl⟩

set_option maxRecDepth 100000 in
set_option maxHeartbeats 1000000 in
theorem product_any (p b cap n0 : Nat) (a : Option Addr) (zs : List Int) (w : World) (h3 : 3 ≤ p) (hm : p ≤ 2147483647) (hp : w.cell? ⟨b, 0, none⟩ = some (.int .i64 p)) (hn : zs.length ≤ 281474976710656) (hf : Fits zs) (hr : RowB n0 w a zs) :
    Calls Tryd.prog 48 #[.pointer (some ⟨b, 0, none⟩), .slice a zs.length cap] w fun e w' => e = .returned (.int .i64 (Sum.prz (zat zs) zs.length % (p : Int))) ∧ w' = w := by
  have HF := hid hf
  have HR := hid hr
  have HP := hid hp
  obtain ⟨n, hnn⟩ : ∃ n, n = zs.length := ⟨_, rfl⟩
  rw [← hnn] at hn ⊢
  have HN := hid hnn
  obtain ⟨G, hG⟩ : ∃ G, G = zat zs := ⟨_, rfl⟩
  rw [← hG]
  have HG := hid hG
  clear hf hr hp hnn hG
  go_enter Tryd.func48, Tryd.ntmps48
  go_wp2_with fail
  go_loop [5, 10] (fun xv iv => ∃ (k : Nat) (x : Int), k ≤ n ∧ iv = .int .i64 k ∧ xv = .int .i64 x ∧ 0 ≤ x ∧ x < (p : Int) ∧ Hid (x = Sum.prz G k % (p : Int))) (fun _ iv => n - (intOf iv).toNat)
  case atStart => exact ⟨0, 1, by omega, rfl, rfl, by omega, by omega, by unfold Hid; simp only [Sum.prz]; rw [Int.emod_eq_of_lt (by omega) (by omega)]⟩
  case round =>
    obtain ⟨k, x, hk, rfl, rfl, hx1, hx2, hJ⟩ := hrel
    by_cases hlt : k < n
    · have hlt2 : (k : Int) < (n : Int) := by omega
      have hks : IntKind.i64.wrap ((k : Int) + 1) = (k : Int) + 1 := by rw [IntKind.wrap_i64]; omega
      obtain ⟨bl, ol, rfl, _, hc⟩ := HR.out k (by rw [← HN.out]; exact hlt)
      obtain ⟨f1, f2⟩ := HF.out.all k
      have HGk : Hid (G k = zat zs k) := by unfold Hid; rw [HG.out]
      generalize zat zs k = y at *
      have HMU := hid (mul_any p b x y w h3 hm HP.out (by omega) (by omega) f1 f2)
      obtain ⟨d1, d2⟩ := emod_bounds (x * y) p h3
      have HE : Hid (x * y % (p : Int) = Sum.prz G (k + 1) % (p : Int)) := by
        unfold Hid
        rw [Sum.prz, HGk.out]
        refine mulmod (by omega) ?_ (by simp)
        rw [hJ.out]
        exact dvd_self_mod p _
      generalize x * y % (p : Int) = x' at *
      clear hJ HGk
      go_wp2_with fail
      refine HMU.out.mono ?_
      rintro e w1 ⟨rfl, rfl⟩
      go_wp2_with fail
      go_round
      case rel => exact ⟨k + 1, x', by omega, by go_num, rfl, d1, d2, HE⟩
      case measure => simp [intOf]; omega
    · obtain rfl : k = n := by omega
      have hlt2 : ¬ (k : Int) < (k : Int) := by omega
      have HE : Hid (x = Sum.prz G k % (p : Int)) := hJ
      clear hJ
      go_wp2_with fail
      go_ret
      exact ⟨by rw [← HE.out]; rfl, rfl⟩

set_option maxRecDepth 100000 in
set_option maxHeartbeats 1000000 in
theorem across_any (cap i : Nat) (a : Option Addr) (rows : List (List Int)) (w : World) (hd : rows.length ≤ 17592186043904) (_hi : i ≤ 17592186043904) (hlen : ∀ k, k < rows.length → i < (rat rows k).length) (hl : LstR w.heap.size w a cap rows) :
    Calls Tryd.prog 37 #[.slice a rows.length cap, .int .i64 (i : Int)] w fun e w' => e = .returned (.slice (some ⟨w.heap.size, 0, none⟩) rows.length rows.length) ∧ ArrI w' w.heap.size 3 rows.length (fun k => zat (rat rows k) i) ∧ Below w.heap.size w w' := by
  have HL := hid hl
  have HLN := hid hlen
  obtain ⟨d, hdd⟩ : ∃ d, d = rows.length := ⟨_, rfl⟩
  rw [← hdd] at hd ⊢
  have HD := hid hdd
  obtain ⟨G, hG⟩ : ∃ G : Nat → Int, G = fun k => zat (rat rows k) i := ⟨_, rfl⟩
  rw [← hG]
  have HG := hid hG
  clear hl hlen hdd hG
  have hmk2 := fun w => run_make_row' (P := Tryd.prog) 23 3 (.int .i64 0) 8 Tryd.underlying23 Tryd.infoInt rfl .i64 .i64 d (by omega) (by omega) w
  go_enter Tryd.func37, Tryd.ntmps37
  go_wp2_with fail
  go_loopw [13] (fun iv wr => ∃ k : Nat, k ≤ d ∧ iv = .int .i64 k ∧ Hid (ArrI wr w.heap.size 3 d (fll G (fun _ => 0) k) ∧ Below w.heap.size w wr)) (fun iv _ => d - (intOf iv).toNat)
  case atStart => exact ⟨0, by omega, rfl, by rw [fll_zero]; exact World.rowIs_made _ _ _ _, (Below.refl _ _).alloc (Nat.le_refl _) _⟩
  case round =>
    obtain ⟨k, hk, rfl, hI⟩ := hrel
    by_cases hlt : k < d
    · have hlt2 : (k : Int) < (d : Int) := by omega
      have hks : IntKind.i64.wrap ((k : Int) + 1) = (k : Int) + 1 := by rw [IntKind.wrap_i64]; omega
      obtain ⟨b0, o0, ak, ck, rfl, hb0, hc, hlk⟩ := HL.out.row k (by rw [← HD.out]; exact hlt)
      have hin := HLN.out k (by rw [← HD.out]; exact hlt)
      obtain ⟨bk, ok, rfl, hbk, hy⟩ := hlk.row i hin
      have hc2 := (hI.out.2.cell (p := ⟨b0, o0 + k, none⟩) hb0).trans hc
      have hy2 := (hI.out.2.cell (p := ⟨bk, ok + i, none⟩) hbk).trans hy
      have hin2 : (i : Int) < ((rat rows k).length : Int) := by omega
      have HGk : Hid (G k = zat (rat rows k) i) := by unfold Hid; rw [HG.out]
      have c1 := hI.out.1.cell hlt
      have y1 := hI.out.1.frozen k
      have HA2 := hid hI.out.1.next
      have HBL := hid (hI.out.2.setCell (p := ⟨w.heap.size, k, none⟩) (by simp) (.int .i64 (G k)))
      rw [← HGk.out] at hy2
      generalize (rat rows k).length = N at *
      generalize G k = y at *
      generalize fll G (fun _ => 0) k k = y0 at *
      clear hI hc hy hlk HGk hin
      go_wp2_with fail
      go_roundw
      case rel => exact ⟨k + 1, by omega, by go_num, HA2.out, HBL.out⟩
      case measure => simp [intOf]; omega
    · obtain rfl : k = d := by omega
      have hlt2 : ¬ (k : Int) < (k : Int) := by omega
      have HE : Hid (ArrI wr w.heap.size 3 k G ∧ Below w.heap.size w wr) := ⟨hI.out.1.congr (fun j hj => fll_all hj), hI.out.2⟩
      clear hI
      go_wp2_with fail
      go_ret
      exact ⟨rfl, HE.out⟩

set_option maxRecDepth 100000 in
set_option maxHeartbeats 1000000 in
theorem upto_any (d : Nat) (w : World) (hd : d ≤ 17592186043904) :
    Calls Tryd.prog 45 #[.int .i64 (d : Int)] w fun e w' => e = .returned (.slice (some ⟨w.heap.size, 0, none⟩) (d + 1) (d + 1)) ∧ ArrI w' w.heap.size 3 (d + 1) (fun i => (i : Int)) ∧ Below w.heap.size w w' := by
  obtain ⟨n, hn⟩ : ∃ n, n = d + 1 := ⟨_, rfl⟩
  have e1 : IntKind.i64.wrap ((d : Int) + 1) = (n : Int) := by rw [IntKind.wrap_i64]; omega
  have e2 : (d : Int) + 1 = (n : Int) := by omega
  have hn2 : n ≤ 17592186043905 := by omega
  rw [← hn]
  obtain ⟨G, hG⟩ : ∃ G : Nat → Int, G = fun k : Nat => (k : Int) := ⟨_, rfl⟩
  rw [← hG]
  have HG := hid hG
  clear hn hG hd
  have hmk2 := fun w => run_make_row' (P := Tryd.prog) 23 3 (.int .i64 0) 8 Tryd.underlying23 Tryd.infoInt rfl .i64 .i64 n (by omega) (by omega) w
  go_enter Tryd.func45, Tryd.ntmps45
  go_wp2_with fail
  go_loopw [10] (fun iv wr => ∃ k : Nat, k ≤ n ∧ iv = .int .i64 k ∧ Hid (ArrI wr w.heap.size 3 n (fll G (fun _ => 0) k) ∧ Below w.heap.size w wr)) (fun iv _ => n - (intOf iv).toNat)
  case atStart => exact ⟨0, by omega, rfl, by rw [fll_zero]; exact World.rowIs_made _ _ _ _, (Below.refl _ _).alloc (Nat.le_refl _) _⟩
  case round =>
    obtain ⟨k, hk, rfl, hI⟩ := hrel
    by_cases hlt : k < n
    · have hlt2 : (k : Int) < (n : Int) := by omega
      have hks : IntKind.i64.wrap ((k : Int) + 1) = (k : Int) + 1 := by rw [IntKind.wrap_i64]; omega
      have HGk : Hid (G k = (k : Int)) := by unfold Hid; rw [HG.out]
      have c1 := hI.out.1.cell hlt
      have y1 := hI.out.1.frozen k
      have HA2 := hid hI.out.1.next
      have HBL := hid (hI.out.2.setCell (p := ⟨w.heap.size, k, none⟩) (by simp) (.int .i64 (G k)))
      rw [HGk.out] at HA2 HBL
      generalize fll G (fun _ => 0) k k = y0 at *
      clear hI HGk
      go_wp2_with fail
      go_roundw
      case rel => exact ⟨k + 1, by omega, by go_num, HA2.out, HBL.out⟩
      case measure => simp [intOf]; omega
    · obtain rfl : k = n := by omega
      have hlt2 : ¬ (k : Int) < (k : Int) := by omega
      have HE : Hid (ArrI wr w.heap.size 3 k G ∧ Below w.heap.size w wr) := ⟨hI.out.1.congr (fun j hj => fll_all hj), hI.out.2⟩
      clear hI
      go_wp2_with fail
      go_ret
      exact ⟨rfl, HE.out⟩

set_option maxRecDepth 100000 in
set_option maxHeartbeats 2000000 in
theorem fixed_any (p b c1 : Nat) (a1 : Option Addr) (t : List Int) (r : Int) (w : World) (n1 : Nat) (h3 : 3 ≤ p) (hm : p ≤ 2147483647) (hp : w.cell? ⟨b, 0, none⟩ = some (.int .i64 p)) (hl : t.length ≤ 17592186043904) (hf1 : Fits t) (hr1 : -9223372036854775808 ≤ r) (hr2 : r ≤ 9223372036854775807) (hrow : RowB n1 w a1 t) (hn1 : n1 ≤ w.heap.size) :
    Calls Tryd.prog 50 #[.pointer (some ⟨b, 0, none⟩), .slice a1 t.length c1, .int .i64 r] w fun e w' => e = .returned (.slice (some ⟨w.heap.size, 0, none⟩) (t.length / 2) (t.length / 2)) ∧ ArrI w' w.heap.size 3 (t.length / 2) (zat (fixl p t r)) ∧ Below w.heap.size w w' := by
  have HF1 := hid hf1
  have HR1 := hid hrow
  have HP := hid hp
  have hbl : b < w.heap.size := heap_lt hp
  obtain ⟨N, hN⟩ : ∃ N, N = t.length := ⟨_, rfl⟩
  obtain ⟨h, hh⟩ : ∃ h, h = N / 2 := ⟨_, rfl⟩
  have q1 : IntKind.i64.wrap ((N : Int).tdiv 2) = (h : Int) := by
    rw [Int.tdiv_eq_ediv_of_nonneg (by omega), IntKind.wrap_i64]
    omega
  have q0 : (N : Int) / 2 = (h : Int) := by omega
  have q2 : IntKind.i64.wrap (h : Int) = (h : Int) := by rw [IntKind.wrap_i64]; omega
  have hhN : h + h ≤ N := by omega
  rw [← hN] at hl ⊢
  rw [← hh]
  have HN := hid hN
  have HH : Hid (h = t.length / 2) := by unfold Hid; rw [hh, hN]
  obtain ⟨G, hG⟩ : ∃ G : Nat → Int, G = zat (fixl p t r) := ⟨_, rfl⟩
  rw [← hG]
  have HG : Hid (∀ i, i < h → G i = (zat t i * (1 - r) + zat t (i + h) * r) % (p : Int)) := fun i hi => by rw [hG, HH.out]; exact fixl_at (by rw [← HH.out]; exact hi)
  have hmx : Tryd.prog.follows .mixedOrders = true := by kernel_rfl
  clear hf1 hrow hN hh hG hp
  have hmk2 := fun w => run_make_row' (P := Tryd.prog) 23 3 (.int .i64 0) 8 Tryd.underlying23 Tryd.infoInt rfl .i64 .i64 h (by omega) (by omega) w
  go_enter Tryd.func50, Tryd.ntmps50
  go_wp2_with fail
  go_loopw [17] (fun iv wr => ∃ k : Nat, k ≤ h ∧ iv = .int .i64 k ∧ Hid (ArrI wr w.heap.size 3 h (fll G (fun _ => 0) k) ∧ Below w.heap.size w wr)) (fun iv _ => h - (intOf iv).toNat)
  case atStart => exact ⟨0, by omega, rfl, by rw [fll_zero]; exact World.rowIs_made _ _ _ _, (Below.refl _ _).alloc (Nat.le_refl _) _⟩
  case round =>
    obtain ⟨k, hk, rfl, hI⟩ := hrel
    by_cases hlt : k < h
    · have hlt2 : (k : Int) < (h : Int) := by omega
      have hkN : (k : Int) < (N : Int) := by omega
      have hks : IntKind.i64.wrap ((k : Int) + 1) = (k : Int) + 1 := by rw [IntKind.wrap_i64]; omega
      obtain ⟨bt, ot, rfl, hb, hc⟩ := HR1.out k (by rw [← HN.out]; omega)
      obtain ⟨_, _, e1, _, hd⟩ := HR1.out (k + h) (by rw [← HN.out]; omega)
      cases e1
      have hc2 := (hI.out.2.cell (p := ⟨bt, ot + k, none⟩) (show bt < w.heap.size by omega)).trans hc
      have hd2 := (hI.out.2.cell (p := ⟨bt, ot + (k + h), none⟩) (show bt < w.heap.size by omega)).trans hd
      have hpc := (hI.out.2.cell (p := ⟨b, 0, none⟩) hbl).trans HP.out
      obtain ⟨f1, f2⟩ := HF1.out.all k
      obtain ⟨g1, g2⟩ := HF1.out.all (k + h)
      have HGk : Hid (G k = (zat t k * (1 - r) + zat t (k + h) * r) % (p : Int)) := HG.out k hlt
      obtain ⟨kh, hkh⟩ : ∃ kh, kh = k + h := ⟨_, rfl⟩
      have k1 : IntKind.i64.wrap ((h : Int) + (k : Int)) = (kh : Int) := by rw [IntKind.wrap_i64]; omega
      have k0 : (h : Int) + (k : Int) = (kh : Int) := by omega
      have k3 : IntKind.i64.wrap (kh : Int) = (kh : Int) := by rw [IntKind.wrap_i64]; omega
      have k2 : (kh : Int) < (N : Int) := by omega
      rw [← hkh] at hd2 g1 g2 HGk
      generalize zat t k = x at *
      generalize zat t kh = y at *
      have HSU := hid (sub_any p b y x wr.drew h3 hm hpc g1 g2 f1 f2)
      obtain ⟨m1, m2⟩ := emod_bounds (y - x) p h3
      have HSD := hid (dvd_self_mod p (y - x))
      generalize (y - x) % (p : Int) = sm' at *
      have HMU := hid (mul_any p b r sm' wr.drew h3 hm hpc hr1 hr2 (by omega) (by omega))
      obtain ⟨m3, m4⟩ := emod_bounds (r * sm') p h3
      have HMD := hid (dvd_self_mod p (r * sm'))
      generalize r * sm' % (p : Int) = mm at *
      have HAD := hid (add_any p b x mm wr.drew h3 hm hpc f1 f2 (by omega) (by omega))
      have HS : Hid ((x + mm) % (p : Int) = G k) := by
        unfold Hid
        rw [HGk.out, Pol.emod_eq_iff (by omega)]
        have e2 := Int.dvd_mul_of_dvd_right (b := r) HSD.out
        have e3 := Int.dvd_add HMD.out e2
        rwa [show mm - r * sm' + r * (sm' - (y - x)) = x + mm - (x * (1 - r) + y * r) from by grind] at e3
      rw [HS.out] at HAD
      have c1 := hI.out.1.cell hlt
      have y1 := hI.out.1.frozen k
      have HE : Hid (ArrI (wr.setCell ⟨w.heap.size, k, none⟩ (.int .i64 (G k))).drew w.heap.size 3 h (fll G (fun _ => 0) (k + 1)) ∧ Below w.heap.size w (wr.setCell ⟨w.heap.size, k, none⟩ (.int .i64 (G k))).drew) := ⟨hI.out.1.next, (hI.out.2.setCell (p := ⟨w.heap.size, k, none⟩) (by simp) _).drew⟩
      generalize G k = z at *
      generalize fll G (fun _ => 0) k k = y0 at *
      clear hI hc hd hkh HGk HS HSD HMD hb hpc
      go_wp2_with fail
      go_still_tail 24, hmx
      still_call HSU.out
      repeat still_step
      still_call HMU.out
      repeat still_step
      still_call HAD.out
      repeat still_step
      refine wpStill_nil ?_
      go_wp2_with fail
      go_roundw
      case rel => exact ⟨k + 1, by omega, by go_num, HE⟩
      case measure => simp [intOf]; omega
    · obtain rfl : k = h := by omega
      have hlt2 : ¬ (k : Int) < (k : Int) := by omega
      have HE : Hid (ArrI wr w.heap.size 3 k G ∧ Below w.heap.size w wr) := ⟨hI.out.1.congr (fun j hj => fll_all hj), hI.out.2⟩
      clear hI
      go_wp2_with fail
      go_ret
      exact ⟨rfl, HE.out⟩

end Go.Proofs.YtecaifjbmfianagDoor
