/- Package sponge: commonDivisor, leastCoprime, rootOf. -/
import Derived.Test.YtfijhnojflcajadDoorSpoM
namespace Go.Proofs.YtfijhnojflcajadDoor
open Go.RowKit

set_option maxHeartbeats 1000000 in
theorem gcd_any (a b : Nat) (w : World) (ha : a ≤ 2147483647) (hb : b ≤ 2147483647) :
    Calls Tryd.prog 101 #[.int .i64 a, .int .i64 b] w fun e w' => e = .returned (.int .i64 (Nat.gcd a b)) ∧ Below w.heap.size w w' := by
  have hmx : Tryd.prog.follows .mixedOrders = true := by kernel_rfl
  go_enter Tryd.func101, Tryd.ntmps101
  go_wp2_with fail
  go_loopw [0, 1] (fun av bv wr => ∃ x y : Nat, x ≤ 2147483647 ∧ y ≤ 2147483647 ∧ av = .int .i64 x ∧ bv = .int .i64 y ∧ Hid (Nat.gcd x y = Nat.gcd a b) ∧ Hid (Below w.heap.size w wr)) (fun _ bv _ => (intOf bv).toNat)
  case atStart => exact ⟨a, b, ha, hb, rfl, rfl, rfl, Below.refl _ _⟩
  case round =>
    obtain ⟨x, y, hx, hy, rfl, rfl, hg, hbel⟩ := hrel
    by_cases h0 : y = 0
    · subst h0
      go_wp2_with fail
      go_ret
      exact ⟨ret_int (by rw [← hg.out, Nat.gcd_zero_right]), hbel.out⟩
    · have hb0 : ((y : Int) != 0) = true := by rw [bne_iff_ne]; omega
      have hlt := Nat.mod_lt x (show 0 < y by omega)
      have HG2 : Hid (Nat.gcd y (x % y) = Nat.gcd a b) := by show Nat.gcd y (x % y) = _; rw [← hg.out, Nat.gcd_comm y, ← Nat.gcd_rec, Nat.gcd_comm]
      have hmod : Int.tmod (x : Int) (y : Int) = ((x % y : Nat) : Int) := by rw [Int.tmod_eq_emod_of_nonneg (by omega)]; simp
      have h0' : ¬ (y : Int) = 0 := by omega
      have HB := hid hbel.out.drew
      clear hg hbel
      generalize x % y = z at *
      go_wp2_with fail
      go_region
      all_goals
        go_wp2_with fail
        go_roundw
        case rel => exact ⟨y, z, hy, by omega, rfl, by first | rfl | simp, HG2, HB⟩
        case measure => simp [intOf]; omega

theorem leastco_any (q : Nat) (w : World) (h5 : 5 ≤ q) (hm : q ≤ 2147483647) :
    Calls Tryd.prog 77 #[.int .i64 ((q : Int) - 1)] w fun e w' => ∃ m : Nat, e = .returned (.int .i64 m) ∧ Spo.PowIs q m ∧ m < q ∧ Below w.heap.size w w' := by
  obtain ⟨N, hN⟩ : ∃ N : Nat, N = q - 1 := ⟨_, rfl⟩
  have hN1 : (q : Int) - 1 = (N : Int) := by omega
  rw [hN1]
  have HG : Hid (∀ m : Nat, m ≤ 2147483647 → ∀ w1 : World, Calls Tryd.prog 101 #[.int .i64 m, .int .i64 N] w1 fun e w' => e = .returned (.int .i64 (Nat.gcd m N)) ∧ Below w1.heap.size w1 w') := fun m h w1 => gcd_any m N w1 h (by omega)
  have HQ : Hid (N = q - 1 ∧ 5 ≤ q) := ⟨hN, h5⟩
  have hNm : N ≤ 2147483647 := by omega
  clear hN hN1 h5 hm
  go_enter Tryd.func77, Tryd.ntmps77
  go_wp2_with fail
  go_loopw [5] (fun iv wr => ∃ k : Nat, k ≤ N ∧ iv = .int .i64 k ∧ Hid (∀ m, 2 ≤ m → m < k → ¬ Spo.Apart m N) ∧ Hid (Below w.heap.size w wr)) (fun iv _ => N - (intOf iv).toNat)
  case atStart => exact ⟨0, Nat.zero_le _, rfl, fun m _ h => by omega, Below.refl _ _⟩
  case round =>
    obtain ⟨k, hk, rfl, hno, hbel⟩ := hrel
    by_cases hlt : k < N
    · have hlt2 : (k : Int) < (N : Int) := by omega
      by_cases h1 : 1 < k
      · have h1b : (1 : Int) < (k : Int) := by omega
        have HG1 := hid (HG.out k (by omega) wr)
        by_cases hg : Nat.gcd k N = 1
        · rw [hg] at HG1
          have HAP := hid ((Spo.apart_gcd (n := k) (m := N) (by omega)).2 hg)
          clear hg HG
          go_wp2_with fail
          refine HG1.out.mono ?_
          rintro e w1 ⟨rfl, hb1⟩
          have HB1 : Hid (Below w.heap.size w w1) := hbel.out.trans (hb1.mono hbel.out.size)
          clear hb1
          go_wp2_with fail
          go_ret
          obtain ⟨e1, e2⟩ := HQ.out
          exact ⟨k, rfl, ⟨by omega, by rw [← e1]; exact HAP.out, fun m h2 h3 => by rw [← e1]; exact hno.out m h2 h3⟩, by omega, HB1.out⟩
        · have hgb : ((Nat.gcd k N : Int) == 1) = false := by rw [beq_eq_false_iff_ne]; omega
          have HNO : Hid (∀ m, 2 ≤ m → m < k + 1 → ¬ Spo.Apart m N) := fun m h2 h3 => by
            by_cases e : m = k
            · subst e; exact fun h => hg ((Spo.apart_gcd (by omega)).1 h)
            · exact hno.out m h2 (by omega)
          clear hg HG hno
          generalize Nat.gcd k N = g at *
          go_wp2_with fail
          refine HG1.out.mono ?_
          rintro e w1 ⟨rfl, hb1⟩
          have HB1 : Hid (Below w.heap.size w w1) := hbel.out.trans (hb1.mono hbel.out.size)
          clear hb1
          go_wp2_with fail
          go_roundw
          case rel => exact ⟨k + 1, by omega, by go_num, HNO, HB1⟩
          case measure => simp [intOf]; omega
      · have h1b : ¬ (1 : Int) < (k : Int) := by omega
        have HNO : Hid (∀ m, 2 ≤ m → m < k + 1 → ¬ Spo.Apart m N) := fun m h2 h3 => by omega
        clear HG hno
        go_wp2_with fail
        go_roundw
        case rel => exact ⟨k + 1, by omega, by go_num, HNO, hbel⟩
        case measure => simp [intOf]; omega
    · obtain ⟨e1, e2⟩ := HQ.out
      have h := Spo.pow_some e2
      rw [← e1] at h
      exact absurd h (hno.out (q - 2) (by omega) (by omega))

theorem rootof_any (q n : Nat) (w : World) (h5 : 5 ≤ q) (hm : q ≤ 2147483647) (hp : Spo.PowIs q n) (hnq : n < q) :
    Calls Tryd.prog 78 #[.int .i64 n, .int .i64 ((q : Int) - 1)] w fun e w' => ∃ d : Nat, e = .returned (.int .i64 d) ∧ d * n % (q - 1) = 1 ∧ 1 ≤ d ∧ d < q ∧ w' = w := by
  obtain ⟨N, hN⟩ : ∃ N : Nat, N = q - 1 := ⟨_, rfl⟩
  have hN1 : (q : Int) - 1 = (N : Int) := by omega
  rw [hN1]
  have hn2 := hp.1
  -- some k below n serves
  have HEX : Hid (∃ k, k < n ∧ (k * N + 1) % n = 0) := by
    have hg : Nat.gcd N n = 1 := by rw [Nat.gcd_comm, hN]; exact (Spo.apart_gcd (by omega)).1 hp.2.1
    obtain ⟨d, hd⟩ := inv_some hn2 hg
    -- N * d = 1 mod n, so k = (n - 1) * d mod n
    refine ⟨(n - 1) * d % n, Nat.mod_lt _ (by omega), ?_⟩
    have e1 : ((n - 1) * d % n * N + 1) % n = ((n - 1) * (N * d % n) + 1) % n := by
      rw [Nat.add_mod, Nat.mul_mod, Nat.mod_mod, ← Nat.mul_mod, ← Nat.add_mod]
      rw [Nat.add_mod ((n - 1) * (N * d % n)), Nat.mul_mod (n - 1) (N * d % n), Nat.mod_mod, ← Nat.mul_mod, ← Nat.add_mod]
      congr 2
      rw [Nat.mul_assoc, Nat.mul_comm d N]
    rw [e1, hd, Nat.mul_one, show n - 1 + 1 = n from by omega, Nat.mod_self]
  have HQ : Hid (N = q - 1 ∧ 5 ≤ q ∧ n < q) := ⟨hN, h5, hnq⟩
  have hNm : N ≤ 2147483647 := by omega
  have hnm : n ≤ 2147483647 := by omega
  have hn0 : ¬ (n : Int) = 0 := by omega
  clear hN hN1 h5 hm hp hnq
  go_enter Tryd.func78, Tryd.ntmps78
  go_wp2_with fail
  go_loop [7] (fun iv => ∃ k : Nat, k ≤ n ∧ iv = .int .i64 k ∧ Hid (∀ m, m < k → ¬ (m * N + 1) % n = 0)) (fun iv => n - (intOf iv).toNat)
  case atStart => exact ⟨0, Nat.zero_le _, rfl, fun m h => by omega⟩
  case round =>
    obtain ⟨k, hk, rfl, hno⟩ := hrel
    by_cases hlt : k < n
    · have hlt2 : (k : Int) < (n : Int) := by omega
      have hkN : k * N ≤ 2147483647 * 2147483647 := Nat.mul_le_mul (by omega) hNm
      obtain ⟨T, hT⟩ : ∃ T : Nat, T = k * N := ⟨_, rfl⟩
      have hTi : (k : Int) * (N : Int) = (T : Int) := by rw [hT]; simp
      rw [← hT] at hkN
      have hw2 : IntKind.i64.wrap ((T : Int) + 1) = (T : Int) + 1 := by rw [IntKind.wrap_i64]; omega
      have hmod : Int.tmod ((T : Int) + 1) (n : Int) = (((T + 1) % n : Nat) : Int) := by rw [Int.tmod_eq_emod_of_nonneg (by omega)]; simp
      have hdiv : Int.tdiv ((T : Int) + 1) (n : Int) = (((T + 1) / n : Nat) : Int) := by rw [Int.tdiv_eq_ediv_of_nonneg (by omega)]; simp
      by_cases h0 : (T + 1) % n = 0
      · have hb0 : ((((T + 1) % n : Nat) : Int) == 0) = true := by rw [h0]; rfl
        have hdle : (T + 1) / n ≤ T + 1 := Nat.div_le_self _ _
        have HD : Hid ((T + 1) / n * n = T + 1) := Nat.div_mul_cancel (Nat.dvd_of_mod_eq_zero h0)
        have HTT := hid hT
        clear h0 hT
        generalize (T + 1) / n = D at *
        have hw3 : IntKind.i64.wrap (D : Int) = (D : Int) := by rw [IntKind.wrap_i64]; omega
        generalize (T + 1) % n = M at *
        go_wp2_with fail
        go_ret
        obtain ⟨e1, e2, e3⟩ := HQ.out
        have e4 := HD.out
        have e5 := HTT.out
        refine ⟨D, by first | rfl | simp, ?_, ?_, ?_, rfl⟩
        · rw [e4, e5, e1, Nat.mul_comm k, Nat.mul_add_mod]
          exact Nat.mod_eq_of_lt (by omega)
        · rcases Nat.eq_zero_or_pos D with g | g
          · rw [g] at e4; omega
          · exact g
        · -- D * n = k * N + 1 with k < n: D ≤ N
          refine Nat.lt_of_not_le (fun hge => ?_)
          have h1 : q * n ≤ D * n := Nat.mul_le_mul_right n hge
          have h2 : k * N ≤ (n - 1) * N := Nat.mul_le_mul_right N (by omega)
          have h3 : (n - 1) * N + N = n * N := by rw [Nat.sub_mul, Nat.one_mul]; exact Nat.sub_add_cancel (Nat.le_mul_of_pos_left N (by omega))
          have h4 : q * n = n * N + n := by rw [show q = N + 1 from by omega, Nat.add_mul, Nat.one_mul, Nat.mul_comm]
          omega
      · have hb0 : ((((T + 1) % n : Nat) : Int) == 0) = false := by rw [beq_eq_false_iff_ne]; omega
        have HNO : Hid (∀ m, m < k + 1 → ¬ (m * N + 1) % n = 0) := fun m h => by
          by_cases e : m = k
          · subst e; rw [← hT]; exact h0
          · exact hno.out m (by omega)
        clear h0 hT hno
        generalize (T + 1) % n = M at *
        go_wp2_with fail
        go_round
        case rel => exact ⟨k + 1, by omega, by go_num, HNO⟩
        case measure => simp [intOf]; omega
    · obtain ⟨m, h1, h2⟩ := HEX.out
      exact absurd h2 (hno.out m (by omega))

end Go.Proofs.YtfijhnojflcajadDoor
