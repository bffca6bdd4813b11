/- What package attestref2 answers of domains: Fault, New, Points, Values, Half. -/
import Derived.Test.YtidkhgplejglaacDoorDomP
import Derived.Test.YtidkhgplejglaacDoorRefP
import Derived.StillTailTactics
namespace Go.Proofs.YtidkhgplejglaacDoor
open Go.RowKit

/-- one of the first k powers of 2 -/
def twoB (n : Int) : Nat → Bool
  | 0 => false
  | k + 1 => twoB n k || (((2 ^ k : Nat) : Int) == n)
theorem twoB_iff (n : Int) : ∀ k, twoB n k = true ↔ ∃ j, j < k ∧ n = ((2 ^ j : Nat) : Int)
  | 0 => by simp [twoB]
  | k + 1 => by
    rw [twoB, Bool.or_eq_true, beq_iff_eq, twoB_iff n k]
    constructor
    · rintro (⟨j, h1, h2⟩ | h)
      · exact ⟨j, by omega, h2⟩
      · exact ⟨k, by omega, h.symm⟩
    · rintro ⟨j, h1, h2⟩
      by_cases e : j = k
      · subst e; exact Or.inr h2.symm
      · exact Or.inl ⟨j, by omega, h2⟩

/-- what Fault answers -/
def FaultIs (q : Nat) (n s c : Int) : Prop := (¬ SizeOk q n ∧ c = 2) ∨ (SizeOk q n ∧ s % (q : Int) = 0 ∧ c = 3) ∨ (SizeOk q n ∧ ¬ s % (q : Int) = 0 ∧ c = 0)

set_option maxRecDepth 100000 in
set_option maxHeartbeats 1000000 in
theorem fault_any (q : Nat) (n s : Int) (w : World) (h3 : 3 ≤ q) (h4 : q ≤ 2147483647) (hn1 : -9223372036854775808 ≤ n) (hn2 : n ≤ 9223372036854775807) (hs1 : -9223372036854775808 ≤ s) (hs2 : s ≤ 9223372036854775807) :
    Calls Tryd.prog 25 #[.int .i64 q, .int .i64 n, .int .i64 s] w fun e w' => ∃ c : Int, e = .returned (.int .i64 c) ∧ FaultIs q n s c ∧ w' = w := by
  go_enter Tryd.func25, Tryd.ntmps25
  go_wp2_with fail
  go_loop [7, 8] (fun tv nv => ∃ k : Nat, k ≤ 17 ∧ nv = .int .i64 ((2 ^ k : Nat) : Int) ∧ tv = .bool (twoB n k)) (fun _ nv => (131072 - intOf nv).toNat)
  case atStart => exact ⟨0, by decide, rfl, rfl⟩
  case round =>
    obtain ⟨k, hk, rfl, rfl⟩ := hrel
    by_cases hlt : k < 17
    · have hle : 2 ^ k ≤ 65536 := Nat.pow_le_pow_right (by decide : 0 < 2) (show k ≤ 16 by omega)
      have hpos : 1 ≤ 2 ^ k := Nat.pow_pos (by decide)
      have HS : Hid (((2 ^ (k + 1) : Nat) : Int) = ((2 ^ k : Nat) : Int) * 2) := by unfold Hid; rw [Nat.pow_succ]; omega
      have HB : Hid (twoB n (k + 1) = (twoB n k || (((2 ^ k : Nat) : Int) == n))) := rfl
      have hle2 : ((2 ^ k : Nat) : Int) ≤ 65536 := by omega
      have hpos2 : (1 : Int) ≤ ((2 ^ k : Nat) : Int) := by omega
      clear hle hpos
      generalize ((2 ^ k : Nat) : Int) = m at *
      cases hb : twoB n k with
      | true =>
        rw [hb] at HB
        clear hb
        go_wp2_with fail
        go_round
        case rel => exact ⟨k + 1, by omega, by rw [HS.out], by rw [HB.out]; rfl⟩
        case measure => simp [intOf]; omega
      | false =>
        rw [hb] at HB
        clear hb
        by_cases he : m = n
        · have heb : (m == n) = true := by rw [beq_iff_eq]; exact he
          rw [heb] at HB
          clear he
          go_wp2_with fail
          go_round
          case rel => exact ⟨k + 1, by omega, by rw [HS.out], by rw [HB.out]; rfl⟩
          case measure => simp [intOf]; omega
        · have heb : (m == n) = false := by rw [beq_eq_false_iff_ne]; exact he
          rw [heb] at HB
          clear he
          go_wp2_with fail
          go_round
          case rel => exact ⟨k + 1, by omega, by rw [HS.out], by rw [HB.out]; rfl⟩
          case measure => simp [intOf]; omega
    · obtain rfl : k = 17 := by omega
      have e17 : ((2 ^ 17 : Nat) : Int) = 131072 := by decide
      rw [e17]
      clear e17 hlt
      cases hb : twoB n 17 with
      | false =>
        have HN : Hid (¬ SizeOk q n) := fun ⟨j, h1, h2, _⟩ => by
          have := (twoB_iff n 17).2 ⟨j, by omega, h2⟩
          rw [hb] at this; cases this
        clear hb
        go_wp2_with fail
        go_ret
        exact ⟨2, rfl, Or.inl ⟨HN.out, rfl⟩, rfl⟩
      | true =>
        obtain ⟨j, hj, hnj⟩ := (twoB_iff n 17).1 hb
        clear hb
        have hpos : 1 ≤ 2 ^ j := Nat.pow_pos (by decide)
        have hzn : (n == 0) = false := by rw [beq_eq_false_iff_ne]; omega
        have hn0 : 0 < n := by omega
        by_cases hd : (q - 1) % 2 ^ j = 0
        · have hd2 : (((q : Int) - 1) % n != 0) = false := by rw [hnj, sizeOk_nat h3 hd]; rfl
          have HOK : Hid (SizeOk q n) := ⟨j, by omega, hnj, hd⟩
          clear hd hnj hpos
          by_cases hs : s % (q : Int) = 0
          · have HS := hid hs
            have hsb : (s % (q : Int) == 0) = true := by rw [hs]; rfl
            clear hs
            go_wp2_with fail
            refine (rof_any q s w h3 h4 hs1 hs2).mono ?_
            rintro e w1 ⟨rfl, rfl⟩
            go_wp2_with fail
            go_ret
            exact ⟨3, rfl, Or.inr (Or.inl ⟨HOK.out, HS.out, rfl⟩), rfl⟩
          · have HS := hid hs
            have hsb : (s % (q : Int) == 0) = false := by rw [beq_eq_false_iff_ne]; exact hs
            clear hs
            go_wp2_with fail
            refine (rof_any q s w h3 h4 hs1 hs2).mono ?_
            rintro e w1 ⟨rfl, rfl⟩
            go_wp2_with fail
            go_ret
            exact ⟨0, rfl, Or.inr (Or.inr ⟨HOK.out, HS.out, rfl⟩), rfl⟩
        · have hd2 : (((q : Int) - 1) % n != 0) = true := by
            rw [bne_iff_ne, hnj]
            intro h
            rw [show (q : Int) - 1 = ((q - 1 : Nat) : Int) from by omega, ← Int.natCast_emod] at h
            omega
          have HN : Hid (¬ SizeOk q n) := fun ⟨i, h1, h2, h5⟩ => hd (by
            have : 2 ^ j = 2 ^ i := by omega
            rw [this]; exact h5)
          clear hd hnj hpos
          go_wp2_with fail
          go_ret
          exact ⟨2, rfl, Or.inl ⟨HN.out, rfl⟩, rfl⟩

set_option maxRecDepth 100000 in
set_option maxHeartbeats 1000000 in
theorem rdnew_any (q : Nat) (n s : Int) (w : World) (hpr : Num.Prime q) (h3 : 3 ≤ q) (h4 : q ≤ 2147483647) (hn1 : -9223372036854775808 ≤ n) (hn2 : n ≤ 9223372036854775807) (hs1 : -9223372036854775808 ≤ s) (hs2 : s ≤ 9223372036854775807) :
    Calls Tryd.prog 26 #[.int .i64 q, .int .i64 n, .int .i64 s] w fun e w' => ∃ r : Nat, e = .returned (.agg #[.int .i64 q, .int .i64 n, .int .i64 (s % (q : Int)), .int .i64 r]) ∧ RootIs q n r ∧ Below w.heap.size w w' := by
  have HR : Hid (∀ w1 : World, Calls Tryd.prog 44 #[.int .i64 q, .int .i64 n] w1 fun e w' => ∃ r : Nat, e = .returned (.int .i64 r) ∧ RootIs q n r ∧ w' = w1) := fun w1 => rroot_any q n w1 hpr h3 h4 hn1 hn2
  clear hpr
  go_enter Tryd.func26, Tryd.ntmps26
  go_wp2_with fail
  refine (HR.out _).mono ?_
  rintro e w1 ⟨r, rfl, hr, rfl⟩
  have HRR := hid hr
  clear hr
  go_wp2_with fail
  refine (rof_any q s _ h3 h4 hs1 hs2).mono ?_
  rintro e w2 ⟨rfl, rfl⟩
  go_wp2_with fail
  (try simp only [Exit.inBlock, Exit.then])
  refine bodyPost_ret (results_cell_row rfl _ _ w.heap.size 24 #[.int .i64 q, .int .i64 n, .int .i64 (s % (q : Int)), .int .i64 r] (0, 0) _ rfl (heap_alloc_new w _) Tryd.underlying24 rfl (by kernel_rfl)) rfl ?_
  exact ⟨r, rfl, HRR.out, (Below.refl _ _).alloc (Nat.le_refl _) _⟩

set_option maxRecDepth 100000 in
set_option maxHeartbeats 1000000 in
theorem rpoints_any (q n : Nat) (r s : Int) (w : World) (h3 : 3 ≤ q) (h4 : q ≤ 2147483647) (hn0 : 0 < n) (hn : n ≤ 65536) (hr0 : 0 ≤ r) (hr1 : r < q) (hs0 : 0 ≤ s) (hs1 : s < q) :
    Calls Tryd.prog 8 #[.agg #[.int .i64 q, .int .i64 n, .int .i64 s, .int .i64 r]] w fun e w' => ∃ (g N : Nat) (F : Nat → Value),
      e = .returned (.slice (some ⟨g, 0, none⟩) n N) ∧ w.heap.size ≤ g ∧ w'.rowIs g 3 N F ∧ n ≤ N ∧ (∀ j, j < n → F j = .int .i64 (Dom.pt q s r j)) ∧ Below w.heap.size w w' := by
  obtain ⟨i0, hi, hz0, hz1, hz2⟩ := info_parts Tryd.infoInt
  have HP0 : Hid (Dom.pt q s r 0 = s) := Dom.pt_zero r hs0 hs1
  go_enter Tryd.func8, Tryd.ntmps8
  go_wp2_with fail
  have HC0 : Hid ((w.alloc (.cells #[.int .i64 q, .int .i64 n, .int .i64 s, .int .i64 r] 24)).cell? ⟨w.heap.size, 0, none⟩ = some (.int .i64 q)) := by unfold Hid; simp
  have HC1 : Hid ((w.alloc (.cells #[.int .i64 q, .int .i64 n, .int .i64 s, .int .i64 r] 24)).cell? ⟨w.heap.size, 1, none⟩ = some (.int .i64 n)) := by unfold Hid; simp
  have HC3 : Hid ((w.alloc (.cells #[.int .i64 q, .int .i64 n, .int .i64 s, .int .i64 r] 24)).cell? ⟨w.heap.size, 3, none⟩ = some (.int .i64 r)) := by unfold Hid; simp
  have HB0 : Hid (Below w.heap.size w (w.alloc (.cells #[.int .i64 q, .int .i64 n, .int .i64 s, .int .i64 r] 24))) := (Below.refl _ _).alloc (Nat.le_refl _) _
  have hs0x : w.heap.size < (w.alloc (.cells #[.int .i64 q, .int .i64 n, .int .i64 s, .int .i64 r] 24)).heap.size := by simp
  generalize w.alloc (.cells #[.int .i64 q, .int .i64 n, .int .i64 s, .int .i64 r] 24) = W0 at *
  go_loopw [3, 4, 5] (fun v xv iv wr => ∃ k : Nat, k ≤ n ∧ iv = .int .i64 k ∧ xv = .int .i64 (Dom.pt q s r k) ∧ wr.ownsRow W0.heap.size 3 1 v (ls (Dom.pt q s r) k).length ((ls (Dom.pt q s r) k).map (Value.int .i64)) ∧ Below W0.heap.size W0 wr)
    (fun _ _ iv _ => n - (intOf iv).toNat)
  case atStart => exact ⟨0, Nat.zero_le _, rfl, by rw [HP0.out], World.ownsRow_nil _ _ _ _, Below.refl _ _⟩
  case round =>
    obtain ⟨k, hk, rfl, rfl, hown, hbel⟩ := hrel
    have hsz := hbel.size
    have d0 := (hbel.cell (p := ⟨w.heap.size, 0, none⟩) hs0x).trans HC0.out
    have d1 := (hbel.cell (p := ⟨w.heap.size, 1, none⟩) hs0x).trans HC1.out
    have d3 := (hbel.cell (p := ⟨w.heap.size, 3, none⟩) hs0x).trans HC3.out
    by_cases hlt : k < n
    · have hlt2 : (k : Int) < (n : Int) := by omega
      have HLS := hid (ls_succ (Dom.pt q s r) k)
      have HLL := hid (ls_len (Dom.pt q s r) k)
      have hpt := emod_bounds (s * r ^ k) q h3
      rw [show s * r ^ k % (q : Int) = Dom.pt q s r k from rfl] at hpt
      have HM : Hid (∀ w1 : World, Calls Tryd.prog 28 #[.int .i64 q, .int .i64 (Dom.pt q s r k), .int .i64 r] w1 fun e w' => e = .returned (.int .i64 (Dom.pt q s r (k + 1))) ∧ w' = w1) :=
        fun w1 => by rw [← Dom.pt_succ]; exact rmul_any q _ _ w1 h3 h4 (by omega) (by omega) (by omega) (by omega)
      obtain ⟨xn, hxn⟩ : ∃ xn, xn = Dom.pt q s r (k + 1) := ⟨_, rfl⟩
      have HXN := hid hxn
      rw [← hxn] at HM
      clear hxn
      generalize Dom.pt q s r k = x at *
      generalize ls (Dom.pt q s r) k = lk at *
      go_wp2_with (at_builtin; refine wpList_append_own _ rfl _ _ 27 rfl W0.heap.size 3 i0 (.int .i64 0) 1 8 Tryd.underlying27 hi hz0 hz1 hz2 rfl (by decide) _ _ _ rfl (hown.alloc _) ⟨wr.heap.size, 0, none⟩ 1 1 [.int .i64 x] rfl rfl ?c1 ?c2 ?c3 ?c4 ?c5 ?_)
      case c1 =>
        intro j u hj
        match j, hj with
        | 0, hj => simp at hj; subst hj; simp [Addr.add]
      case c2 => intro u hu; simp at hu; subst hu; rfl
      case c3 => have := HLL.out; unfold maxLen; omega
      case c4 => have := HLL.out; omega
      case c5 => simp; omega
      intro v' w5 hown2 hgrow _
      have hown3 := owns_succ hown2
      have HB : Hid (Below W0.heap.size W0 w5) := (hbel.alloc hsz _).grown hgrow (by simp; omega) (fun k hk => (hown.lt k hk).1)
      have HO := hid hown3
      have f0 := (HB.out.cell (p := ⟨w.heap.size, 0, none⟩) hs0x).trans HC0.out
      have f3 := (HB.out.cell (p := ⟨w.heap.size, 3, none⟩) hs0x).trans HC3.out
      clear hown2 hown3 hgrow hown hbel d0 d1 d3
      go_wp2_with fail
      refine (HM.out _).mono ?_
      rintro e w6 ⟨rfl, rfl⟩
      go_wp2_with fail
      go_roundw
      case rel => exact ⟨k + 1, by omega, by go_num, by rw [HXN.out], by rw [HLS.out]; exact HO.out, HB.out⟩
      case measure => simp [intOf]; omega
    · have hlt2 : ¬ (k : Int) < (n : Int) := by omega
      obtain rfl : k = n := by omega
      have hll := ls_len (Dom.pt q s r) k
      obtain ⟨g, N, F, rfl, hg, hri, hnN, hF⟩ := rowIs_of_owns hown (by omega)
      rw [hll] at hnN hF
      have HE : Hid (w.heap.size ≤ g ∧ wr.rowIs g 3 N F ∧ k ≤ N ∧ (∀ j, j < k → F j = .int .i64 (Dom.pt q s r j)) ∧ Below w.heap.size w wr) :=
        ⟨by omega, hri, hnN, fun j hj => by rw [hF j hj, ls_at _ _ _ hj], HB0.out.trans (hbel.mono (by omega))⟩
      rw [hll]
      clear hri hF hown hll
      go_wp2_with fail
      go_ret
      first
        | exact ⟨g, N, F, rfl, HE.out⟩
        | exact ⟨g, N, rfl, HE.out.1, F, HE.out.2⟩


set_option maxRecDepth 100000 in
set_option maxHeartbeats 1000000 in
theorem rvalues_any (q n cap : Nat) (r s : Int) (a : Option Addr) (zs : List Int) (w : World) (h3 : 3 ≤ q) (h4 : q ≤ 2147483647) (hn0 : 0 < n) (hn : n ≤ 65536) (hr0 : 0 ≤ r) (hr1 : r < q) (hs0 : 0 ≤ s) (hs1 : s < q)
    (hlen : zs.length ≤ 281474976710656) (hfit : Fits zs) (hrow : RowB w.heap.size w a zs) :
    Calls Tryd.prog 19 #[.agg #[.int .i64 q, .int .i64 n, .int .i64 s, .int .i64 r], .slice a zs.length cap] w fun e w' => ∃ (g N : Nat) (F : Nat → Value),
      e = .returned (.slice (some ⟨g, 0, none⟩) n N) ∧ w.heap.size ≤ g ∧ w'.rowIs g 3 N F ∧ n ≤ N ∧ (∀ j, j < n → F j = .int .i64 (evz q zs (Dom.pt q s r j))) ∧ Below w.heap.size w w' := by
  have HP : Hid (∀ w1 : World, Calls Tryd.prog 8 #[.agg #[.int .i64 q, .int .i64 n, .int .i64 s, .int .i64 r]] w1 fun e w' => ∃ (g N : Nat) (F : Nat → Value),
      e = .returned (.slice (some ⟨g, 0, none⟩) n N) ∧ w1.heap.size ≤ g ∧ w'.rowIs g 3 N F ∧ n ≤ N ∧ (∀ j, j < n → F j = .int .i64 (Dom.pt q s r j)) ∧ Below w1.heap.size w1 w') := fun w1 => rpoints_any q n r s w1 h3 h4 hn0 hn hr0 hr1 hs0 hs1
  have hmx : Tryd.prog.follows .mixedOrders = true := by kernel_rfl
  have HF := hid hfit
  have HR := hid hrow
  clear hfit hrow
  go_enter Tryd.func19, Tryd.ntmps19
  go_wp2_with fail
  have HC0 : Hid ((w.alloc (.cells #[.int .i64 q, .int .i64 n, .int .i64 s, .int .i64 r] 24)).cell? ⟨w.heap.size, 0, none⟩ = some (.int .i64 q)) := by unfold Hid; simp
  have HB0 : Hid (Below w.heap.size w (w.alloc (.cells #[.int .i64 q, .int .i64 n, .int .i64 s, .int .i64 r] 24))) := (Below.refl _ _).alloc (Nat.le_refl _) _
  have hs0x : w.heap.size < (w.alloc (.cells #[.int .i64 q, .int .i64 n, .int .i64 s, .int .i64 r] 24)).heap.size := by simp
  refine (HP.out _).mono ?_
  generalize w.alloc (.cells #[.int .i64 q, .int .i64 n, .int .i64 s, .int .i64 r] 24) = W0 at *
  rintro e w1 ⟨g, N, F, rfl, hg, hri, hnN, hF, hb1⟩
  have HRI := hid hri
  have HFJ := hid hF
  have HB1 := hid hb1
  clear hri hF hb1 HP
  go_wp2_with fail
  go_loopw [6] (fun iv wr => ∃ (k : Nat) (F' : Nat → Value), k ≤ n ∧ iv = .int .i64 k ∧ Hid (wr.rowIs g 3 N F') ∧ Hid (∀ j, j < k → F' j = .int .i64 (evz q zs (Dom.pt q s r j))) ∧ Hid (∀ j, k ≤ j → j < n → F' j = .int .i64 (Dom.pt q s r j)) ∧ Hid (Below W0.heap.size W0 wr))
    (fun iv _ => n - (intOf iv).toNat)
  case atStart => exact ⟨0, F, Nat.zero_le _, rfl, HRI, fun j hj => by omega, fun j _ hj => HFJ.out j hj, HB1⟩
  case round =>
    obtain ⟨k, F', hk, rfl, hri, hlo, hhi, hbel⟩ := hrel
    have d0 := (hbel.out.cell (p := ⟨w.heap.size, 0, none⟩) hs0x).trans HC0.out
    by_cases hlt : k < n
    · have hlt2 : (k : Int) < (n : Int) := by omega
      have hok := hri.out.cell (i := k) (by omega)
      rw [hhi.out k (Nat.le_refl _) hlt] at hok
      have hos := hri.out.frozen k
      have hpt := emod_bounds (s * r ^ k) q h3
      rw [show s * r ^ k % (q : Int) = Dom.pt q s r k from rfl] at hpt
      have HE : Hid (∀ w1 : World, RowB w.heap.size w1 a zs → Calls Tryd.prog 33 #[.int .i64 q, .slice a zs.length cap, .int .i64 (Dom.pt q s r k)] w1 fun e w' => e = .returned (.int .i64 (evz q zs (Dom.pt q s r k))) ∧ w' = w1) :=
        fun w1 h => reval_any q cap (· < w.heap.size) a zs (Dom.pt q s r k) w1 h3 h4 hlen HF.out (by omega) (by omega) h
      have HRW : Hid (RowB w.heap.size wr a zs) := HR.out.below (HB0.out.trans (hbel.out.mono (by omega)))
      have HRI2 : Hid ((wr.setCell ⟨g, k, none⟩ (.int .i64 (evz q zs (Dom.pt q s r k)))).rowIs g 3 N (fun j => if j = k then .int .i64 (evz q zs (Dom.pt q s r k)) else F' j)) := hri.out.set k _
      have HLO : Hid (∀ j, j < k + 1 → (fun j => if j = k then Value.int .i64 (evz q zs (Dom.pt q s r k)) else F' j) j = .int .i64 (evz q zs (Dom.pt q s r j))) := fun j hj => by
        show (if j = k then _ else _) = _
        by_cases e : j = k
        · rw [if_pos e, e]
        · rw [if_neg e]; exact hlo.out j (by omega)
      have HHI : Hid (∀ j, k + 1 ≤ j → j < n → (fun j => if j = k then Value.int .i64 (evz q zs (Dom.pt q s r k)) else F' j) j = .int .i64 (Dom.pt q s r j)) := fun j h1 h2 => by
        show (if j = k then _ else _) = _
        rw [if_neg (by omega)]; exact hhi.out j (by omega) h2
      have HBN := hid (hbel.out.setCell (p := ⟨g, k, none⟩) hg (.int .i64 (evz q zs (Dom.pt q s r k))))
      clear hri hlo hhi
      obtain ⟨ev, hev⟩ : ∃ ev, ev = evz q zs (Dom.pt q s r k) := ⟨_, rfl⟩
      rw [← hev] at HE HRI2 HLO HHI HBN
      clear hev
      generalize Dom.pt q s r k = x at *
      go_wp2_with fail
      go_still_tail 10, hmx
      still_call (HE.out _ HRW.out)
      refine wpStill_nil ?_
      go_wp2_with fail
      go_roundw
      case rel => exact ⟨k + 1, _, by omega, by go_num, HRI2, HLO, HHI, HBN.out.drew⟩
      case measure => simp [intOf]; omega
    · have hlt2 : ¬ (k : Int) < (n : Int) := by omega
      have HE : Hid (w.heap.size ≤ g ∧ wr.rowIs g 3 N F' ∧ n ≤ N ∧ (∀ j, j < n → F' j = .int .i64 (evz q zs (Dom.pt q s r j))) ∧ Below w.heap.size w wr) :=
        ⟨by omega, hri.out, hnN, fun j hj => hlo.out j (by omega), HB0.out.trans (hbel.out.mono (by omega))⟩
      go_wp2_with fail
      go_ret
      first
        | exact ⟨g, N, F', rfl, HE.out⟩
        | exact ⟨g, N, rfl, HE.out.1, F', HE.out.2⟩

set_option maxRecDepth 100000 in
set_option maxHeartbeats 1000000 in
theorem rhalf_any (q m : Nat) (r s : Int) (w : World) (h3 : 3 ≤ q) (h4 : q ≤ 2147483647) (hmm : m ≤ 65536) (hr0 : 0 ≤ r) (hr1 : r < q) (hs0 : 0 ≤ s) (hs1 : s < q) :
    Calls Tryd.prog 17 #[.agg #[.int .i64 q, .int .i64 ((2 * m : Nat) : Int), .int .i64 s, .int .i64 r]] w fun e w' => e = .returned (.agg #[.int .i64 q, .int .i64 m, .int .i64 (s * s % (q : Int)), .int .i64 (r * r % (q : Int))]) ∧ Below w.heap.size w w' := by
  have HR : Hid (∀ w1 : World, Calls Tryd.prog 28 #[.int .i64 q, .int .i64 r, .int .i64 r] w1 fun e w' => e = .returned (.int .i64 (r * r % (q : Int))) ∧ w' = w1) := fun w1 => rmul_any q r r w1 h3 h4 (by omega) (by omega) (by omega) (by omega)
  have HS : Hid (∀ w1 : World, Calls Tryd.prog 28 #[.int .i64 q, .int .i64 s, .int .i64 s] w1 fun e w' => e = .returned (.int .i64 (s * s % (q : Int))) ∧ w' = w1) := fun w1 => rmul_any q s s w1 h3 h4 (by omega) (by omega) (by omega) (by omega)
  have e1 : ((2 * m : Nat) : Int) / 2 = (m : Int) := by omega
  have e2 : 0 ≤ ((2 * m : Nat) : Int) := by omega
  generalize r * r % (q : Int) = rr at *
  generalize s * s % (q : Int) = ss at *
  generalize ((2 * m : Nat) : Int) = n at *
  go_enter Tryd.func17, Tryd.ntmps17
  go_wp2_with fail
  refine (HS.out _).mono ?_
  rintro e w1 ⟨rfl, rfl⟩
  go_wp2_with fail
  refine (HR.out _).mono ?_
  rintro e w1 ⟨rfl, rfl⟩
  go_wp2_with fail
  (try simp only [Exit.inBlock, Exit.then])
  refine bodyPost_ret (results_cell_row rfl _ _ (w.heap.size + 1) 24 #[.int .i64 q, .int .i64 m, .int .i64 ss, .int .i64 rr] (0, 0) _ rfl (by have := heap_alloc_new (w.alloc (.cells #[.int .i64 q, .int .i64 n, .int .i64 s, .int .i64 r] 24)) (.cells #[.int .i64 q, .int .i64 m, .int .i64 ss, .int .i64 rr] 24); simpa using this) Tryd.underlying24 rfl (by kernel_rfl)) rfl ?_
  exact ⟨rfl, ((Below.refl _ _).alloc (Nat.le_refl _) _).alloc (by simp) _⟩

end Go.Proofs.YtidkhgplejglaacDoor
