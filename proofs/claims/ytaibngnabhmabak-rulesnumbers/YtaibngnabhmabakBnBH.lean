/- What pairs come to, and their products: package rules' product and Same, the reference's Number and Make. The law RulesNumbers answers true: two unlike pairs come to one number with at most one y. -/
import Derived.Test.YtaibngnabhmabakBnAO
import Derived.Test.YtaibngnabhmabakBnBG
namespace Go.Proofs.Ytaibngnabhmabak
open Go.RowKit

set_option maxRecDepth 100000 in
set_option maxHeartbeats 2000000 in
theorem pprod_any (p b c : Nat) (a : Option Addr) (L : List (Int × Int)) (x y : Int) (w : World) (h3 : 3 ≤ p) (hm : p ≤ 2147483647) (hp : w.cell? ⟨b, 0, none⟩ = some (.int .i64 p))
    (hx1 : -9223372036854775808 ≤ x) (hx2 : x ≤ 9223372036854775807) (hy1 : -9223372036854775808 ≤ y) (hy2 : y ≤ 9223372036854775807) (hn : L.length ≤ 281474976710656) (hL : LstC w.heap.size w a c L) (hB : CelB L) :
    Calls Try.prog 13 #[.pointer (some ⟨b, 0, none⟩), .slice a L.length c, .int .i64 x, .int .i64 y] w fun e w' => e = .returned (.int .i64 (prd p x y L L.length)) ∧ Below w.heap.size w w' := by
  have hbl : b < w.heap.size := World.block_lt_of_cell? _ _ hp
  have HL := hid hL
  have HB := hid hB
  have HP := hid hp
  obtain ⟨n, hn'⟩ : ∃ n, n = L.length := ⟨_, rfl⟩
  have HN := hid hn'
  rw [← hn'] at hn ⊢
  clear hL hB hp hn'
  go_enter Try.func13, Try.ntmps13
  go_wp2_with fail
  go_loopw [9, 14] (fun ov iv wr => ∃ k : Nat, k ≤ n ∧ iv = .int .i64 k ∧ ov = .int .i64 (prd p x y L k) ∧ Hid (Below w.heap.size w wr)) (fun _ iv _ => n - (intOf iv).toNat)
  case atStart => exact ⟨0, Nat.zero_le _, rfl, rfl, Below.refl _ _⟩
  case round =>
    obtain ⟨k, hk, rfl, rfl, HBw⟩ := hrel
    by_cases hlt : k < n
    · have hlt2 : (k : Int) < (n : Int) := by omega
      have hks : IntKind.i64.wrap ((k : Int) + 1) = (k : Int) + 1 := by rw [IntKind.wrap_i64]; omega
      obtain ⟨g, o, rfl, hg, c0, c1⟩ := HL.out.row k (by have := HN.out; omega)
      replace c0 := (HBw.out.cell (p := ⟨g, o + k * 2, none⟩) hg).trans c0
      replace c1 := (HBw.out.cell (p := ⟨g, o + k * 2 + 1, none⟩) hg).trans c1
      have hbd := HB.out k (by have := HN.out; omega)
      have hpc := (HBw.out.cell (p := ⟨b, 0, none⟩) hbl).trans HP.out
      have hpr := prd_bd h3 x y L k
      have hnb := nb_bd h3 y (cat L k)
      have HS : Hid (prd p x y L (k + 1) = prd p x y L k * ((x - nb p y (cat L k)) % (p : Int)) % (p : Int)) := rfl
      have hnp := nb_prog p y (cat L k)
      have e1 := emod_bounds (y * (cat L k).2) p h3
      have e2 := emod_bounds (x - nb p y (cat L k)) p h3
      have HM1 : Hid (∀ W : World, W.cell? ⟨b, 0, none⟩ = some (.int .i64 p) → Calls Try.prog 19 #[.pointer (some ⟨b, 0, none⟩), .int .i64 y, .int .i64 (cat L k).2] W fun e w' => e = .returned (.int .i64 (y * (cat L k).2 % (p : Int))) ∧ w' = W) :=
        fun W h => mul_any p b _ _ W h3 hm h hy1 hy2 hbd.2.1 hbd.2.2
      have HA1 : Hid (∀ W : World, W.cell? ⟨b, 0, none⟩ = some (.int .i64 p) → Calls Try.prog 20 #[.pointer (some ⟨b, 0, none⟩), .int .i64 (cat L k).1, .int .i64 (y * (cat L k).2 % (p : Int))] W fun e w' => e = .returned (.int .i64 (nb p y (cat L k))) ∧ w' = W) :=
        fun W h => by rw [← hnp]; exact add_any p b _ _ W h3 hm h hbd.1.1 hbd.1.2 (by omega) (by omega)
      have HS1 : Hid (∀ W : World, W.cell? ⟨b, 0, none⟩ = some (.int .i64 p) → Calls Try.prog 7 #[.pointer (some ⟨b, 0, none⟩), .int .i64 x, .int .i64 (nb p y (cat L k))] W fun e w' => e = .returned (.int .i64 ((x - nb p y (cat L k)) % (p : Int))) ∧ w' = W) :=
        fun W h => sub_any p b _ _ W h3 hm h hx1 hx2 (by omega) (by omega)
      have HM2 : Hid (∀ W : World, W.cell? ⟨b, 0, none⟩ = some (.int .i64 p) → Calls Try.prog 19 #[.pointer (some ⟨b, 0, none⟩), .int .i64 (prd p x y L k), .int .i64 ((x - nb p y (cat L k)) % (p : Int))] W fun e w' => e = .returned (.int .i64 (prd p x y L (k + 1))) ∧ w' = W) :=
        fun W h => by rw [HS.out]; exact mul_any p b _ _ W h3 hm h (by omega) (by omega) (by omega) (by omega)
      clear hbd hpr hnb HS hnp e1 e2
      obtain ⟨r1, hr1⟩ : ∃ r, r = prd p x y L (k + 1) := ⟨_, rfl⟩
      have HR1 := hid hr1
      rw [← hr1] at HM2
      clear hr1
      generalize prd p x y L k = r0 at *
      generalize (x - nb p y (cat L k)) % (p : Int) = s at *
      generalize nb p y (cat L k) = nn at *
      generalize y * (cat L k).2 % (p : Int) = m at *
      generalize (cat L k).1 = z0 at *
      generalize (cat L k).2 = z1 at *
      obtain ⟨W1, hW1⟩ : ∃ W1, W1 = wr.alloc (.cells #[.int .i64 z0, .int .i64 z1] 23) := ⟨_, rfl⟩
      have HB1 : Hid (Below w.heap.size w W1) := by unfold Hid; rw [hW1]; exact HBw.out.alloc HBw.out.size _
      have hbk : W1.heap[wr.heap.size]? = some (.cells #[.int .i64 z0, .int .i64 z1] 23 (0, 0)) := by rw [hW1]; exact heap_alloc_new wr _
      have q0 : W1.cell? ⟨wr.heap.size, 0, none⟩ = some (.int .i64 z0) := by simp [World.cell?, hbk]
      have q1 : W1.cell? ⟨wr.heap.size, 1, none⟩ = some (.int .i64 z1) := by simp [World.cell?, hbk]
      clear hbk
      have qp : W1.cell? ⟨b, 0, none⟩ = some (.int .i64 p) := (HB1.out.cell (p := ⟨b, 0, none⟩) hbl).trans HP.out
      have QP : Hid (∀ nn, (W1.drewN nn).cell? ⟨b, 0, none⟩ = some (.int .i64 p)) := fun nn => qp
      go_wp2_with fail
      rw [← hW1]
      clear hW1 c0 c1 hpc
      go_quiet (first
        | (go_at_call 19; first | with_reducible exact Calls.quiet_of_same (HM1.out _ (QP.out _)) | with_reducible exact Calls.quiet_of_same (HM2.out _ (QP.out _)))
        | (go_at_call 20; exact Calls.quiet_of_same (HA1.out _ qp))
        | (go_at_call 7; exact Calls.quiet_of_same (HS1.out _ qp)))
      go_wp2_with fail
      go_roundw
      case rel => exact ⟨k + 1, by omega, by go_num, by rw [HR1.out], below_drewN HB1.out _⟩
      case measure => simp [intOf]; omega
    · have hlt2 : ¬ (k : Int) < (n : Int) := by omega
      obtain rfl : k = n := by omega
      go_wp2_with fail
      go_ret
      exact ⟨rfl, HBw.out⟩

set_option maxHeartbeats 1000000 in
theorem psame_any (p b c d : Nat) (a a' : Option Addr) (L M : List (Int × Int)) (x y : Int) (w : World) (h3 : 3 ≤ p) (hm : p ≤ 2147483647) (hp : w.cell? ⟨b, 0, none⟩ = some (.int .i64 p))
    (hx1 : -9223372036854775808 ≤ x) (hx2 : x ≤ 9223372036854775807) (hy1 : -9223372036854775808 ≤ y) (hy2 : y ≤ 9223372036854775807) (hn : L.length ≤ 281474976710656) (hL : LstC w.heap.size w a c L) (hB : CelB L)
    (hn' : M.length ≤ 281474976710656) (hM : LstC w.heap.size w a' d M) (hC : CelB M) :
    Calls Try.prog 8 #[.pointer (some ⟨b, 0, none⟩), .slice a L.length c, .slice a' M.length d, .int .i64 x, .int .i64 y] w fun e w' => e = .returned (.bool (prd p x y L L.length == prd p x y M M.length)) ∧ Below w.heap.size w w' := by
  have hbl : b < w.heap.size := World.block_lt_of_cell? _ _ hp
  have H1 := hid (pprod_any p b c a L x y w h3 hm hp hx1 hx2 hy1 hy2 hn hL hB)
  have H2 : Hid (∀ W, Below w.heap.size w W → Calls Try.prog 13 #[.pointer (some ⟨b, 0, none⟩), .slice a' M.length d, .int .i64 x, .int .i64 y] W fun e w' => e = .returned (.int .i64 (prd p x y M M.length)) ∧ Below W.heap.size W w') :=
    fun W h => pprod_any p b d a' M x y W h3 hm ((h.cell (p := ⟨b, 0, none⟩) hbl).trans hp) hx1 hx2 hy1 hy2 hn' ((hM.below h).mono h.size) hC
  generalize prd p x y L L.length = r at *
  generalize prd p x y M M.length = s at *
  generalize L.length = n at *
  generalize M.length = m at *
  clear hL hB hM hC hp
  go_enter Try.func8, Try.ntmps8
  go_wp2_with fail
  refine H1.out.mono ?_
  rintro e w1 ⟨rfl, hb1⟩
  have HB1 := hid hb1
  have H3 := hid (H2.out w1 hb1)
  clear hb1 H1 H2
  go_wp2_with fail
  refine H3.out.mono ?_
  rintro e w2 ⟨rfl, hb2⟩
  have HB2 := hid (HB1.out.trans (hb2.mono HB1.out.size))
  clear hb2 H3
  go_wp2_with fail
  go_ret
  exact ⟨rfl, HB2.out⟩

end Go.Proofs.Ytaibngnabhmabak

namespace Go.Proofs.Ytaibngnabhmabak
open Go.RowKit Go.Maps

/-- one pair's product is its number's -/
theorem prd_one (p : Nat) (y : Int) (c : Int × Int) : prd p 0 y [c] 1 = (0 - (c.1 + c.2 * y)) % (p : Int) := by
  show 1 * ((0 - nb p y (cat [c] 0)) % (p : Int)) % (p : Int) = _
  rw [Int.one_mul, Int.emod_emod_of_dvd _ (Int.dvd_refl _), show cat [c] 0 = c from rfl, nb, Int.sub_emod, Int.emod_emod_of_dvd _ (Int.dvd_refl _), ← Int.sub_emod]
/-- two unlike pairs: unlike with one of two unlike y -/
theorem nums_apart {q : Nat} (hp : Num.Prime q) {a0 a1 b0 b1 y z : Int} (hab : ¬ ((a0 - b0) % (q : Int) = 0 ∧ (a1 - b1) % (q : Int) = 0)) (hyz : (y - z) % (q : Int) ≠ 0) (h1 : prd q 0 y [(a0, a1)] 1 = prd q 0 y [(b0, b1)] 1) (h2 : prd q 0 z [(a0, a1)] 1 = prd q 0 z [(b0, b1)] 1) : False := by
  rw [prd_one, prd_one] at h1 h2
  have d1 := Int.dvd_of_emod_eq_zero (Int.emod_eq_emod_iff_emod_sub_eq_zero.1 h1)
  have d2 := Int.dvd_of_emod_eq_zero (Int.emod_eq_emod_iff_emod_sub_eq_zero.1 h2)
  simp only at d1 d2
  have d3 := Int.dvd_sub d2 d1
  have e3 : (0 - (a0 + a1 * z) - (0 - (b0 + b1 * z))) - (0 - (a0 + a1 * y) - (0 - (b0 + b1 * y))) = (a1 - b1) * (y - z) := by grind
  rw [e3] at d3
  rcases Pol.prime_mul hp d3 with d | d
  · refine hab ⟨?_, Int.emod_eq_zero_of_dvd d⟩
    have d4 := Int.dvd_sub (Int.dvd_neg.2 d1) (Int.dvd_trans d (Int.dvd_mul_right _ y))
    have e4 : -(0 - (a0 + a1 * y) - (0 - (b0 + b1 * y))) - (a1 - b1) * y = a0 - b0 := by grind
    rw [e4] at d4
    exact Int.emod_eq_zero_of_dvd d4
  · exact hyz (Int.emod_eq_zero_of_dvd d)
/-- a list of one pair -/
theorem lstC_one {w : World} {g : Nat} {c0 c1 : Int} (h : w.heap[g]? = some (.cells #[.int .i64 c0, .int .i64 c1] 23 (0, 0))) : LstC w.heap.size w (some ⟨g, 0, none⟩) 1 [(c0, c1)] := by
  refine ⟨fun k hk => ⟨g, 0, rfl, (Array.getElem?_eq_some_iff.1 h).1, ?_⟩, Nat.le_refl _, fun e => by cases e⟩
  have hk0 : k = 0 := by simpa using hk
  subst hk0
  simp [World.cell?, h, cat]

set_option maxRecDepth 100000 in
set_option maxHeartbeats 4000000 in
theorem rnumbers_walk (p y z a0 a1 b0 b1 : Int) (w : World) (hp1 : -9223372036854775808 ≤ p) (hp2 : p ≤ 9223372036854775807) (hy1 : -9223372036854775808 ≤ y) (hy2 : y ≤ 9223372036854775807) (hz1 : -9223372036854775808 ≤ z) (hz2 : z ≤ 9223372036854775807)
    (ha : (-9223372036854775808 ≤ a0 ∧ a0 ≤ 9223372036854775807) ∧ (-9223372036854775808 ≤ a1 ∧ a1 ≤ 9223372036854775807)) (hb : (-9223372036854775808 ≤ b0 ∧ b0 ≤ 9223372036854775807) ∧ (-9223372036854775808 ≤ b1 ∧ b1 ≤ 9223372036854775807)) :
    Calls Try.prog 3 #[.int .i64 p, .agg #[.int .i64 a0, .int .i64 a1], .agg #[.int .i64 b0, .int .i64 b1], .int .i64 y, .int .i64 z] w fun e w' => e = .returned (.bool true) ∧ Below w.heap.size w w' := by
  obtain ⟨W0, hW0⟩ : ∃ W0, W0 = (w.alloc (.cells #[.int .i64 a0, .int .i64 a1] 23)).alloc (.cells #[.int .i64 b0, .int .i64 b1] 23) := ⟨_, rfl⟩
  have hb0 : Below w.heap.size w W0 := by rw [hW0]; exact ((Below.refl _ _).alloc (Nat.le_refl _) _).alloc (by simp) _
  have hA0 : W0.heap[w.heap.size]? = some (.cells #[.int .i64 a0, .int .i64 a1] 23 (0, 0)) := by
    rw [hW0, heap_alloc_old _ _ (by simp)]; exact heap_alloc_new w _
  have hB0 : W0.heap[w.heap.size + 1]? = some (.cells #[.int .i64 b0, .int .i64 b1] 23 (0, 0)) := by
    rw [hW0]; have := heap_alloc_new (w.alloc (.cells #[.int .i64 a0, .int .i64 a1] 23)) (.cells #[.int .i64 b0, .int .i64 b1] 23); simpa using this
  obtain ⟨A, hA⟩ : ∃ A, A = w.heap.size := ⟨_, rfl⟩
  obtain ⟨B, hB⟩ : ∃ B, B = w.heap.size + 1 := ⟨_, rfl⟩
  rw [← hA] at hA0
  rw [← hB] at hB0
  have HB0 := hid hb0
  have HCL : Hid (∀ W, Below W0.heap.size W0 W → (W.cell? ⟨A, 0, none⟩ = some (.int .i64 a0) ∧ W.cell? ⟨A, 1, none⟩ = some (.int .i64 a1)) ∧ (W.cell? ⟨B, 0, none⟩ = some (.int .i64 b0) ∧ W.cell? ⟨B, 1, none⟩ = some (.int .i64 b1))) := fun W h => by
    have h1 := (h.block A (Array.getElem?_eq_some_iff.1 hA0).1).trans hA0
    have h2 := (h.block B (Array.getElem?_eq_some_iff.1 hB0).1).trans hB0
    exact ⟨⟨by simp [World.cell?, h1], by simp [World.cell?, h1]⟩, ⟨by simp [World.cell?, h2], by simp [World.cell?, h2]⟩⟩
  have HLV := hid (lives7_any W0)
  have HAB : Hid (A < W0.heap.size ∧ B < W0.heap.size) := ⟨(Array.getElem?_eq_some_iff.1 hA0).1, (Array.getElem?_eq_some_iff.1 hB0).1⟩
  clear hA0 hB0 hb0
  go_enter Try.func3, Try.ntmps3
  go_wp2_with fail
  rw [← hW0, ← hB, ← hA]
  clear hW0 hA hB
  refine HLV.out.mono ?_
  rintro e w1 ⟨rfl, hb1⟩
  have HB1 := hid hb1
  clear hb1 HLV
  by_cases hok : okPrime p
  · obtain ⟨q, rfl⟩ := Int.eq_ofNat_of_zero_le (show 0 ≤ p by have := hok.1; omega)
    obtain ⟨hq3, hq4, hqp⟩ := hok
    rw [Int.toNat_natCast] at hqp
    have h3 : 3 ≤ q := by omega
    have h4 : q ≤ 2147483647 := by omega
    have HP := hid hqp
    have HPL := hid (plain7_yes q w1 h3 h4 hqp)
    clear hqp hq3 hq4 hp1 hp2
    go_wp2_with fail
    refine HPL.out.mono ?_
    rintro e w2 ⟨rfl, hc2, hb2⟩
    have HB2 := hid (HB1.out.trans (hb2.mono HB1.out.size))
    obtain ⟨fb, hfb⟩ : ∃ fb, fb = w1.heap.size := ⟨_, rfl⟩
    rw [← hfb] at hc2 ⊢
    obtain ⟨⟨cA0, cA1⟩, cB0, cB1⟩ := HCL.out w2 HB2.out
    have hwb : ∀ x : Int, -9223372036854775808 ≤ IntKind.i64.wrap x ∧ IntKind.i64.wrap x ≤ 9223372036854775807 := fun x => by rw [IntKind.wrap_i64]; omega
    obtain ⟨d0, hd0⟩ : ∃ d, d = IntKind.i64.wrap (a0 - b0) := ⟨_, rfl⟩
    obtain ⟨d1, hd1⟩ : ∃ d, d = IntKind.i64.wrap (a1 - b1) := ⟨_, rfl⟩
    have e0 := hd0.symm
    have e1 := hd1.symm
    have HO1 := hid (of_any q fb d0 w2 h3 h4 hc2 (by rw [hd0]; exact (hwb _).1) (by rw [hd0]; exact (hwb _).2))
    have HO2 := hid (of_any q fb d1 w2 h3 h4 hc2 (by rw [hd1]; exact (hwb _).1) (by rw [hd1]; exact (hwb _).2))
    have HD0 := hid hd0
    have HD1 := hid hd1
    clear hd0 hd1 hwb
    have HS1 := hid (sub_any q fb y z w2 h3 h4 hc2 hy1 hy2 hz1 hz2)
    have HC2 := hid hc2
    clear hb2 HPL hfb HB1 hc2
    go_wp2_with fail
    refine HO1.out.mono ?_
    rintro e w3 ⟨rfl, hw3⟩
    have hw3' := hw3.symm
    subst hw3'
    obtain ⟨s, hs⟩ : ∃ s, s = d0 % (q : Int) := ⟨_, rfl⟩
    rw [← hs]
    have HS := hid hs
    clear hs hw3
    go_wp2_with fail
    refine HO2.out.mono ?_
    rintro e w3 ⟨rfl, hw3⟩
    have hw3' := hw3.symm
    subst hw3'
    obtain ⟨t, ht⟩ : ∃ t, t = d1 % (q : Int) := ⟨_, rfl⟩
    rw [← ht]
    have HT := hid ht
    clear ht hw3 HO1 HO2
    go_wp2_with fail
    refine HS1.out.mono ?_
    rintro e w3 ⟨rfl, hw3⟩
    have hw3' := hw3.symm
    subst hw3'
    obtain ⟨u, hu⟩ : ∃ u, u = (y - z) % (q : Int) := ⟨_, rfl⟩
    rw [← hu]
    have HU := hid hu
    have HBF := hid (HB0.out.trans (HB2.out.mono HB0.out.size))
    clear hu hw3 HS1
    by_cases n0 : a0 < 0
    · clear ha hb
      go_wp2_with fail
      go_ret
      exact ⟨rfl, HBF.out⟩
    by_cases n1 : b0 < 0
    · clear ha hb
      go_wp2_with fail
      go_ret
      exact ⟨rfl, HBF.out⟩
    by_cases n2 : a1 < 0
    · clear ha hb
      go_wp2_with fail
      go_ret
      exact ⟨rfl, HBF.out⟩
    by_cases n3 : b1 < 0
    · clear ha hb
      go_wp2_with fail
      go_ret
      exact ⟨rfl, HBF.out⟩
    have HS2 : Hid (s = (a0 - b0) % (q : Int)) := by unfold Hid; rw [HS.out, HD0.out, show IntKind.i64.wrap (a0 - b0) = a0 - b0 by rw [IntKind.wrap_i64]; omega]
    have HT2 : Hid (t = (a1 - b1) % (q : Int)) := by unfold Hid; rw [HT.out, HD1.out, show IntKind.i64.wrap (a1 - b1) = a1 - b1 by rw [IntKind.wrap_i64]; omega]
    have HCA : Hid (CelB [(a0, a1)]) := fun k hk => by
      have hk0 : k = 0 := by simpa using hk
      subst hk0; exact ha
    have HCB : Hid (CelB [(b0, b1)]) := fun k hk => by
      have hk0 : k = 0 := by simpa using hk
      subst hk0; exact hb
    have HAP : Hid (¬ (s = 0 ∧ t = 0) → u ≠ 0 → prd q 0 y [(a0, a1)] 1 = prd q 0 y [(b0, b1)] 1 → prd q 0 z [(a0, a1)] 1 = prd q 0 z [(b0, b1)] 1 → False) := fun g1 g2 g3 g4 =>
      nums_apart HP.out (by rw [← HS2.out, ← HT2.out]; exact g1) (by rw [← HU.out]; exact g2) g3 g4
    clear ha hb HS HT HS2 HT2 HU e0 e1 HD0 HD1
    by_cases hu : u = 0
    · have qu : (u == 0) = true := by simp [hu]
      clear hu HAP
      by_cases hs : s = 0
      · have qs : (s == 0) = true := by simp [hs]
        clear hs
        by_cases ht : t = 0
        · have qt : (t == 0) = true := by simp [ht]
          clear ht
          go_wp2_with fail
          go_ret
          exact ⟨rfl, HBF.out⟩
        · have qt : (t == 0) = false := by simp [ht]
          clear ht
          go_wp2_with fail
          go_ret
          exact ⟨rfl, HBF.out⟩
      · have qs : (s == 0) = false := by simp [hs]
        clear hs
        go_wp2_with fail
        go_ret
        exact ⟨rfl, HBF.out⟩
    have qu : (u == 0) = false := by simp [hu]
    by_cases hst : s = 0 ∧ t = 0
    · have qs : (s == 0) = true := by simp [hst.1]
      have qt : (t == 0) = true := by simp [hst.2]
      clear hst hu HAP
      go_wp2_with fail
      go_ret
      exact ⟨rfl, HBF.out⟩
    have HAP2 := hid (HAP.out hst hu)
    clear HAP hu
    obtain ⟨W3, hW3⟩ : ∃ W, W = (w2.alloc (.cells #[.int .i64 a0, .int .i64 a1] 23)).alloc (.cells #[.int .i64 b0, .int .i64 b1] 23) := ⟨_, rfl⟩
    have hbb : Below w2.heap.size w2 W3 := by rw [hW3]; exact ((Below.refl _ _).alloc (Nat.le_refl _) _).alloc (by simp) _
    have l1 : LstC W3.heap.size W3 (some ⟨w2.heap.size, 0, none⟩) 1 [(a0, a1)] := lstC_one (by rw [hW3, heap_alloc_old _ _ (by simp)]; exact heap_alloc_new w2 _)
    have l2 : LstC W3.heap.size W3 (some ⟨w2.heap.size + 1, 0, none⟩) 1 [(b0, b1)] := lstC_one (by
      rw [hW3]; have := heap_alloc_new (w2.alloc (.cells #[.int .i64 a0, .int .i64 a1] 23)) (.cells #[.int .i64 b0, .int .i64 b1] 23); simpa using this)
    have HBW := hid (HB2.out.trans (hbb.mono HB2.out.size))
    have HSM := hid (psame_any q fb 1 1 (some ⟨w2.heap.size, 0, none⟩) (some ⟨w2.heap.size + 1, 0, none⟩) [(a0, a1)] [(b0, b1)] 0 y W3 h3 h4 ((hbb.cell (p := ⟨fb, 0, none⟩) (World.block_lt_of_cell? _ _ HC2.out)).trans HC2.out) (by decide) (by decide) hy1 hy2 (by simp) l1 HCA.out (by simp) l2 HCB.out)
    clear hbb l1 l2
    have hBl : B < w2.heap.size := Nat.lt_of_lt_of_le HAB.out.2 HB2.out.size
    have HB23 : Hid (Below w2.heap.size w2 W3) := by unfold Hid; rw [hW3]; exact ((Below.refl _ _).alloc (Nat.le_refl _) _).alloc (by simp) _
    obtain ⟨r1, hr1⟩ : ∃ r, r = (prd q 0 y [(a0, a1)] [(a0, a1)].length == prd q 0 y [(b0, b1)] [(b0, b1)].length) := ⟨_, rfl⟩
    rw [← hr1] at HSM
    have HR1 := hid hr1
    clear hr1
    have hgo : ∀ W, Below W0.heap.size W0 W → (W.cell? ⟨A, 0, none⟩ = some (.int .i64 a0) ∧ W.cell? ⟨A, 1, none⟩ = some (.int .i64 a1)) ∧ (W.cell? ⟨B, 0, none⟩ = some (.int .i64 b0) ∧ W.cell? ⟨B, 1, none⟩ = some (.int .i64 b1)) := HCL.out
    have HGO := hid hgo
    clear hgo
    by_cases hs : s = 0
    · have ht : ¬ t = 0 := fun e => hst ⟨hs, e⟩
      have qs : (s == 0) = true := by simp [hs]
      have qt : (t == 0) = false := by simp [ht]
      clear hs ht hst
      go_wp2_with fail
      rw [← hW3]
      clear hW3
      refine HSM.out.mono ?_
      rintro e w4 ⟨rfl, hb4⟩
      have HB4 := hid (HBW.out.trans (hb4.mono HBW.out.size))
      have HB24 : Below w2.heap.size w2 w4 := (HB23.out).trans (hb4.mono HB23.out.size)
      have HC4 : Hid (w4.cell? ⟨fb, 0, none⟩ = some (.int .i64 q)) := (HB24.cell (p := ⟨fb, 0, none⟩) (World.block_lt_of_cell? _ _ HC2.out)).trans HC2.out
      obtain ⟨⟨c0, c1⟩, d0, d1⟩ := HGO.out w4 HB4.out
      have hBl4 : B < w4.heap.size := Nat.lt_of_lt_of_le HAB.out.2 HB4.out.size
      clear hb4 HSM HBW cA0 cA1 cB0 cB1 hBl
      obtain ⟨W5, hW5⟩ : ∃ W, W = (w4.alloc (.cells #[.int .i64 a0, .int .i64 a1] 23)).alloc (.cells #[.int .i64 b0, .int .i64 b1] 23) := ⟨_, rfl⟩
      have hbb : Below w4.heap.size w4 W5 := by rw [hW5]; exact ((Below.refl _ _).alloc (Nat.le_refl _) _).alloc (by simp) _
      have l1 : LstC W5.heap.size W5 (some ⟨w4.heap.size, 0, none⟩) 1 [(a0, a1)] := lstC_one (by rw [hW5, heap_alloc_old _ _ (by simp)]; exact heap_alloc_new w4 _)
      have l2 : LstC W5.heap.size W5 (some ⟨w4.heap.size + 1, 0, none⟩) 1 [(b0, b1)] := lstC_one (by
        rw [hW5]; have := heap_alloc_new (w4.alloc (.cells #[.int .i64 a0, .int .i64 a1] 23)) (.cells #[.int .i64 b0, .int .i64 b1] 23); simpa using this)
      have HBW := hid (HB4.out.trans (hbb.mono HB4.out.size))
      have HSM := hid (psame_any q fb 1 1 (some ⟨w4.heap.size, 0, none⟩) (some ⟨w4.heap.size + 1, 0, none⟩) [(a0, a1)] [(b0, b1)] 0 z W5 h3 h4 ((hbb.cell (p := ⟨fb, 0, none⟩) (World.block_lt_of_cell? _ _ HC4.out)).trans HC4.out) (by decide) (by decide) hz1 hz2 (by simp) l1 HCA.out (by simp) l2 HCB.out)
      clear hbb l1 l2
      obtain ⟨r2, hr2⟩ : ∃ r, r = (prd q 0 z [(a0, a1)] [(a0, a1)].length == prd q 0 z [(b0, b1)] [(b0, b1)].length) := ⟨_, rfl⟩
      rw [← hr2] at HSM
      have HR2 := hid hr2
      clear hr2
      have HBE := hid (HB0.out.trans (HBW.out.mono HB0.out.size))
      have HNO : Hid (¬ (r1 = true ∧ r2 = true)) := fun g => HAP2.out (by have := HR1.out; rw [g.1] at this; simpa using this.symm) (by have := HR2.out; rw [g.2] at this; simpa using this.symm)
      go_wp2_with fail
      rw [← hW5]
      clear hW5
      refine HSM.out.mono ?_
      rintro e w6 ⟨rfl, hb6⟩
      have HB6 := hid (HBE.out.trans (hb6.mono HBE.out.size))
      clear hb6 HSM HR1 HR2 HAP2
      cases r1 with
      | false =>
        go_wp2_with fail
        go_ret
        exact ⟨rfl, HB6.out⟩
      | true =>
        cases r2 with
        | false =>
          go_wp2_with fail
          go_ret
          exact ⟨rfl, HB6.out⟩
        | true => exact absurd ⟨rfl, rfl⟩ HNO.out
    · have qs : (s == 0) = false := by simp [hs]
      clear hs hst
      go_wp2_with fail
      rw [← hW3]
      clear hW3
      refine HSM.out.mono ?_
      rintro e w4 ⟨rfl, hb4⟩
      have HB4 := hid (HBW.out.trans (hb4.mono HBW.out.size))
      have HB24 : Below w2.heap.size w2 w4 := (HB23.out).trans (hb4.mono HB23.out.size)
      have HC4 : Hid (w4.cell? ⟨fb, 0, none⟩ = some (.int .i64 q)) := (HB24.cell (p := ⟨fb, 0, none⟩) (World.block_lt_of_cell? _ _ HC2.out)).trans HC2.out
      obtain ⟨⟨c0, c1⟩, d0, d1⟩ := HGO.out w4 HB4.out
      have hBl4 : B < w4.heap.size := Nat.lt_of_lt_of_le HAB.out.2 HB4.out.size
      clear hb4 HSM HBW cA0 cA1 cB0 cB1 hBl
      obtain ⟨W5, hW5⟩ : ∃ W, W = (w4.alloc (.cells #[.int .i64 a0, .int .i64 a1] 23)).alloc (.cells #[.int .i64 b0, .int .i64 b1] 23) := ⟨_, rfl⟩
      have hbb : Below w4.heap.size w4 W5 := by rw [hW5]; exact ((Below.refl _ _).alloc (Nat.le_refl _) _).alloc (by simp) _
      have l1 : LstC W5.heap.size W5 (some ⟨w4.heap.size, 0, none⟩) 1 [(a0, a1)] := lstC_one (by rw [hW5, heap_alloc_old _ _ (by simp)]; exact heap_alloc_new w4 _)
      have l2 : LstC W5.heap.size W5 (some ⟨w4.heap.size + 1, 0, none⟩) 1 [(b0, b1)] := lstC_one (by
        rw [hW5]; have := heap_alloc_new (w4.alloc (.cells #[.int .i64 a0, .int .i64 a1] 23)) (.cells #[.int .i64 b0, .int .i64 b1] 23); simpa using this)
      have HBW := hid (HB4.out.trans (hbb.mono HB4.out.size))
      have HSM := hid (psame_any q fb 1 1 (some ⟨w4.heap.size, 0, none⟩) (some ⟨w4.heap.size + 1, 0, none⟩) [(a0, a1)] [(b0, b1)] 0 z W5 h3 h4 ((hbb.cell (p := ⟨fb, 0, none⟩) (World.block_lt_of_cell? _ _ HC4.out)).trans HC4.out) (by decide) (by decide) hz1 hz2 (by simp) l1 HCA.out (by simp) l2 HCB.out)
      clear hbb l1 l2
      obtain ⟨r2, hr2⟩ : ∃ r, r = (prd q 0 z [(a0, a1)] [(a0, a1)].length == prd q 0 z [(b0, b1)] [(b0, b1)].length) := ⟨_, rfl⟩
      rw [← hr2] at HSM
      have HR2 := hid hr2
      clear hr2
      have HBE := hid (HB0.out.trans (HBW.out.mono HB0.out.size))
      have HNO : Hid (¬ (r1 = true ∧ r2 = true)) := fun g => HAP2.out (by have := HR1.out; rw [g.1] at this; simpa using this.symm) (by have := HR2.out; rw [g.2] at this; simpa using this.symm)
      go_wp2_with fail
      rw [← hW5]
      clear hW5
      refine HSM.out.mono ?_
      rintro e w6 ⟨rfl, hb6⟩
      have HB6 := hid (HBE.out.trans (hb6.mono HBE.out.size))
      clear hb6 HSM HR1 HR2 HAP2
      cases r1 with
      | false =>
        go_wp2_with fail
        go_ret
        exact ⟨rfl, HB6.out⟩
      | true =>
        cases r2 with
        | false =>
          go_wp2_with fail
          go_ret
          exact ⟨rfl, HB6.out⟩
        | true => exact absurd ⟨rfl, rfl⟩ HNO.out
  · have HPL := hid (plain7_no p w1 hok hp1 hp2)
    have HBF := hid (HB0.out.trans (HB1.out.mono HB0.out.size))
    clear hok hp1 hp2 ha hb
    go_wp2_with fail
    refine HPL.out.mono ?_
    rintro e w2 ⟨rfl, hw2⟩
    have hw2' := hw2.symm
    subst hw2'
    go_wp2_with fail
    go_ret
    exact ⟨rfl, HBF.out⟩

end Go.Proofs.Ytaibngnabhmabak
