/- What pairs come to, and their products: package rules' product and Same, the reference's Number and Make. -/
import Derived.Test.YthemehdcakimgakDoorRuA
namespace Go.Proofs.YthemehdcakimgakDoor
open Go.RowKit

set_option maxRecDepth 100000 in
set_option maxHeartbeats 2000000 in
theorem pprod_any (p b c : Nat) (a : Option Addr) (L : List (Int × Int)) (x y : Int) (w : World) (h3 : 3 ≤ p) (hm : p ≤ 2147483647) (hp : w.cell? ⟨b, 0, none⟩ = some (.int .i64 p))
    (hx1 : -9223372036854775808 ≤ x) (hx2 : x ≤ 9223372036854775807) (hy1 : -9223372036854775808 ≤ y) (hy2 : y ≤ 9223372036854775807) (hn : L.length ≤ 281474976710656) (hL : LstC w.heap.size w a c L) (hB : CelB L) :
    Calls Tryd.prog 25 #[.pointer (some ⟨b, 0, none⟩), .slice a L.length c, .int .i64 x, .int .i64 y] w fun e w' => e = .returned (.int .i64 (prd p x y L L.length)) ∧ Below w.heap.size w w' := by
  have hbl : b < w.heap.size := World.block_lt_of_cell? _ _ hp
  have HL := hid hL
  have HB := hid hB
  have HP := hid hp
  obtain ⟨n, hn'⟩ : ∃ n, n = L.length := ⟨_, rfl⟩
  have HN := hid hn'
  rw [← hn'] at hn ⊢
  clear hL hB hp hn'
  go_enter Tryd.func25, Tryd.ntmps25
  go_wp2_with fail
  go_loopw [9, 14] (fun ov iv wr => ∃ k : Nat, k ≤ n ∧ iv = .int .i64 k ∧ ov = .int .i64 (prd p x y L k) ∧ Hid (Below w.heap.size w wr)) (fun _ iv _ => n - (intOf iv).toNat)
  case atStart => exact ⟨0, Nat.zero_le _, rfl, rfl, Below.refl _ _⟩
  case round =>
    obtain ⟨k, hk, rfl, rfl, HBw⟩ := hrel
    by_cases hlt : k < n
    · have hlt2 : (k : Int) < (n : Int) := by omega
      have hks : IntKind.i64.wrap ((k : Int) + 1) = (k : Int) + 1 := by rw [IntKind.wrap_i64]; omega
      obtain ⟨g, o, rfl, hg, c0, c1⟩ := HL.out.row k (by have := HN.out; omega)
      replace c0 := (HBw.out.cell (p := ⟨g, o + k * 2, none⟩) hg).trans c0
      replace c1 := (HBw.out.cell (p := ⟨g, o + k * 2 + 1, none⟩) hg).trans c1
      have hbd := HB.out k (by have := HN.out; omega)
      have hpc := (HBw.out.cell (p := ⟨b, 0, none⟩) hbl).trans HP.out
      have hpr := prd_bd h3 x y L k
      have hnb := nb_bd h3 y (cat L k)
      have HS : Hid (prd p x y L (k + 1) = prd p x y L k * ((x - nb p y (cat L k)) % (p : Int)) % (p : Int)) := rfl
      have hnp := nb_prog p y (cat L k)
      have e1 := emod_bounds (y * (cat L k).2) p h3
      have e2 := emod_bounds (x - nb p y (cat L k)) p h3
      have HM1 : Hid (∀ W : World, W.cell? ⟨b, 0, none⟩ = some (.int .i64 p) → Calls Tryd.prog 29 #[.pointer (some ⟨b, 0, none⟩), .int .i64 y, .int .i64 (cat L k).2] W fun e w' => e = .returned (.int .i64 (y * (cat L k).2 % (p : Int))) ∧ w' = W) :=
        fun W h => mul_any p b _ _ W h3 hm h hy1 hy2 hbd.2.1 hbd.2.2
      have HA1 : Hid (∀ W : World, W.cell? ⟨b, 0, none⟩ = some (.int .i64 p) → Calls Tryd.prog 45 #[.pointer (some ⟨b, 0, none⟩), .int .i64 (cat L k).1, .int .i64 (y * (cat L k).2 % (p : Int))] W fun e w' => e = .returned (.int .i64 (nb p y (cat L k))) ∧ w' = W) :=
        fun W h => by rw [← hnp]; exact add_any p b _ _ W h3 hm h hbd.1.1 hbd.1.2 (by omega) (by omega)
      have HS1 : Hid (∀ W : World, W.cell? ⟨b, 0, none⟩ = some (.int .i64 p) → Calls Tryd.prog 44 #[.pointer (some ⟨b, 0, none⟩), .int .i64 x, .int .i64 (nb p y (cat L k))] W fun e w' => e = .returned (.int .i64 ((x - nb p y (cat L k)) % (p : Int))) ∧ w' = W) :=
        fun W h => sub_any p b _ _ W h3 hm h hx1 hx2 (by omega) (by omega)
      have HM2 : Hid (∀ W : World, W.cell? ⟨b, 0, none⟩ = some (.int .i64 p) → Calls Tryd.prog 29 #[.pointer (some ⟨b, 0, none⟩), .int .i64 (prd p x y L k), .int .i64 ((x - nb p y (cat L k)) % (p : Int))] W fun e w' => e = .returned (.int .i64 (prd p x y L (k + 1))) ∧ w' = W) :=
        fun W h => by rw [HS.out]; exact mul_any p b _ _ W h3 hm h (by omega) (by omega) (by omega) (by omega)
      clear hbd hpr hnb HS hnp e1 e2
      obtain ⟨r1, hr1⟩ : ∃ r, r = prd p x y L (k + 1) := ⟨_, rfl⟩
      have HR1 := hid hr1
      rw [← hr1] at HM2
      clear hr1
      generalize prd p x y L k = r0 at *
      generalize (x - nb p y (cat L k)) % (p : Int) = s at *
      generalize nb p y (cat L k) = nn at *
      generalize y * (cat L k).2 % (p : Int) = m at *
      generalize (cat L k).1 = z0 at *
      generalize (cat L k).2 = z1 at *
      obtain ⟨W1, hW1⟩ : ∃ W1, W1 = wr.alloc (.cells #[.int .i64 z0, .int .i64 z1] 39) := ⟨_, rfl⟩
      have HB1 : Hid (Below w.heap.size w W1) := by unfold Hid; rw [hW1]; exact HBw.out.alloc HBw.out.size _
      have hbk : W1.heap[wr.heap.size]? = some (.cells #[.int .i64 z0, .int .i64 z1] 39 (0, 0)) := by rw [hW1]; exact heap_alloc_new wr _
      have q0 : W1.cell? ⟨wr.heap.size, 0, none⟩ = some (.int .i64 z0) := by simp [World.cell?, hbk]
      have q1 : W1.cell? ⟨wr.heap.size, 1, none⟩ = some (.int .i64 z1) := by simp [World.cell?, hbk]
      clear hbk
      have qp : W1.cell? ⟨b, 0, none⟩ = some (.int .i64 p) := (HB1.out.cell (p := ⟨b, 0, none⟩) hbl).trans HP.out
      have QP : Hid (∀ nn, (W1.drewN nn).cell? ⟨b, 0, none⟩ = some (.int .i64 p)) := fun nn => qp
      go_wp2_with fail
      rw [← hW1]
      clear hW1 c0 c1 hpc
      go_quiet (first
        | (go_at_call 29; first | with_reducible exact Calls.quiet_of_same (HM1.out _ (QP.out _)) | with_reducible exact Calls.quiet_of_same (HM2.out _ (QP.out _)))
        | (go_at_call 45; exact Calls.quiet_of_same (HA1.out _ qp))
        | (go_at_call 44; exact Calls.quiet_of_same (HS1.out _ qp)))
      go_wp2_with fail
      go_roundw
      case rel => exact ⟨k + 1, by omega, by go_num, by rw [HR1.out], below_drewN HB1.out _⟩
      case measure => simp [intOf]; omega
    · have hlt2 : ¬ (k : Int) < (n : Int) := by omega
      obtain rfl : k = n := by omega
      go_wp2_with fail
      go_ret
      exact ⟨rfl, HBw.out⟩

set_option maxHeartbeats 1000000 in
theorem psame_any (p b c d : Nat) (a a' : Option Addr) (L M : List (Int × Int)) (x y : Int) (w : World) (h3 : 3 ≤ p) (hm : p ≤ 2147483647) (hp : w.cell? ⟨b, 0, none⟩ = some (.int .i64 p))
    (hx1 : -9223372036854775808 ≤ x) (hx2 : x ≤ 9223372036854775807) (hy1 : -9223372036854775808 ≤ y) (hy2 : y ≤ 9223372036854775807) (hn : L.length ≤ 281474976710656) (hL : LstC w.heap.size w a c L) (hB : CelB L)
    (hn' : M.length ≤ 281474976710656) (hM : LstC w.heap.size w a' d M) (hC : CelB M) :
    Calls Tryd.prog 15 #[.pointer (some ⟨b, 0, none⟩), .slice a L.length c, .slice a' M.length d, .int .i64 x, .int .i64 y] w fun e w' => e = .returned (.bool (prd p x y L L.length == prd p x y M M.length)) ∧ Below w.heap.size w w' := by
  have hbl : b < w.heap.size := World.block_lt_of_cell? _ _ hp
  have H1 := hid (pprod_any p b c a L x y w h3 hm hp hx1 hx2 hy1 hy2 hn hL hB)
  have H2 : Hid (∀ W, Below w.heap.size w W → Calls Tryd.prog 25 #[.pointer (some ⟨b, 0, none⟩), .slice a' M.length d, .int .i64 x, .int .i64 y] W fun e w' => e = .returned (.int .i64 (prd p x y M M.length)) ∧ Below W.heap.size W w') :=
    fun W h => pprod_any p b d a' M x y W h3 hm ((h.cell (p := ⟨b, 0, none⟩) hbl).trans hp) hx1 hx2 hy1 hy2 hn' ((hM.below h).mono h.size) hC
  generalize prd p x y L L.length = r at *
  generalize prd p x y M M.length = s at *
  generalize L.length = n at *
  generalize M.length = m at *
  clear hL hB hM hC hp
  go_enter Tryd.func15, Tryd.ntmps15
  go_wp2_with fail
  refine H1.out.mono ?_
  rintro e w1 ⟨rfl, hb1⟩
  have HB1 := hid hb1
  have H3 := hid (H2.out w1 hb1)
  clear hb1 H1 H2
  go_wp2_with fail
  refine H3.out.mono ?_
  rintro e w2 ⟨rfl, hb2⟩
  have HB2 := hid (HB1.out.trans (hb2.mono HB1.out.size))
  clear hb2 H3
  go_wp2_with fail
  go_ret
  exact ⟨rfl, HB2.out⟩

set_option maxHeartbeats 1000000 in
theorem rnumber_any (p : Nat) (c : Int × Int) (y : Int) (w : World) (h3 : 3 ≤ p) (hm : p ≤ 2147483647) (hc : (-9223372036854775808 ≤ c.1 ∧ c.1 ≤ 9223372036854775807) ∧ (-9223372036854775808 ≤ c.2 ∧ c.2 ≤ 9223372036854775807)) (hy1 : -9223372036854775808 ≤ y) (hy2 : y ≤ 9223372036854775807) :
    Calls Tryd.prog 13 #[.int .i64 p, .agg #[.int .i64 c.1, .int .i64 c.2], .int .i64 y] w fun e w' => e = .returned (.int .i64 (nb p y c)) ∧ Below w.heap.size w w' := by
  have e1 := emod_bounds (c.2 * y) p h3
  have HM : Hid (∀ W, Calls Tryd.prog 31 #[.int .i64 p, .int .i64 c.2, .int .i64 y] W fun e w' => e = .returned (.int .i64 (c.2 * y % (p : Int))) ∧ w' = W) := fun W => rmul_any p _ _ W h3 hm hc.2.1 hc.2.2 hy1 hy2
  have HA : Hid (∀ W, Calls Tryd.prog 32 #[.int .i64 p, .int .i64 (c.2 * y % (p : Int)), .int .i64 c.1] W fun e w' => e = .returned (.int .i64 (nb p y c)) ∧ w' = W) := fun W => by rw [← nb_ref]; exact radd_any p _ _ W h3 hm (by omega) (by omega) hc.1.1 hc.1.2
  obtain ⟨z0, z1⟩ := c
  simp only at HM HA
  generalize nb p y (z0, z1) = r at *
  generalize z1 * y % (p : Int) = t at *
  have HB0 : Hid (Below w.heap.size w (w.alloc (.cells #[.int .i64 z0, .int .i64 z1] 39))) := (Below.refl _ _).alloc (Nat.le_refl _) _
  clear hc e1
  go_enter Tryd.func13, Tryd.ntmps13
  go_wp2_with fail
  refine (HM.out _).mono ?_
  rintro e w1 ⟨rfl, rfl⟩
  go_wp2_with fail
  refine (HA.out _).mono ?_
  rintro e w2 ⟨rfl, rfl⟩
  go_wp2_with fail
  go_ret
  exact ⟨rfl, HB0.out⟩

set_option maxRecDepth 100000 in
set_option maxHeartbeats 2000000 in
theorem rmake_any (p c : Nat) (a : Option Addr) (L : List (Int × Int)) (x y : Int) (w : World) (h3 : 3 ≤ p) (hm : p ≤ 2147483647)
    (hx1 : -9223372036854775808 ≤ x) (hx2 : x ≤ 9223372036854775807) (hy1 : -9223372036854775808 ≤ y) (hy2 : y ≤ 9223372036854775807) (hn : L.length ≤ 281474976710656) (hL : LstC w.heap.size w a c L) (hB : CelB L) :
    Calls Tryd.prog 16 #[.int .i64 p, .slice a L.length c, .int .i64 x, .int .i64 y] w fun e w' => e = .returned (.int .i64 (prd p x y L L.length)) ∧ Below w.heap.size w w' := by
  have HL := hid hL
  have HB := hid hB
  obtain ⟨n, hn'⟩ : ∃ n, n = L.length := ⟨_, rfl⟩
  have HN := hid hn'
  rw [← hn'] at hn ⊢
  clear hL hB hn'
  go_enter Tryd.func16, Tryd.ntmps16
  go_wp2_with fail
  go_loopw [9, 10, 11] (fun ov iv _ wr => ∃ k : Nat, k ≤ n ∧ iv = .int .i64 k ∧ ov = .int .i64 (prd p x y L k) ∧ Hid (Below w.heap.size w wr)) (fun _ iv _ _ => n - (intOf iv).toNat)
  case atStart => exact ⟨0, Nat.zero_le _, rfl, rfl, Below.refl _ _⟩
  case round =>
    obtain ⟨k, hk, rfl, rfl, HBw⟩ := hrel
    by_cases hlt : k < n
    · have hlt2 : (k : Int) < (n : Int) := by omega
      have hks : IntKind.i64.wrap ((k : Int) + 1) = (k : Int) + 1 := by rw [IntKind.wrap_i64]; omega
      obtain ⟨g, o, rfl, hg, c0, c1⟩ := HL.out.row k (by have := HN.out; omega)
      replace c0 := (HBw.out.cell (p := ⟨g, o + k * 2, none⟩) hg).trans c0
      replace c1 := (HBw.out.cell (p := ⟨g, o + k * 2 + 1, none⟩) hg).trans c1
      have hbd := HB.out k (by have := HN.out; omega)
      have hpr := prd_bd h3 x y L k
      have hnb := nb_bd h3 y (cat L k)
      have HS : Hid (prd p x y L (k + 1) = prd p x y L k * ((x - nb p y (cat L k)) % (p : Int)) % (p : Int)) := rfl
      have e2 := emod_bounds (x - nb p y (cat L k)) p h3
      have HNu := hid (rnumber_any p (cat L k) y wr h3 hm hbd hy1 hy2)
      have HS1 : Hid (∀ W : World, Calls Tryd.prog 34 #[.int .i64 p, .int .i64 x, .int .i64 (nb p y (cat L k))] W fun e w' => e = .returned (.int .i64 ((x - nb p y (cat L k)) % (p : Int))) ∧ w' = W) :=
        fun W => rsub_any p _ _ W h3 hm hx1 hx2 (by omega) (by omega)
      have HM2 : Hid (∀ W : World, Calls Tryd.prog 31 #[.int .i64 p, .int .i64 (prd p x y L k), .int .i64 ((x - nb p y (cat L k)) % (p : Int))] W fun e w' => e = .returned (.int .i64 (prd p x y L (k + 1))) ∧ w' = W) :=
        fun W => by rw [HS.out]; exact rmul_any p _ _ W h3 hm (by omega) (by omega) (by omega) (by omega)
      clear hbd hpr hnb HS e2
      obtain ⟨r1, hr1⟩ : ∃ r, r = prd p x y L (k + 1) := ⟨_, rfl⟩
      have HR1 := hid hr1
      rw [← hr1] at HM2
      clear hr1
      generalize prd p x y L k = r0 at *
      generalize (x - nb p y (cat L k)) % (p : Int) = s at *
      generalize nb p y (cat L k) = nn at *
      generalize (cat L k).1 = z0 at *
      generalize (cat L k).2 = z1 at *
      go_wp2_with fail
      refine HNu.out.mono ?_
      rintro e w1 ⟨rfl, hb1⟩
      have HB1 := hid (HBw.out.trans (hb1.mono HBw.out.size))
      clear hb1 HNu c0 c1
      go_wp2_with fail
      refine (HS1.out _).mono ?_
      rintro e w2 ⟨rfl, rfl⟩
      go_wp2_with fail
      refine (HM2.out _).mono ?_
      rintro e w3 ⟨rfl, rfl⟩
      go_wp2_with fail
      go_roundw
      case rel => exact ⟨k + 1, by omega, by go_num, by rw [HR1.out], HB1⟩
      case measure => simp [intOf]; omega
    · have hlt2 : ¬ (k : Int) < (n : Int) := by omega
      obtain rfl : k = n := by omega
      go_wp2_with fail
      go_ret
      exact ⟨rfl, HBw.out⟩

end Go.Proofs.YthemehdcakimgakDoor
