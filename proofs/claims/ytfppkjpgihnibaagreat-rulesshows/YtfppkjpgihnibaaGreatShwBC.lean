/- Package rules: what an instruction works. Package rules: what an instruction works. -/
import Derived.Test.YtfppkjpgihnibaaGreatShwBA
namespace Go.Proofs.YtfppkjpgihnibaaGreat
open Go.RowKit Go.Maps

set_option maxRecDepth 100000 in
set_option maxHeartbeats 2000000 in
theorem vwork_6 (p b V : Nat) (L : List InsZ) (size out : Int) (r n : List Int) (aL : Option Addr) (cL : Nat) (ar : Option Addr) (cr : Nat) (an : Option Addr) (cn : Nat) (w : World) (H : VF p L size out r n) (hV : VW p b V L size out r n aL cL ar cr an cn w) (k : Nat) (ia ib ic : Int) (hi : k < 281474976710656 ∧ I64 ia ∧ I64 ib ∧ I64 ic)  :
    Calls Tryz.prog 91 #[.pointer (some ⟨V, 0, none⟩), .int .i64 (k : Int), .agg #[.int .i64 6, .int .i64 ia, .int .i64 ib, .int .i64 ic]] w fun e w' => e = .returned (.int .i64 (tvW p r ⟨6, ia, ib, ic⟩)) ∧ Below w.heap.size w w' := by
  have h3 := H.h3
  have h4 := H.h4
  obtain ⟨hk, hia, hib, hic⟩ := hi
  have HEM : Hid (∀ a : Int, I64 (a % (p : Int))) := fun a => by have := emod_bounds a p H.h3; have := H.h4; unfold I64; omega
  obtain ⟨W0, hW0⟩ : ∃ W0, W0 = w.alloc (.cells #[.int .i64 6, .int .i64 ia, .int .i64 ib, .int .i64 ic] 44) := ⟨_, rfl⟩
  have hb0 : Below w.heap.size w W0 := by rw [hW0]; exact (Below.refl _ _).alloc (Nat.le_refl _) _
  have hs0 : W0.heap[w.heap.size]? = some (.cells #[.int .i64 6, .int .i64 ia, .int .i64 ib, .int .i64 ic] 44 (0, 0)) := by rw [hW0]; exact heap_alloc_new w _
  have k0 : W0.cell? ⟨w.heap.size, 0, none⟩ = some (.int .i64 6) := by simp [World.cell?, hs0]
  have k1 : W0.cell? ⟨w.heap.size, 1, none⟩ = some (.int .i64 ia) := by simp [World.cell?, hs0]
  have k2 : W0.cell? ⟨w.heap.size, 2, none⟩ = some (.int .i64 ib) := by simp [World.cell?, hs0]
  have k3 : W0.cell? ⟨w.heap.size, 3, none⟩ = some (.int .i64 ic) := by simp [World.cell?, hs0]
  replace hV := hV.below hb0
  have HB0 := hid hb0
  clear hs0 hb0
  obtain ⟨c0, c1, c2, c3, c4, c5⟩ := hV.cells
  have hpc := hV.fld
  have QP : Hid (∀ nn, (W0.drewN nn).cell? ⟨b, 0, none⟩ = some (.int .i64 p)) := fun nn => hpc
  obtain ⟨br, orr, har, hrw⟩ := hV.rowAt H.hr
  subst har
  have r7 := hrw 7 (by omega)
  have i7 : I64 (zat r 7) := H.fr 7
  have l7 : (7 : Int) < (r.length : Int) := by have := H.hr; omega
  have r8 := hrw 8 (by omega)
  have i8 : I64 (zat r 8) := H.fr 8
  have l8 : (8 : Int) < (r.length : Int) := by have := H.hr; omega
  have r9 := hrw 9 (by omega)
  have i9 : I64 (zat r 9) := H.fr 9
  have l9 : (9 : Int) < (r.length : Int) := by have := H.hr; omega
  have r11 := hrw 11 (by omega)
  have i11 : I64 (zat r 11) := H.fr 11
  have l11 : (11 : Int) < (r.length : Int) := by have := H.hr; omega
  clear hrw
  have HE : Hid (tvW p r ⟨6, ia, ib, ic⟩ = (((((((zat r 7) - (zat r 8)) % (p : Int)) * (zat r 11)) % (p : Int)) - (((1 : Int) - (zat r 9)) % (p : Int))) % (p : Int))) := by
    unfold Hid
    rw [show tvW p r ⟨6, ia, ib, ic⟩ = ((zat r 7 - zat r 8) * zat r 11 - (1 - zat r 9)) % (p : Int) from rfl]
    simp only [em_mul1, em_sub1, em_sub2]
  obtain ⟨R, hR⟩ : ∃ R, R = tvW p r ⟨6, ia, ib, ic⟩ := ⟨_, rfl⟩
  rw [← hR] at HE ⊢
  clear hR
  have HC0 : Hid (∀ W : World, W.cell? ⟨b, 0, none⟩ = some (.int .i64 p) → Calls Tryz.prog 54 #[.pointer (some ⟨b, 0, none⟩), .int .i64 (zat r 7), .int .i64 (zat r 8)] W fun e w' => e = .returned (.int .i64 (((zat r 7) - (zat r 8)) % (p : Int))) ∧ w' = W) := fun W h => sub_any p b _ _ W h3 h4 h i7.1 i7.2 i8.1 i8.2
  have HC1 : Hid (∀ W : World, W.cell? ⟨b, 0, none⟩ = some (.int .i64 p) → Calls Tryz.prog 85 #[.pointer (some ⟨b, 0, none⟩), .int .i64 (((zat r 7) - (zat r 8)) % (p : Int)), .int .i64 (zat r 11)] W fun e w' => e = .returned (.int .i64 (((((zat r 7) - (zat r 8)) % (p : Int)) * (zat r 11)) % (p : Int))) ∧ w' = W) := fun W h => mul_any p b _ _ W h3 h4 h (HEM.out _).1 (HEM.out _).2 i11.1 i11.2
  have HC2 : Hid (∀ W : World, W.cell? ⟨b, 0, none⟩ = some (.int .i64 p) → Calls Tryz.prog 54 #[.pointer (some ⟨b, 0, none⟩), .int .i64 (1 : Int), .int .i64 (zat r 9)] W fun e w' => e = .returned (.int .i64 (((1 : Int) - (zat r 9)) % (p : Int))) ∧ w' = W) := fun W h => sub_any p b _ _ W h3 h4 h (show I64 1 by unfold I64; decide).1 (show I64 1 by unfold I64; decide).2 i9.1 i9.2
  have HC3 : Hid (∀ W : World, W.cell? ⟨b, 0, none⟩ = some (.int .i64 p) → Calls Tryz.prog 54 #[.pointer (some ⟨b, 0, none⟩), .int .i64 (((((zat r 7) - (zat r 8)) % (p : Int)) * (zat r 11)) % (p : Int)), .int .i64 (((1 : Int) - (zat r 9)) % (p : Int))] W fun e w' => e = .returned (.int .i64 (((((((zat r 7) - (zat r 8)) % (p : Int)) * (zat r 11)) % (p : Int)) - (((1 : Int) - (zat r 9)) % (p : Int))) % (p : Int))) ∧ w' = W) := fun W h => sub_any p b _ _ W h3 h4 h (HEM.out _).1 (HEM.out _).2 (HEM.out _).1 (HEM.out _).2
  clear i7 i8 i9 i11
  clear HEM H hV
  generalize (((((((zat r 7) - (zat r 8)) % (p : Int)) * (zat r 11)) % (p : Int)) - (((1 : Int) - (zat r 9)) % (p : Int))) % (p : Int)) = t4 at *
  generalize (((1 : Int) - (zat r 9)) % (p : Int)) = t3 at *
  generalize (((((zat r 7) - (zat r 8)) % (p : Int)) * (zat r 11)) % (p : Int)) = t2 at *
  generalize (((zat r 7) - (zat r 8)) % (p : Int)) = t1 at *
  generalize zat r 7 = x7 at *
  generalize zat r 8 = x8 at *
  generalize zat r 9 = x9 at *
  generalize zat r 11 = x11 at *
  generalize r.length = lr at *
  generalize L.length = nL at *
  go_enter Tryz.func91, Tryz.ntmps91
  go_wp2_with fail
  rw [← hW0]
  clear hW0
  go_wp2_with fail
  go_quiet (fail)
  obtain ⟨W1, hW1⟩ : ∃ W1, W1 = W0.drewN nq := ⟨_, rfl⟩
  replace hpc : W1.cell? ⟨b, 0, none⟩ = some (.int .i64 p) := by rw [hW1]; exact hpc
  replace c0 : W1.cell? ⟨V, 0, none⟩ = some (.pointer (some ⟨b, 0, none⟩)) := by rw [hW1]; exact c0
  replace c4 : W1.cell? ⟨V, 4, none⟩ = some (.slice (some ⟨br, orr, none⟩) lr cr) := by rw [hW1]; exact c4
  replace k0 : W1.cell? ⟨w.heap.size, 0, none⟩ = some (.int .i64 6) := by rw [hW1]; exact k0
  replace k1 : W1.cell? ⟨w.heap.size, 1, none⟩ = some (.int .i64 ia) := by rw [hW1]; exact k1
  replace k2 : W1.cell? ⟨w.heap.size, 2, none⟩ = some (.int .i64 ib) := by rw [hW1]; exact k2
  replace r7 : W1.cell? ⟨br, orr + 7, none⟩ = some (.int .i64 x7) := by rw [hW1]; exact r7
  replace r8 : W1.cell? ⟨br, orr + 8, none⟩ = some (.int .i64 x8) := by rw [hW1]; exact r8
  replace r9 : W1.cell? ⟨br, orr + 9, none⟩ = some (.int .i64 x9) := by rw [hW1]; exact r9
  replace r11 : W1.cell? ⟨br, orr + 11, none⟩ = some (.int .i64 x11) := by rw [hW1]; exact r11
  have QP : Hid (∀ nn, (W1.drewN nn).cell? ⟨b, 0, none⟩ = some (.int .i64 p)) := fun nn => hpc
  have HB1 : Hid (Below w.heap.size w W1) := by unfold Hid; rw [hW1]; exact below_drewN HB0.out _
  rw [← hW1]
  clear hW1
  go_wp2_with fail
  go_quiet (first
    | (go_at_call 54; first | with_reducible exact Calls.quiet_of_same (HC0.out _ (QP.out _)) | with_reducible exact Calls.quiet_of_same (HC2.out _ (QP.out _)) | with_reducible exact Calls.quiet_of_same (HC3.out _ (QP.out _)))
    | (go_at_call 85; first | with_reducible exact Calls.quiet_of_same (HC1.out _ (QP.out _))))
  go_wp2_with fail
  go_ret
  exact ⟨by have h := HE.out; subst h; rfl, below_drewN HB1.out _⟩

set_option maxRecDepth 100000 in
set_option maxHeartbeats 2000000 in
theorem vwork_7 (p b V : Nat) (L : List InsZ) (size out : Int) (r n : List Int) (aL : Option Addr) (cL : Nat) (ar : Option Addr) (cr : Nat) (an : Option Addr) (cn : Nat) (w : World) (H : VF p L size out r n) (hV : VW p b V L size out r n aL cL ar cr an cn w) (k : Nat) (ia ib ic : Int) (hi : k < 281474976710656 ∧ I64 ia ∧ I64 ib ∧ I64 ic)  :
    Calls Tryz.prog 91 #[.pointer (some ⟨V, 0, none⟩), .int .i64 (k : Int), .agg #[.int .i64 7, .int .i64 ia, .int .i64 ib, .int .i64 ic]] w fun e w' => e = .returned (.int .i64 (tvW p r ⟨7, ia, ib, ic⟩)) ∧ Below w.heap.size w w' := by
  have h3 := H.h3
  have h4 := H.h4
  obtain ⟨hk, hia, hib, hic⟩ := hi
  have HEM : Hid (∀ a : Int, I64 (a % (p : Int))) := fun a => by have := emod_bounds a p H.h3; have := H.h4; unfold I64; omega
  obtain ⟨W0, hW0⟩ : ∃ W0, W0 = w.alloc (.cells #[.int .i64 7, .int .i64 ia, .int .i64 ib, .int .i64 ic] 44) := ⟨_, rfl⟩
  have hb0 : Below w.heap.size w W0 := by rw [hW0]; exact (Below.refl _ _).alloc (Nat.le_refl _) _
  have hs0 : W0.heap[w.heap.size]? = some (.cells #[.int .i64 7, .int .i64 ia, .int .i64 ib, .int .i64 ic] 44 (0, 0)) := by rw [hW0]; exact heap_alloc_new w _
  have k0 : W0.cell? ⟨w.heap.size, 0, none⟩ = some (.int .i64 7) := by simp [World.cell?, hs0]
  have k1 : W0.cell? ⟨w.heap.size, 1, none⟩ = some (.int .i64 ia) := by simp [World.cell?, hs0]
  have k2 : W0.cell? ⟨w.heap.size, 2, none⟩ = some (.int .i64 ib) := by simp [World.cell?, hs0]
  have k3 : W0.cell? ⟨w.heap.size, 3, none⟩ = some (.int .i64 ic) := by simp [World.cell?, hs0]
  replace hV := hV.below hb0
  have HB0 := hid hb0
  clear hs0 hb0
  obtain ⟨c0, c1, c2, c3, c4, c5⟩ := hV.cells
  have hpc := hV.fld
  have QP : Hid (∀ nn, (W0.drewN nn).cell? ⟨b, 0, none⟩ = some (.int .i64 p)) := fun nn => hpc
  obtain ⟨br, orr, har, hrw⟩ := hV.rowAt H.hr
  subst har
  have r7 := hrw 7 (by omega)
  have i7 : I64 (zat r 7) := H.fr 7
  have l7 : (7 : Int) < (r.length : Int) := by have := H.hr; omega
  have r8 := hrw 8 (by omega)
  have i8 : I64 (zat r 8) := H.fr 8
  have l8 : (8 : Int) < (r.length : Int) := by have := H.hr; omega
  have r9 := hrw 9 (by omega)
  have i9 : I64 (zat r 9) := H.fr 9
  have l9 : (9 : Int) < (r.length : Int) := by have := H.hr; omega
  clear hrw
  have HE : Hid (tvW p r ⟨7, ia, ib, ic⟩ = (((zat r 7) - (zat r 8)) % (p : Int))) := by
    unfold Hid
    rw [show tvW p r ⟨7, ia, ib, ic⟩ = (zat r 7 - zat r 8) % (p : Int) from rfl]
  obtain ⟨R, hR⟩ : ∃ R, R = tvW p r ⟨7, ia, ib, ic⟩ := ⟨_, rfl⟩
  rw [← hR] at HE ⊢
  clear hR
  have HC0 : Hid (∀ W : World, W.cell? ⟨b, 0, none⟩ = some (.int .i64 p) → Calls Tryz.prog 54 #[.pointer (some ⟨b, 0, none⟩), .int .i64 (zat r 7), .int .i64 (zat r 8)] W fun e w' => e = .returned (.int .i64 (((zat r 7) - (zat r 8)) % (p : Int))) ∧ w' = W) := fun W h => sub_any p b _ _ W h3 h4 h i7.1 i7.2 i8.1 i8.2
  clear i7 i8 i9
  clear HEM H hV
  generalize (((zat r 7) - (zat r 8)) % (p : Int)) = t1 at *
  generalize zat r 7 = x7 at *
  generalize zat r 8 = x8 at *
  generalize zat r 9 = x9 at *
  generalize r.length = lr at *
  generalize L.length = nL at *
  go_enter Tryz.func91, Tryz.ntmps91
  go_wp2_with fail
  rw [← hW0]
  clear hW0
  go_wp2_with fail
  go_quiet (fail)
  obtain ⟨W1, hW1⟩ : ∃ W1, W1 = W0.drewN nq := ⟨_, rfl⟩
  replace hpc : W1.cell? ⟨b, 0, none⟩ = some (.int .i64 p) := by rw [hW1]; exact hpc
  replace c0 : W1.cell? ⟨V, 0, none⟩ = some (.pointer (some ⟨b, 0, none⟩)) := by rw [hW1]; exact c0
  replace c4 : W1.cell? ⟨V, 4, none⟩ = some (.slice (some ⟨br, orr, none⟩) lr cr) := by rw [hW1]; exact c4
  replace k0 : W1.cell? ⟨w.heap.size, 0, none⟩ = some (.int .i64 7) := by rw [hW1]; exact k0
  replace k1 : W1.cell? ⟨w.heap.size, 1, none⟩ = some (.int .i64 ia) := by rw [hW1]; exact k1
  replace k2 : W1.cell? ⟨w.heap.size, 2, none⟩ = some (.int .i64 ib) := by rw [hW1]; exact k2
  replace r7 : W1.cell? ⟨br, orr + 7, none⟩ = some (.int .i64 x7) := by rw [hW1]; exact r7
  replace r8 : W1.cell? ⟨br, orr + 8, none⟩ = some (.int .i64 x8) := by rw [hW1]; exact r8
  replace r9 : W1.cell? ⟨br, orr + 9, none⟩ = some (.int .i64 x9) := by rw [hW1]; exact r9
  have QP : Hid (∀ nn, (W1.drewN nn).cell? ⟨b, 0, none⟩ = some (.int .i64 p)) := fun nn => hpc
  have HB1 : Hid (Below w.heap.size w W1) := by unfold Hid; rw [hW1]; exact below_drewN HB0.out _
  rw [← hW1]
  clear hW1
  go_wp2_with fail
  refine (HC0.out _ hpc).mono ?_
  rintro e w' ⟨rfl, rfl⟩
  go_wp2_with fail
  go_ret
  exact ⟨by have h := HE.out; subst h; rfl, HB1.out⟩

set_option maxRecDepth 100000 in
set_option maxHeartbeats 2000000 in
theorem vwork_13 (p b V : Nat) (L : List InsZ) (size out : Int) (r n : List Int) (aL : Option Addr) (cL : Nat) (ar : Option Addr) (cr : Nat) (an : Option Addr) (cn : Nat) (w : World) (H : VF p L size out r n) (hV : VW p b V L size out r n aL cL ar cr an cn w) (k : Nat) (ia ib ic : Int) (hi : k < 281474976710656 ∧ I64 ia ∧ I64 ib ∧ I64 ic)  :
    Calls Tryz.prog 91 #[.pointer (some ⟨V, 0, none⟩), .int .i64 (k : Int), .agg #[.int .i64 13, .int .i64 ia, .int .i64 ib, .int .i64 ic]] w fun e w' => e = .returned (.int .i64 (tvW p r ⟨13, ia, ib, ic⟩)) ∧ Below w.heap.size w w' := by
  have h3 := H.h3
  have h4 := H.h4
  obtain ⟨hk, hia, hib, hic⟩ := hi
  have HEM : Hid (∀ a : Int, I64 (a % (p : Int))) := fun a => by have := emod_bounds a p H.h3; have := H.h4; unfold I64; omega
  obtain ⟨W0, hW0⟩ : ∃ W0, W0 = w.alloc (.cells #[.int .i64 13, .int .i64 ia, .int .i64 ib, .int .i64 ic] 44) := ⟨_, rfl⟩
  have hb0 : Below w.heap.size w W0 := by rw [hW0]; exact (Below.refl _ _).alloc (Nat.le_refl _) _
  have hs0 : W0.heap[w.heap.size]? = some (.cells #[.int .i64 13, .int .i64 ia, .int .i64 ib, .int .i64 ic] 44 (0, 0)) := by rw [hW0]; exact heap_alloc_new w _
  have k0 : W0.cell? ⟨w.heap.size, 0, none⟩ = some (.int .i64 13) := by simp [World.cell?, hs0]
  have k1 : W0.cell? ⟨w.heap.size, 1, none⟩ = some (.int .i64 ia) := by simp [World.cell?, hs0]
  have k2 : W0.cell? ⟨w.heap.size, 2, none⟩ = some (.int .i64 ib) := by simp [World.cell?, hs0]
  have k3 : W0.cell? ⟨w.heap.size, 3, none⟩ = some (.int .i64 ic) := by simp [World.cell?, hs0]
  replace hV := hV.below hb0
  have HB0 := hid hb0
  clear hs0 hb0
  obtain ⟨c0, c1, c2, c3, c4, c5⟩ := hV.cells
  have hpc := hV.fld
  have QP : Hid (∀ nn, (W0.drewN nn).cell? ⟨b, 0, none⟩ = some (.int .i64 p)) := fun nn => hpc
  obtain ⟨br, orr, har, hrw⟩ := hV.rowAt H.hr
  subst har
  have r7 := hrw 7 (by omega)
  have i7 : I64 (zat r 7) := H.fr 7
  have l7 : (7 : Int) < (r.length : Int) := by have := H.hr; omega
  have r8 := hrw 8 (by omega)
  have i8 : I64 (zat r 8) := H.fr 8
  have l8 : (8 : Int) < (r.length : Int) := by have := H.hr; omega
  have r9 := hrw 9 (by omega)
  have i9 : I64 (zat r 9) := H.fr 9
  have l9 : (9 : Int) < (r.length : Int) := by have := H.hr; omega
  clear hrw
  have HE : Hid (tvW p r ⟨13, ia, ib, ic⟩ = (((zat r 7) - (zat r 8)) % (p : Int))) := by
    unfold Hid
    rw [show tvW p r ⟨13, ia, ib, ic⟩ = (zat r 7 - zat r 8) % (p : Int) from rfl]
  obtain ⟨R, hR⟩ : ∃ R, R = tvW p r ⟨13, ia, ib, ic⟩ := ⟨_, rfl⟩
  rw [← hR] at HE ⊢
  clear hR
  have HC0 : Hid (∀ W : World, W.cell? ⟨b, 0, none⟩ = some (.int .i64 p) → Calls Tryz.prog 54 #[.pointer (some ⟨b, 0, none⟩), .int .i64 (zat r 7), .int .i64 (zat r 8)] W fun e w' => e = .returned (.int .i64 (((zat r 7) - (zat r 8)) % (p : Int))) ∧ w' = W) := fun W h => sub_any p b _ _ W h3 h4 h i7.1 i7.2 i8.1 i8.2
  clear i7 i8 i9
  clear HEM H hV
  generalize (((zat r 7) - (zat r 8)) % (p : Int)) = t1 at *
  generalize zat r 7 = x7 at *
  generalize zat r 8 = x8 at *
  generalize zat r 9 = x9 at *
  generalize r.length = lr at *
  generalize L.length = nL at *
  go_enter Tryz.func91, Tryz.ntmps91
  go_wp2_with fail
  rw [← hW0]
  clear hW0
  go_wp2_with fail
  go_quiet (fail)
  obtain ⟨W1, hW1⟩ : ∃ W1, W1 = W0.drewN nq := ⟨_, rfl⟩
  replace hpc : W1.cell? ⟨b, 0, none⟩ = some (.int .i64 p) := by rw [hW1]; exact hpc
  replace c0 : W1.cell? ⟨V, 0, none⟩ = some (.pointer (some ⟨b, 0, none⟩)) := by rw [hW1]; exact c0
  replace c4 : W1.cell? ⟨V, 4, none⟩ = some (.slice (some ⟨br, orr, none⟩) lr cr) := by rw [hW1]; exact c4
  replace k0 : W1.cell? ⟨w.heap.size, 0, none⟩ = some (.int .i64 13) := by rw [hW1]; exact k0
  replace k1 : W1.cell? ⟨w.heap.size, 1, none⟩ = some (.int .i64 ia) := by rw [hW1]; exact k1
  replace k2 : W1.cell? ⟨w.heap.size, 2, none⟩ = some (.int .i64 ib) := by rw [hW1]; exact k2
  replace r7 : W1.cell? ⟨br, orr + 7, none⟩ = some (.int .i64 x7) := by rw [hW1]; exact r7
  replace r8 : W1.cell? ⟨br, orr + 8, none⟩ = some (.int .i64 x8) := by rw [hW1]; exact r8
  replace r9 : W1.cell? ⟨br, orr + 9, none⟩ = some (.int .i64 x9) := by rw [hW1]; exact r9
  have QP : Hid (∀ nn, (W1.drewN nn).cell? ⟨b, 0, none⟩ = some (.int .i64 p)) := fun nn => hpc
  have HB1 : Hid (Below w.heap.size w W1) := by unfold Hid; rw [hW1]; exact below_drewN HB0.out _
  rw [← hW1]
  clear hW1
  go_wp2_with fail
  refine (HC0.out _ hpc).mono ?_
  rintro e w' ⟨rfl, rfl⟩
  go_wp2_with fail
  go_ret
  exact ⟨by have h := HE.out; subst h; rfl, HB1.out⟩

set_option maxRecDepth 100000 in
set_option maxHeartbeats 2000000 in
theorem vwork_9 (p b V : Nat) (L : List InsZ) (size out : Int) (r n : List Int) (aL : Option Addr) (cL : Nat) (ar : Option Addr) (cr : Nat) (an : Option Addr) (cn : Nat) (w : World) (H : VF p L size out r n) (hV : VW p b V L size out r n aL cL ar cr an cn w) (k : Nat) (ia ib ic : Int) (hi : k < 281474976710656 ∧ I64 ia ∧ I64 ib ∧ I64 ic)  :
    Calls Tryz.prog 91 #[.pointer (some ⟨V, 0, none⟩), .int .i64 (k : Int), .agg #[.int .i64 9, .int .i64 ia, .int .i64 ib, .int .i64 ic]] w fun e w' => e = .returned (.int .i64 (tvW p r ⟨9, ia, ib, ic⟩)) ∧ Below w.heap.size w w' := by
  have h3 := H.h3
  have h4 := H.h4
  obtain ⟨hk, hia, hib, hic⟩ := hi
  have HEM : Hid (∀ a : Int, I64 (a % (p : Int))) := fun a => by have := emod_bounds a p H.h3; have := H.h4; unfold I64; omega
  obtain ⟨W0, hW0⟩ : ∃ W0, W0 = w.alloc (.cells #[.int .i64 9, .int .i64 ia, .int .i64 ib, .int .i64 ic] 44) := ⟨_, rfl⟩
  have hb0 : Below w.heap.size w W0 := by rw [hW0]; exact (Below.refl _ _).alloc (Nat.le_refl _) _
  have hs0 : W0.heap[w.heap.size]? = some (.cells #[.int .i64 9, .int .i64 ia, .int .i64 ib, .int .i64 ic] 44 (0, 0)) := by rw [hW0]; exact heap_alloc_new w _
  have k0 : W0.cell? ⟨w.heap.size, 0, none⟩ = some (.int .i64 9) := by simp [World.cell?, hs0]
  have k1 : W0.cell? ⟨w.heap.size, 1, none⟩ = some (.int .i64 ia) := by simp [World.cell?, hs0]
  have k2 : W0.cell? ⟨w.heap.size, 2, none⟩ = some (.int .i64 ib) := by simp [World.cell?, hs0]
  have k3 : W0.cell? ⟨w.heap.size, 3, none⟩ = some (.int .i64 ic) := by simp [World.cell?, hs0]
  replace hV := hV.below hb0
  have HB0 := hid hb0
  clear hs0 hb0
  obtain ⟨c0, c1, c2, c3, c4, c5⟩ := hV.cells
  have hpc := hV.fld
  have QP : Hid (∀ nn, (W0.drewN nn).cell? ⟨b, 0, none⟩ = some (.int .i64 p)) := fun nn => hpc
  obtain ⟨br, orr, har, hrw⟩ := hV.rowAt H.hr
  subst har
  have r7 := hrw 7 (by omega)
  have i7 : I64 (zat r 7) := H.fr 7
  have l7 : (7 : Int) < (r.length : Int) := by have := H.hr; omega
  have r8 := hrw 8 (by omega)
  have i8 : I64 (zat r 8) := H.fr 8
  have l8 : (8 : Int) < (r.length : Int) := by have := H.hr; omega
  have r9 := hrw 9 (by omega)
  have i9 : I64 (zat r 9) := H.fr 9
  have l9 : (9 : Int) < (r.length : Int) := by have := H.hr; omega
  clear hrw
  have HE : Hid (tvW p r ⟨9, ia, ib, ic⟩ = (((zat r 7) * (((1 : Int) - ((zat r 11 * zat r 7) % (p : Int))) % (p : Int))) % (p : Int))) := by
    unfold Hid
    rw [show tvW p r ⟨9, ia, ib, ic⟩ = (zat r 7 * (1 - zat r 11 * zat r 7)) % (p : Int) from rfl]
    simp only [em_mul2, em_sub2]
  obtain ⟨R, hR⟩ : ∃ R, R = tvW p r ⟨9, ia, ib, ic⟩ := ⟨_, rfl⟩
  rw [← hR] at HE ⊢
  clear hR
  have HC0 : Hid (∀ m, Calls Tryz.prog 112 #[.pointer (some ⟨V, 0, none⟩)] (W0.drewN m) fun e w' => e = .returned (.int .i64 ((zat r 11 * zat r 7) % (p : Int))) ∧ ∃ k, w' = (W0.drewN m).drewN k) := fun m => vnotZero_any p b V L size out r n aL cL _ cr an cn _ H (hV.below (below_drewN (Below.refl _ _) m))
  have HC1 : Hid (∀ W : World, W.cell? ⟨b, 0, none⟩ = some (.int .i64 p) → Calls Tryz.prog 54 #[.pointer (some ⟨b, 0, none⟩), .int .i64 (1 : Int), .int .i64 ((zat r 11 * zat r 7) % (p : Int))] W fun e w' => e = .returned (.int .i64 (((1 : Int) - ((zat r 11 * zat r 7) % (p : Int))) % (p : Int))) ∧ w' = W) := fun W h => sub_any p b _ _ W h3 h4 h (show I64 1 by unfold I64; decide).1 (show I64 1 by unfold I64; decide).2 (HEM.out _).1 (HEM.out _).2
  have HC2 : Hid (∀ W : World, W.cell? ⟨b, 0, none⟩ = some (.int .i64 p) → Calls Tryz.prog 85 #[.pointer (some ⟨b, 0, none⟩), .int .i64 (zat r 7), .int .i64 (((1 : Int) - ((zat r 11 * zat r 7) % (p : Int))) % (p : Int))] W fun e w' => e = .returned (.int .i64 (((zat r 7) * (((1 : Int) - ((zat r 11 * zat r 7) % (p : Int))) % (p : Int))) % (p : Int))) ∧ w' = W) := fun W h => mul_any p b _ _ W h3 h4 h i7.1 i7.2 (HEM.out _).1 (HEM.out _).2
  clear i7 i8 i9
  clear HEM H hV
  generalize (((zat r 7) * (((1 : Int) - ((zat r 11 * zat r 7) % (p : Int))) % (p : Int))) % (p : Int)) = t3 at *
  generalize (((1 : Int) - ((zat r 11 * zat r 7) % (p : Int))) % (p : Int)) = t2 at *
  generalize ((zat r 11 * zat r 7) % (p : Int)) = t1 at *
  generalize zat r 7 = x7 at *
  generalize zat r 8 = x8 at *
  generalize zat r 9 = x9 at *
  generalize r.length = lr at *
  generalize L.length = nL at *
  go_enter Tryz.func91, Tryz.ntmps91
  go_wp2_with fail
  rw [← hW0]
  clear hW0
  go_wp2_with fail
  go_quiet (fail)
  obtain ⟨W1, hW1⟩ : ∃ W1, W1 = W0.drewN nq := ⟨_, rfl⟩
  replace hpc : W1.cell? ⟨b, 0, none⟩ = some (.int .i64 p) := by rw [hW1]; exact hpc
  replace c0 : W1.cell? ⟨V, 0, none⟩ = some (.pointer (some ⟨b, 0, none⟩)) := by rw [hW1]; exact c0
  replace c4 : W1.cell? ⟨V, 4, none⟩ = some (.slice (some ⟨br, orr, none⟩) lr cr) := by rw [hW1]; exact c4
  replace k0 : W1.cell? ⟨w.heap.size, 0, none⟩ = some (.int .i64 9) := by rw [hW1]; exact k0
  replace k1 : W1.cell? ⟨w.heap.size, 1, none⟩ = some (.int .i64 ia) := by rw [hW1]; exact k1
  replace k2 : W1.cell? ⟨w.heap.size, 2, none⟩ = some (.int .i64 ib) := by rw [hW1]; exact k2
  replace r7 : W1.cell? ⟨br, orr + 7, none⟩ = some (.int .i64 x7) := by rw [hW1]; exact r7
  replace r8 : W1.cell? ⟨br, orr + 8, none⟩ = some (.int .i64 x8) := by rw [hW1]; exact r8
  replace r9 : W1.cell? ⟨br, orr + 9, none⟩ = some (.int .i64 x9) := by rw [hW1]; exact r9
  have QP : Hid (∀ nn, (W1.drewN nn).cell? ⟨b, 0, none⟩ = some (.int .i64 p)) := fun nn => hpc
  have HB1 : Hid (Below w.heap.size w W1) := by unfold Hid; rw [hW1]; exact below_drewN HB0.out _
  have HC0 : Hid (∀ m, Calls Tryz.prog 112 #[.pointer (some ⟨V, 0, none⟩)] (W1.drewN m) fun e w' => e = .returned (.int .i64 t1) ∧ ∃ k, w' = (W1.drewN m).drewN k) := fun m => by rw [hW1, World.drewN_drewN]; exact HC0.out _
  rw [← hW1]
  clear hW1
  go_wp2_with fail
  go_quiet (first
    | (go_at_call 112; first | with_reducible exact Calls.quiet_of (HC0.out _))
    | (go_at_call 54; first | with_reducible exact Calls.quiet_of_same (HC1.out _ (QP.out _)))
    | (go_at_call 85; first | with_reducible exact Calls.quiet_of_same (HC2.out _ (QP.out _))))
  go_wp2_with fail
  go_ret
  exact ⟨by have h := HE.out; subst h; rfl, below_drewN HB1.out _⟩

end Go.Proofs.YtfppkjpgihnibaaGreat

namespace Go.Proofs.YtfppkjpgihnibaaGreat
open Go.RowKit Go.Maps

set_option maxRecDepth 100000 in
set_option maxHeartbeats 2000000 in
theorem vwork_10 (p b V : Nat) (L : List InsZ) (size out : Int) (r n : List Int) (aL : Option Addr) (cL : Nat) (ar : Option Addr) (cr : Nat) (an : Option Addr) (cn : Nat) (w : World) (H : VF p L size out r n) (hV : VW p b V L size out r n aL cL ar cr an cn w) (k : Nat) (ia ib ic : Int) (hi : k < 281474976710656 ∧ I64 ia ∧ I64 ib ∧ I64 ic)  :
    Calls Tryz.prog 91 #[.pointer (some ⟨V, 0, none⟩), .int .i64 (k : Int), .agg #[.int .i64 10, .int .i64 ia, .int .i64 ib, .int .i64 ic]] w fun e w' => e = .returned (.int .i64 (tvW p r ⟨10, ia, ib, ic⟩)) ∧ Below w.heap.size w w' := by
  have h3 := H.h3
  have h4 := H.h4
  obtain ⟨hk, hia, hib, hic⟩ := hi
  have HEM : Hid (∀ a : Int, I64 (a % (p : Int))) := fun a => by have := emod_bounds a p H.h3; have := H.h4; unfold I64; omega
  obtain ⟨W0, hW0⟩ : ∃ W0, W0 = w.alloc (.cells #[.int .i64 10, .int .i64 ia, .int .i64 ib, .int .i64 ic] 44) := ⟨_, rfl⟩
  have hb0 : Below w.heap.size w W0 := by rw [hW0]; exact (Below.refl _ _).alloc (Nat.le_refl _) _
  have hs0 : W0.heap[w.heap.size]? = some (.cells #[.int .i64 10, .int .i64 ia, .int .i64 ib, .int .i64 ic] 44 (0, 0)) := by rw [hW0]; exact heap_alloc_new w _
  have k0 : W0.cell? ⟨w.heap.size, 0, none⟩ = some (.int .i64 10) := by simp [World.cell?, hs0]
  have k1 : W0.cell? ⟨w.heap.size, 1, none⟩ = some (.int .i64 ia) := by simp [World.cell?, hs0]
  have k2 : W0.cell? ⟨w.heap.size, 2, none⟩ = some (.int .i64 ib) := by simp [World.cell?, hs0]
  have k3 : W0.cell? ⟨w.heap.size, 3, none⟩ = some (.int .i64 ic) := by simp [World.cell?, hs0]
  replace hV := hV.below hb0
  have HB0 := hid hb0
  clear hs0 hb0
  obtain ⟨c0, c1, c2, c3, c4, c5⟩ := hV.cells
  have hpc := hV.fld
  have QP : Hid (∀ nn, (W0.drewN nn).cell? ⟨b, 0, none⟩ = some (.int .i64 p)) := fun nn => hpc
  obtain ⟨br, orr, har, hrw⟩ := hV.rowAt H.hr
  subst har
  have r0 := hrw 0 (by omega)
  rw [Nat.add_zero] at r0
  have i0 : I64 (zat r 0) := H.fr 0
  have l0 : (0 : Int) < (r.length : Int) := by have := H.hr; omega
  have r7 := hrw 7 (by omega)
  have i7 : I64 (zat r 7) := H.fr 7
  have l7 : (7 : Int) < (r.length : Int) := by have := H.hr; omega
  have r8 := hrw 8 (by omega)
  have i8 : I64 (zat r 8) := H.fr 8
  have l8 : (8 : Int) < (r.length : Int) := by have := H.hr; omega
  have r9 := hrw 9 (by omega)
  have i9 : I64 (zat r 9) := H.fr 9
  have l9 : (9 : Int) < (r.length : Int) := by have := H.hr; omega
  clear hrw
  have HE : Hid (tvW p r ⟨10, ia, ib, ic⟩ = (((zat r 7) - (zat r 0)) % (p : Int))) := by
    unfold Hid
    rw [show tvW p r ⟨10, ia, ib, ic⟩ = (zat r 7 - zat r 0) % (p : Int) from rfl]
  obtain ⟨R, hR⟩ : ∃ R, R = tvW p r ⟨10, ia, ib, ic⟩ := ⟨_, rfl⟩
  rw [← hR] at HE ⊢
  clear hR
  have HC0 : Hid (∀ W : World, W.cell? ⟨b, 0, none⟩ = some (.int .i64 p) → Calls Tryz.prog 54 #[.pointer (some ⟨b, 0, none⟩), .int .i64 (zat r 7), .int .i64 (zat r 0)] W fun e w' => e = .returned (.int .i64 (((zat r 7) - (zat r 0)) % (p : Int))) ∧ w' = W) := fun W h => sub_any p b _ _ W h3 h4 h i7.1 i7.2 i0.1 i0.2
  clear i0 i7 i8 i9
  clear HEM H hV
  generalize (((zat r 7) - (zat r 0)) % (p : Int)) = t1 at *
  generalize zat r 0 = x0 at *
  generalize zat r 7 = x7 at *
  generalize zat r 8 = x8 at *
  generalize zat r 9 = x9 at *
  generalize r.length = lr at *
  generalize L.length = nL at *
  go_enter Tryz.func91, Tryz.ntmps91
  go_wp2_with fail
  rw [← hW0]
  clear hW0
  go_wp2_with fail
  go_quiet (fail)
  obtain ⟨W1, hW1⟩ : ∃ W1, W1 = W0.drewN nq := ⟨_, rfl⟩
  replace hpc : W1.cell? ⟨b, 0, none⟩ = some (.int .i64 p) := by rw [hW1]; exact hpc
  replace c0 : W1.cell? ⟨V, 0, none⟩ = some (.pointer (some ⟨b, 0, none⟩)) := by rw [hW1]; exact c0
  replace c4 : W1.cell? ⟨V, 4, none⟩ = some (.slice (some ⟨br, orr, none⟩) lr cr) := by rw [hW1]; exact c4
  replace k0 : W1.cell? ⟨w.heap.size, 0, none⟩ = some (.int .i64 10) := by rw [hW1]; exact k0
  replace k1 : W1.cell? ⟨w.heap.size, 1, none⟩ = some (.int .i64 ia) := by rw [hW1]; exact k1
  replace k2 : W1.cell? ⟨w.heap.size, 2, none⟩ = some (.int .i64 ib) := by rw [hW1]; exact k2
  replace r7 : W1.cell? ⟨br, orr + 7, none⟩ = some (.int .i64 x7) := by rw [hW1]; exact r7
  replace r8 : W1.cell? ⟨br, orr + 8, none⟩ = some (.int .i64 x8) := by rw [hW1]; exact r8
  replace r9 : W1.cell? ⟨br, orr + 9, none⟩ = some (.int .i64 x9) := by rw [hW1]; exact r9
  replace r0 : W1.cell? ⟨br, orr, none⟩ = some (.int .i64 x0) := by rw [hW1]; exact r0
  have QP : Hid (∀ nn, (W1.drewN nn).cell? ⟨b, 0, none⟩ = some (.int .i64 p)) := fun nn => hpc
  have HB1 : Hid (Below w.heap.size w W1) := by unfold Hid; rw [hW1]; exact below_drewN HB0.out _
  rw [← hW1]
  clear hW1
  go_wp2_with fail
  go_quiet (first
    | (go_at_call 54; first | with_reducible exact Calls.quiet_of_same (HC0.out _ (QP.out _))))
  go_wp2_with fail
  go_ret
  exact ⟨by have h := HE.out; subst h; rfl, below_drewN HB1.out _⟩

set_option maxRecDepth 100000 in
set_option maxHeartbeats 2000000 in
theorem vwork_12 (p b V : Nat) (L : List InsZ) (size out : Int) (r n : List Int) (aL : Option Addr) (cL : Nat) (ar : Option Addr) (cr : Nat) (an : Option Addr) (cn : Nat) (w : World) (H : VF p L size out r n) (hV : VW p b V L size out r n aL cL ar cr an cn w) (k : Nat) (ia ib ic : Int) (hi : k < 281474976710656 ∧ I64 ia ∧ I64 ib ∧ I64 ic)  :
    Calls Tryz.prog 91 #[.pointer (some ⟨V, 0, none⟩), .int .i64 (k : Int), .agg #[.int .i64 12, .int .i64 ia, .int .i64 ib, .int .i64 ic]] w fun e w' => e = .returned (.int .i64 (tvW p r ⟨12, ia, ib, ic⟩)) ∧ Below w.heap.size w w' := by
  have h3 := H.h3
  have h4 := H.h4
  obtain ⟨hk, hia, hib, hic⟩ := hi
  have HEM : Hid (∀ a : Int, I64 (a % (p : Int))) := fun a => by have := emod_bounds a p H.h3; have := H.h4; unfold I64; omega
  obtain ⟨W0, hW0⟩ : ∃ W0, W0 = w.alloc (.cells #[.int .i64 12, .int .i64 ia, .int .i64 ib, .int .i64 ic] 44) := ⟨_, rfl⟩
  have hb0 : Below w.heap.size w W0 := by rw [hW0]; exact (Below.refl _ _).alloc (Nat.le_refl _) _
  have hs0 : W0.heap[w.heap.size]? = some (.cells #[.int .i64 12, .int .i64 ia, .int .i64 ib, .int .i64 ic] 44 (0, 0)) := by rw [hW0]; exact heap_alloc_new w _
  have k0 : W0.cell? ⟨w.heap.size, 0, none⟩ = some (.int .i64 12) := by simp [World.cell?, hs0]
  have k1 : W0.cell? ⟨w.heap.size, 1, none⟩ = some (.int .i64 ia) := by simp [World.cell?, hs0]
  have k2 : W0.cell? ⟨w.heap.size, 2, none⟩ = some (.int .i64 ib) := by simp [World.cell?, hs0]
  have k3 : W0.cell? ⟨w.heap.size, 3, none⟩ = some (.int .i64 ic) := by simp [World.cell?, hs0]
  replace hV := hV.below hb0
  have HB0 := hid hb0
  clear hs0 hb0
  obtain ⟨c0, c1, c2, c3, c4, c5⟩ := hV.cells
  have hpc := hV.fld
  have QP : Hid (∀ nn, (W0.drewN nn).cell? ⟨b, 0, none⟩ = some (.int .i64 p)) := fun nn => hpc
  obtain ⟨br, orr, har, hrw⟩ := hV.rowAt H.hr
  subst har
  have r2 := hrw 2 (by omega)
  have i2 : I64 (zat r 2) := H.fr 2
  have l2 : (2 : Int) < (r.length : Int) := by have := H.hr; omega
  have r7 := hrw 7 (by omega)
  have i7 : I64 (zat r 7) := H.fr 7
  have l7 : (7 : Int) < (r.length : Int) := by have := H.hr; omega
  have r8 := hrw 8 (by omega)
  have i8 : I64 (zat r 8) := H.fr 8
  have l8 : (8 : Int) < (r.length : Int) := by have := H.hr; omega
  have r9 := hrw 9 (by omega)
  have i9 : I64 (zat r 9) := H.fr 9
  have l9 : (9 : Int) < (r.length : Int) := by have := H.hr; omega
  clear hrw
  have HE : Hid (tvW p r ⟨12, ia, ib, ic⟩ = (((zat r 7) - (zat r 2)) % (p : Int))) := by
    unfold Hid
    rw [show tvW p r ⟨12, ia, ib, ic⟩ = (zat r 7 - zat r 2) % (p : Int) from rfl]
  obtain ⟨R, hR⟩ : ∃ R, R = tvW p r ⟨12, ia, ib, ic⟩ := ⟨_, rfl⟩
  rw [← hR] at HE ⊢
  clear hR
  have HC0 : Hid (∀ W : World, W.cell? ⟨b, 0, none⟩ = some (.int .i64 p) → Calls Tryz.prog 54 #[.pointer (some ⟨b, 0, none⟩), .int .i64 (zat r 7), .int .i64 (zat r 2)] W fun e w' => e = .returned (.int .i64 (((zat r 7) - (zat r 2)) % (p : Int))) ∧ w' = W) := fun W h => sub_any p b _ _ W h3 h4 h i7.1 i7.2 i2.1 i2.2
  clear i2 i7 i8 i9
  clear HEM H hV
  generalize (((zat r 7) - (zat r 2)) % (p : Int)) = t1 at *
  generalize zat r 2 = x2 at *
  generalize zat r 7 = x7 at *
  generalize zat r 8 = x8 at *
  generalize zat r 9 = x9 at *
  generalize r.length = lr at *
  generalize L.length = nL at *
  go_enter Tryz.func91, Tryz.ntmps91
  go_wp2_with fail
  rw [← hW0]
  clear hW0
  go_wp2_with fail
  go_quiet (fail)
  obtain ⟨W1, hW1⟩ : ∃ W1, W1 = W0.drewN nq := ⟨_, rfl⟩
  replace hpc : W1.cell? ⟨b, 0, none⟩ = some (.int .i64 p) := by rw [hW1]; exact hpc
  replace c0 : W1.cell? ⟨V, 0, none⟩ = some (.pointer (some ⟨b, 0, none⟩)) := by rw [hW1]; exact c0
  replace c4 : W1.cell? ⟨V, 4, none⟩ = some (.slice (some ⟨br, orr, none⟩) lr cr) := by rw [hW1]; exact c4
  replace k0 : W1.cell? ⟨w.heap.size, 0, none⟩ = some (.int .i64 12) := by rw [hW1]; exact k0
  replace k1 : W1.cell? ⟨w.heap.size, 1, none⟩ = some (.int .i64 ia) := by rw [hW1]; exact k1
  replace k2 : W1.cell? ⟨w.heap.size, 2, none⟩ = some (.int .i64 ib) := by rw [hW1]; exact k2
  replace r2 : W1.cell? ⟨br, orr + 2, none⟩ = some (.int .i64 x2) := by rw [hW1]; exact r2
  replace r7 : W1.cell? ⟨br, orr + 7, none⟩ = some (.int .i64 x7) := by rw [hW1]; exact r7
  replace r8 : W1.cell? ⟨br, orr + 8, none⟩ = some (.int .i64 x8) := by rw [hW1]; exact r8
  replace r9 : W1.cell? ⟨br, orr + 9, none⟩ = some (.int .i64 x9) := by rw [hW1]; exact r9
  have QP : Hid (∀ nn, (W1.drewN nn).cell? ⟨b, 0, none⟩ = some (.int .i64 p)) := fun nn => hpc
  have HB1 : Hid (Below w.heap.size w W1) := by unfold Hid; rw [hW1]; exact below_drewN HB0.out _
  rw [← hW1]
  clear hW1
  go_wp2_with fail
  go_quiet (first
    | (go_at_call 54; first | with_reducible exact Calls.quiet_of_same (HC0.out _ (QP.out _))))
  go_wp2_with fail
  go_ret
  exact ⟨by have h := HE.out; subst h; rfl, below_drewN HB1.out _⟩

set_option maxRecDepth 100000 in
set_option maxHeartbeats 2000000 in
theorem vwork_0 (p b V : Nat) (L : List InsZ) (size out : Int) (r n : List Int) (aL : Option Addr) (cL : Nat) (ar : Option Addr) (cr : Nat) (an : Option Addr) (cn : Nat) (w : World) (H : VF p L size out r n) (hV : VW p b V L size out r n aL cL ar cr an cn w) (k : Nat) (ia ib ic : Int) (hi : k < 281474976710656 ∧ I64 ia ∧ I64 ib ∧ I64 ic)  :
    Calls Tryz.prog 91 #[.pointer (some ⟨V, 0, none⟩), .int .i64 (k : Int), .agg #[.int .i64 0, .int .i64 ia, .int .i64 ib, .int .i64 ic]] w fun e w' => e = .returned (.int .i64 (tvW p r ⟨0, ia, ib, ic⟩)) ∧ Below w.heap.size w w' := by
  have h3 := H.h3
  have h4 := H.h4
  obtain ⟨hk, hia, hib, hic⟩ := hi
  have HEM : Hid (∀ a : Int, I64 (a % (p : Int))) := fun a => by have := emod_bounds a p H.h3; have := H.h4; unfold I64; omega
  obtain ⟨W0, hW0⟩ : ∃ W0, W0 = w.alloc (.cells #[.int .i64 0, .int .i64 ia, .int .i64 ib, .int .i64 ic] 44) := ⟨_, rfl⟩
  have hb0 : Below w.heap.size w W0 := by rw [hW0]; exact (Below.refl _ _).alloc (Nat.le_refl _) _
  have hs0 : W0.heap[w.heap.size]? = some (.cells #[.int .i64 0, .int .i64 ia, .int .i64 ib, .int .i64 ic] 44 (0, 0)) := by rw [hW0]; exact heap_alloc_new w _
  have k0 : W0.cell? ⟨w.heap.size, 0, none⟩ = some (.int .i64 0) := by simp [World.cell?, hs0]
  have k1 : W0.cell? ⟨w.heap.size, 1, none⟩ = some (.int .i64 ia) := by simp [World.cell?, hs0]
  have k2 : W0.cell? ⟨w.heap.size, 2, none⟩ = some (.int .i64 ib) := by simp [World.cell?, hs0]
  have k3 : W0.cell? ⟨w.heap.size, 3, none⟩ = some (.int .i64 ic) := by simp [World.cell?, hs0]
  replace hV := hV.below hb0
  have HB0 := hid hb0
  clear hs0 hb0
  obtain ⟨c0, c1, c2, c3, c4, c5⟩ := hV.cells
  have hpc := hV.fld
  have QP : Hid (∀ nn, (W0.drewN nn).cell? ⟨b, 0, none⟩ = some (.int .i64 p)) := fun nn => hpc
  obtain ⟨br, orr, har, hrw⟩ := hV.rowAt H.hr
  subst har
  have r7 := hrw 7 (by omega)
  have i7 : I64 (zat r 7) := H.fr 7
  have l7 : (7 : Int) < (r.length : Int) := by have := H.hr; omega
  have r8 := hrw 8 (by omega)
  have i8 : I64 (zat r 8) := H.fr 8
  have l8 : (8 : Int) < (r.length : Int) := by have := H.hr; omega
  have r9 := hrw 9 (by omega)
  have i9 : I64 (zat r 9) := H.fr 9
  have l9 : (9 : Int) < (r.length : Int) := by have := H.hr; omega
  clear hrw
  have HE : Hid (tvW p r ⟨0, ia, ib, ic⟩ = 0) := rfl
  obtain ⟨R, hR⟩ : ∃ R, R = tvW p r ⟨0, ia, ib, ic⟩ := ⟨_, rfl⟩
  rw [← hR] at HE ⊢
  clear hR
  clear i7 i8 i9
  clear HEM H hV
  generalize zat r 7 = x7 at *
  generalize zat r 8 = x8 at *
  generalize zat r 9 = x9 at *
  generalize r.length = lr at *
  generalize L.length = nL at *
  go_enter Tryz.func91, Tryz.ntmps91
  go_wp2_with fail
  rw [← hW0]
  clear hW0
  go_wp2_with fail
  go_quiet (fail)
  obtain ⟨W1, hW1⟩ : ∃ W1, W1 = W0.drewN nq := ⟨_, rfl⟩
  replace hpc : W1.cell? ⟨b, 0, none⟩ = some (.int .i64 p) := by rw [hW1]; exact hpc
  replace c0 : W1.cell? ⟨V, 0, none⟩ = some (.pointer (some ⟨b, 0, none⟩)) := by rw [hW1]; exact c0
  replace c4 : W1.cell? ⟨V, 4, none⟩ = some (.slice (some ⟨br, orr, none⟩) lr cr) := by rw [hW1]; exact c4
  replace k0 : W1.cell? ⟨w.heap.size, 0, none⟩ = some (.int .i64 0) := by rw [hW1]; exact k0
  replace k1 : W1.cell? ⟨w.heap.size, 1, none⟩ = some (.int .i64 ia) := by rw [hW1]; exact k1
  replace k2 : W1.cell? ⟨w.heap.size, 2, none⟩ = some (.int .i64 ib) := by rw [hW1]; exact k2
  replace r7 : W1.cell? ⟨br, orr + 7, none⟩ = some (.int .i64 x7) := by rw [hW1]; exact r7
  replace r8 : W1.cell? ⟨br, orr + 8, none⟩ = some (.int .i64 x8) := by rw [hW1]; exact r8
  replace r9 : W1.cell? ⟨br, orr + 9, none⟩ = some (.int .i64 x9) := by rw [hW1]; exact r9
  have QP : Hid (∀ nn, (W1.drewN nn).cell? ⟨b, 0, none⟩ = some (.int .i64 p)) := fun nn => hpc
  have HB1 : Hid (Below w.heap.size w W1) := by unfold Hid; rw [hW1]; exact below_drewN HB0.out _
  rw [← hW1]
  clear hW1
  go_wp2_with fail
  go_ret
  exact ⟨by have h := HE.out; subst h; rfl, HB1.out⟩

set_option maxRecDepth 100000 in
set_option maxHeartbeats 2000000 in
theorem vwork_8 (p b V : Nat) (L : List InsZ) (size out : Int) (r n : List Int) (aL : Option Addr) (cL : Nat) (ar : Option Addr) (cr : Nat) (an : Option Addr) (cn : Nat) (w : World) (H : VF p L size out r n) (hV : VW p b V L size out r n aL cL ar cr an cn w) (k : Nat) (ia ib ic : Int) (hi : k < 281474976710656 ∧ I64 ia ∧ I64 ib ∧ I64 ic)  :
    Calls Tryz.prog 91 #[.pointer (some ⟨V, 0, none⟩), .int .i64 (k : Int), .agg #[.int .i64 8, .int .i64 ia, .int .i64 ib, .int .i64 ic]] w fun e w' => e = .returned (.int .i64 (tvW p r ⟨8, ia, ib, ic⟩)) ∧ Below w.heap.size w w' := by
  have h3 := H.h3
  have h4 := H.h4
  obtain ⟨hk, hia, hib, hic⟩ := hi
  have HEM : Hid (∀ a : Int, I64 (a % (p : Int))) := fun a => by have := emod_bounds a p H.h3; have := H.h4; unfold I64; omega
  obtain ⟨W0, hW0⟩ : ∃ W0, W0 = w.alloc (.cells #[.int .i64 8, .int .i64 ia, .int .i64 ib, .int .i64 ic] 44) := ⟨_, rfl⟩
  have hb0 : Below w.heap.size w W0 := by rw [hW0]; exact (Below.refl _ _).alloc (Nat.le_refl _) _
  have hs0 : W0.heap[w.heap.size]? = some (.cells #[.int .i64 8, .int .i64 ia, .int .i64 ib, .int .i64 ic] 44 (0, 0)) := by rw [hW0]; exact heap_alloc_new w _
  have k0 : W0.cell? ⟨w.heap.size, 0, none⟩ = some (.int .i64 8) := by simp [World.cell?, hs0]
  have k1 : W0.cell? ⟨w.heap.size, 1, none⟩ = some (.int .i64 ia) := by simp [World.cell?, hs0]
  have k2 : W0.cell? ⟨w.heap.size, 2, none⟩ = some (.int .i64 ib) := by simp [World.cell?, hs0]
  have k3 : W0.cell? ⟨w.heap.size, 3, none⟩ = some (.int .i64 ic) := by simp [World.cell?, hs0]
  replace hV := hV.below hb0
  have HB0 := hid hb0
  clear hs0 hb0
  obtain ⟨c0, c1, c2, c3, c4, c5⟩ := hV.cells
  have hpc := hV.fld
  have QP : Hid (∀ nn, (W0.drewN nn).cell? ⟨b, 0, none⟩ = some (.int .i64 p)) := fun nn => hpc
  obtain ⟨br, orr, har, hrw⟩ := hV.rowAt H.hr
  subst har
  have r7 := hrw 7 (by omega)
  have i7 : I64 (zat r 7) := H.fr 7
  have l7 : (7 : Int) < (r.length : Int) := by have := H.hr; omega
  have r8 := hrw 8 (by omega)
  have i8 : I64 (zat r 8) := H.fr 8
  have l8 : (8 : Int) < (r.length : Int) := by have := H.hr; omega
  have r9 := hrw 9 (by omega)
  have i9 : I64 (zat r 9) := H.fr 9
  have l9 : (9 : Int) < (r.length : Int) := by have := H.hr; omega
  clear hrw
  have HE : Hid (tvW p r ⟨8, ia, ib, ic⟩ = 0) := rfl
  obtain ⟨R, hR⟩ : ∃ R, R = tvW p r ⟨8, ia, ib, ic⟩ := ⟨_, rfl⟩
  rw [← hR] at HE ⊢
  clear hR
  clear i7 i8 i9
  clear HEM H hV
  generalize zat r 7 = x7 at *
  generalize zat r 8 = x8 at *
  generalize zat r 9 = x9 at *
  generalize r.length = lr at *
  generalize L.length = nL at *
  go_enter Tryz.func91, Tryz.ntmps91
  go_wp2_with fail
  rw [← hW0]
  clear hW0
  go_wp2_with fail
  go_quiet (fail)
  obtain ⟨W1, hW1⟩ : ∃ W1, W1 = W0.drewN nq := ⟨_, rfl⟩
  replace hpc : W1.cell? ⟨b, 0, none⟩ = some (.int .i64 p) := by rw [hW1]; exact hpc
  replace c0 : W1.cell? ⟨V, 0, none⟩ = some (.pointer (some ⟨b, 0, none⟩)) := by rw [hW1]; exact c0
  replace c4 : W1.cell? ⟨V, 4, none⟩ = some (.slice (some ⟨br, orr, none⟩) lr cr) := by rw [hW1]; exact c4
  replace k0 : W1.cell? ⟨w.heap.size, 0, none⟩ = some (.int .i64 8) := by rw [hW1]; exact k0
  replace k1 : W1.cell? ⟨w.heap.size, 1, none⟩ = some (.int .i64 ia) := by rw [hW1]; exact k1
  replace k2 : W1.cell? ⟨w.heap.size, 2, none⟩ = some (.int .i64 ib) := by rw [hW1]; exact k2
  replace r7 : W1.cell? ⟨br, orr + 7, none⟩ = some (.int .i64 x7) := by rw [hW1]; exact r7
  replace r8 : W1.cell? ⟨br, orr + 8, none⟩ = some (.int .i64 x8) := by rw [hW1]; exact r8
  replace r9 : W1.cell? ⟨br, orr + 9, none⟩ = some (.int .i64 x9) := by rw [hW1]; exact r9
  have QP : Hid (∀ nn, (W1.drewN nn).cell? ⟨b, 0, none⟩ = some (.int .i64 p)) := fun nn => hpc
  have HB1 : Hid (Below w.heap.size w W1) := by unfold Hid; rw [hW1]; exact below_drewN HB0.out _
  rw [← hW1]
  clear hW1
  go_wp2_with fail
  go_ret
  exact ⟨by have h := HE.out; subst h; rfl, HB1.out⟩

set_option maxRecDepth 100000 in
set_option maxHeartbeats 2000000 in
theorem vwork_11 (p b V : Nat) (L : List InsZ) (size out : Int) (r n : List Int) (aL : Option Addr) (cL : Nat) (ar : Option Addr) (cr : Nat) (an : Option Addr) (cn : Nat) (w : World) (H : VF p L size out r n) (hV : VW p b V L size out r n aL cL ar cr an cn w) (k : Nat) (ia ib ic : Int) (hi : k < 281474976710656 ∧ I64 ia ∧ I64 ib ∧ I64 ic)  :
    Calls Tryz.prog 91 #[.pointer (some ⟨V, 0, none⟩), .int .i64 (k : Int), .agg #[.int .i64 11, .int .i64 ia, .int .i64 ib, .int .i64 ic]] w fun e w' => e = .returned (.int .i64 (tvW p r ⟨11, ia, ib, ic⟩)) ∧ Below w.heap.size w w' := by
  have h3 := H.h3
  have h4 := H.h4
  obtain ⟨hk, hia, hib, hic⟩ := hi
  have HEM : Hid (∀ a : Int, I64 (a % (p : Int))) := fun a => by have := emod_bounds a p H.h3; have := H.h4; unfold I64; omega
  obtain ⟨W0, hW0⟩ : ∃ W0, W0 = w.alloc (.cells #[.int .i64 11, .int .i64 ia, .int .i64 ib, .int .i64 ic] 44) := ⟨_, rfl⟩
  have hb0 : Below w.heap.size w W0 := by rw [hW0]; exact (Below.refl _ _).alloc (Nat.le_refl _) _
  have hs0 : W0.heap[w.heap.size]? = some (.cells #[.int .i64 11, .int .i64 ia, .int .i64 ib, .int .i64 ic] 44 (0, 0)) := by rw [hW0]; exact heap_alloc_new w _
  have k0 : W0.cell? ⟨w.heap.size, 0, none⟩ = some (.int .i64 11) := by simp [World.cell?, hs0]
  have k1 : W0.cell? ⟨w.heap.size, 1, none⟩ = some (.int .i64 ia) := by simp [World.cell?, hs0]
  have k2 : W0.cell? ⟨w.heap.size, 2, none⟩ = some (.int .i64 ib) := by simp [World.cell?, hs0]
  have k3 : W0.cell? ⟨w.heap.size, 3, none⟩ = some (.int .i64 ic) := by simp [World.cell?, hs0]
  replace hV := hV.below hb0
  have HB0 := hid hb0
  clear hs0 hb0
  obtain ⟨c0, c1, c2, c3, c4, c5⟩ := hV.cells
  have hpc := hV.fld
  have QP : Hid (∀ nn, (W0.drewN nn).cell? ⟨b, 0, none⟩ = some (.int .i64 p)) := fun nn => hpc
  obtain ⟨br, orr, har, hrw⟩ := hV.rowAt H.hr
  subst har
  have r7 := hrw 7 (by omega)
  have i7 : I64 (zat r 7) := H.fr 7
  have l7 : (7 : Int) < (r.length : Int) := by have := H.hr; omega
  have r8 := hrw 8 (by omega)
  have i8 : I64 (zat r 8) := H.fr 8
  have l8 : (8 : Int) < (r.length : Int) := by have := H.hr; omega
  have r9 := hrw 9 (by omega)
  have i9 : I64 (zat r 9) := H.fr 9
  have l9 : (9 : Int) < (r.length : Int) := by have := H.hr; omega
  clear hrw
  have HE : Hid (tvW p r ⟨11, ia, ib, ic⟩ = 0) := rfl
  obtain ⟨R, hR⟩ : ∃ R, R = tvW p r ⟨11, ia, ib, ic⟩ := ⟨_, rfl⟩
  rw [← hR] at HE ⊢
  clear hR
  clear i7 i8 i9
  clear HEM H hV
  generalize zat r 7 = x7 at *
  generalize zat r 8 = x8 at *
  generalize zat r 9 = x9 at *
  generalize r.length = lr at *
  generalize L.length = nL at *
  go_enter Tryz.func91, Tryz.ntmps91
  go_wp2_with fail
  rw [← hW0]
  clear hW0
  go_wp2_with fail
  go_quiet (fail)
  obtain ⟨W1, hW1⟩ : ∃ W1, W1 = W0.drewN nq := ⟨_, rfl⟩
  replace hpc : W1.cell? ⟨b, 0, none⟩ = some (.int .i64 p) := by rw [hW1]; exact hpc
  replace c0 : W1.cell? ⟨V, 0, none⟩ = some (.pointer (some ⟨b, 0, none⟩)) := by rw [hW1]; exact c0
  replace c4 : W1.cell? ⟨V, 4, none⟩ = some (.slice (some ⟨br, orr, none⟩) lr cr) := by rw [hW1]; exact c4
  replace k0 : W1.cell? ⟨w.heap.size, 0, none⟩ = some (.int .i64 11) := by rw [hW1]; exact k0
  replace k1 : W1.cell? ⟨w.heap.size, 1, none⟩ = some (.int .i64 ia) := by rw [hW1]; exact k1
  replace k2 : W1.cell? ⟨w.heap.size, 2, none⟩ = some (.int .i64 ib) := by rw [hW1]; exact k2
  replace r7 : W1.cell? ⟨br, orr + 7, none⟩ = some (.int .i64 x7) := by rw [hW1]; exact r7
  replace r8 : W1.cell? ⟨br, orr + 8, none⟩ = some (.int .i64 x8) := by rw [hW1]; exact r8
  replace r9 : W1.cell? ⟨br, orr + 9, none⟩ = some (.int .i64 x9) := by rw [hW1]; exact r9
  have QP : Hid (∀ nn, (W1.drewN nn).cell? ⟨b, 0, none⟩ = some (.int .i64 p)) := fun nn => hpc
  have HB1 : Hid (Below w.heap.size w W1) := by unfold Hid; rw [hW1]; exact below_drewN HB0.out _
  rw [← hW1]
  clear hW1
  go_wp2_with fail
  go_ret
  exact ⟨by have h := HE.out; subst h; rfl, HB1.out⟩

set_option maxRecDepth 100000 in
set_option maxHeartbeats 2000000 in
theorem vwork_x (p b V : Nat) (L : List InsZ) (size out : Int) (r n : List Int) (aL : Option Addr) (cL : Nat) (ar : Option Addr) (cr : Nat) (an : Option Addr) (cn : Nat) (w : World) (H : VF p L size out r n) (hV : VW p b V L size out r n aL cL ar cr an cn w) (k : Nat) (ia ib ic : Int) (hi : k < 281474976710656 ∧ I64 ia ∧ I64 ib ∧ I64 ic) (op : Int) (hno : op ≠ 0 ∧ op ≠ 1 ∧ op ≠ 2 ∧ op ≠ 3 ∧ op ≠ 4 ∧ op ≠ 5 ∧ op ≠ 6 ∧ op ≠ 7 ∧ op ≠ 8 ∧ op ≠ 9 ∧ op ≠ 10 ∧ op ≠ 11 ∧ op ≠ 12 ∧ op ≠ 13)  :
    Calls Tryz.prog 91 #[.pointer (some ⟨V, 0, none⟩), .int .i64 (k : Int), .agg #[.int .i64 op, .int .i64 ia, .int .i64 ib, .int .i64 ic]] w fun e w' => e = .returned (.int .i64 (tvW p r ⟨op, ia, ib, ic⟩)) ∧ Below w.heap.size w w' := by
  have h3 := H.h3
  have h4 := H.h4
  obtain ⟨hk, hia, hib, hic⟩ := hi
  have HEM : Hid (∀ a : Int, I64 (a % (p : Int))) := fun a => by have := emod_bounds a p H.h3; have := H.h4; unfold I64; omega
  obtain ⟨W0, hW0⟩ : ∃ W0, W0 = w.alloc (.cells #[.int .i64 op, .int .i64 ia, .int .i64 ib, .int .i64 ic] 44) := ⟨_, rfl⟩
  have hb0 : Below w.heap.size w W0 := by rw [hW0]; exact (Below.refl _ _).alloc (Nat.le_refl _) _
  have hs0 : W0.heap[w.heap.size]? = some (.cells #[.int .i64 op, .int .i64 ia, .int .i64 ib, .int .i64 ic] 44 (0, 0)) := by rw [hW0]; exact heap_alloc_new w _
  have k0 : W0.cell? ⟨w.heap.size, 0, none⟩ = some (.int .i64 op) := by simp [World.cell?, hs0]
  have k1 : W0.cell? ⟨w.heap.size, 1, none⟩ = some (.int .i64 ia) := by simp [World.cell?, hs0]
  have k2 : W0.cell? ⟨w.heap.size, 2, none⟩ = some (.int .i64 ib) := by simp [World.cell?, hs0]
  have k3 : W0.cell? ⟨w.heap.size, 3, none⟩ = some (.int .i64 ic) := by simp [World.cell?, hs0]
  replace hV := hV.below hb0
  have HB0 := hid hb0
  clear hs0 hb0
  obtain ⟨c0, c1, c2, c3, c4, c5⟩ := hV.cells
  have hpc := hV.fld
  have QP : Hid (∀ nn, (W0.drewN nn).cell? ⟨b, 0, none⟩ = some (.int .i64 p)) := fun nn => hpc
  obtain ⟨br, orr, har, hrw⟩ := hV.rowAt H.hr
  subst har
  have r7 := hrw 7 (by omega)
  have i7 : I64 (zat r 7) := H.fr 7
  have l7 : (7 : Int) < (r.length : Int) := by have := H.hr; omega
  have r8 := hrw 8 (by omega)
  have i8 : I64 (zat r 8) := H.fr 8
  have l8 : (8 : Int) < (r.length : Int) := by have := H.hr; omega
  have r9 := hrw 9 (by omega)
  have i9 : I64 (zat r 9) := H.fr 9
  have l9 : (9 : Int) < (r.length : Int) := by have := H.hr; omega
  clear hrw
  have q0 : (op == 0) = false := by rw [beq_eq_false_iff_ne]; omega
  have q1 : (op == 1) = false := by rw [beq_eq_false_iff_ne]; omega
  have q2 : (op == 2) = false := by rw [beq_eq_false_iff_ne]; omega
  have q3 : (op == 3) = false := by rw [beq_eq_false_iff_ne]; omega
  have q4 : (op == 4) = false := by rw [beq_eq_false_iff_ne]; omega
  have q5 : (op == 5) = false := by rw [beq_eq_false_iff_ne]; omega
  have q6 : (op == 6) = false := by rw [beq_eq_false_iff_ne]; omega
  have q7 : (op == 7) = false := by rw [beq_eq_false_iff_ne]; omega
  have q8 : (op == 8) = false := by rw [beq_eq_false_iff_ne]; omega
  have q9 : (op == 9) = false := by rw [beq_eq_false_iff_ne]; omega
  have q10 : (op == 10) = false := by rw [beq_eq_false_iff_ne]; omega
  have q11 : (op == 11) = false := by rw [beq_eq_false_iff_ne]; omega
  have q12 : (op == 12) = false := by rw [beq_eq_false_iff_ne]; omega
  have q13 : (op == 13) = false := by rw [beq_eq_false_iff_ne]; omega
  have HE : Hid (tvW p r ⟨op, ia, ib, ic⟩ = 1) := by unfold Hid; simp [tvW, hno]
  obtain ⟨R, hR⟩ : ∃ R, R = tvW p r ⟨op, ia, ib, ic⟩ := ⟨_, rfl⟩
  rw [← hR] at HE ⊢
  clear hR
  clear i7 i8 i9
  clear HEM H hV
  generalize zat r 7 = x7 at *
  generalize zat r 8 = x8 at *
  generalize zat r 9 = x9 at *
  generalize r.length = lr at *
  generalize L.length = nL at *
  go_enter Tryz.func91, Tryz.ntmps91
  go_wp2_with fail
  rw [← hW0]
  clear hW0
  go_wp2_with fail
  go_quiet (fail)
  obtain ⟨W1, hW1⟩ : ∃ W1, W1 = W0.drewN nq := ⟨_, rfl⟩
  replace hpc : W1.cell? ⟨b, 0, none⟩ = some (.int .i64 p) := by rw [hW1]; exact hpc
  replace c0 : W1.cell? ⟨V, 0, none⟩ = some (.pointer (some ⟨b, 0, none⟩)) := by rw [hW1]; exact c0
  replace c4 : W1.cell? ⟨V, 4, none⟩ = some (.slice (some ⟨br, orr, none⟩) lr cr) := by rw [hW1]; exact c4
  replace k0 : W1.cell? ⟨w.heap.size, 0, none⟩ = some (.int .i64 op) := by rw [hW1]; exact k0
  replace k1 : W1.cell? ⟨w.heap.size, 1, none⟩ = some (.int .i64 ia) := by rw [hW1]; exact k1
  replace k2 : W1.cell? ⟨w.heap.size, 2, none⟩ = some (.int .i64 ib) := by rw [hW1]; exact k2
  replace r7 : W1.cell? ⟨br, orr + 7, none⟩ = some (.int .i64 x7) := by rw [hW1]; exact r7
  replace r8 : W1.cell? ⟨br, orr + 8, none⟩ = some (.int .i64 x8) := by rw [hW1]; exact r8
  replace r9 : W1.cell? ⟨br, orr + 9, none⟩ = some (.int .i64 x9) := by rw [hW1]; exact r9
  have QP : Hid (∀ nn, (W1.drewN nn).cell? ⟨b, 0, none⟩ = some (.int .i64 p)) := fun nn => hpc
  have HB1 : Hid (Below w.heap.size w W1) := by unfold Hid; rw [hW1]; exact below_drewN HB0.out _
  rw [← hW1]
  clear hW1
  go_wp2_with fail
  go_ret
  exact ⟨by have h := HE.out; subst h; rfl, HB1.out⟩

end Go.Proofs.YtfppkjpgihnibaaGreat
