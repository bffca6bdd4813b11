/- Package rules: what an instruction works. Package rules: what an instruction works. Package rules: sums of terms. -/
import Derived.Test.YtdpdmgmeieijaaaGreatDoorSndBB
import Derived.Test.YtdpdmgmeieijaaaGreatDoorRxE
import Derived.Test.YtdpdmgmeieijaaaGreatDoorSndBC
namespace Go.Proofs.YtdpdmgmeieijaaaGreatDoor
open Go.RowKit Go.Maps

set_option maxRecDepth 100000 in
set_option maxHeartbeats 2000000 in
theorem vwork_6 (p b V : Nat) (L : List InsZ) (size out : Int) (r n : List Int) (aL : Option Addr) (cL : Nat) (ar : Option Addr) (cr : Nat) (an : Option Addr) (cn : Nat) (w : World) (H : VF p L size out r n) (hV : VW p b V L size out r n aL cL ar cr an cn w) (k : Nat) (ia ib ic : Int) (hi : k < 281474976710656 ∧ I64 ia ∧ I64 ib ∧ I64 ic)  :
    Calls Tryz.prog 93 #[.pointer (some ⟨V, 0, none⟩), .int .i64 (k : Int), .agg #[.int .i64 6, .int .i64 ia, .int .i64 ib, .int .i64 ic]] w fun e w' => e = .returned (.int .i64 (tvW p r ⟨6, ia, ib, ic⟩)) ∧ Below w.heap.size w w' := by
  have h3 := H.h3
  have h4 := H.h4
  obtain ⟨hk, hia, hib, hic⟩ := hi
  have HEM : Hid (∀ a : Int, I64 (a % (p : Int))) := fun a => by have := emod_bounds a p H.h3; have := H.h4; unfold I64; omega
  obtain ⟨W0, hW0⟩ : ∃ W0, W0 = w.alloc (.cells #[.int .i64 6, .int .i64 ia, .int .i64 ib, .int .i64 ic] 45) := ⟨_, rfl⟩
  have hb0 : Below w.heap.size w W0 := by rw [hW0]; exact (Below.refl _ _).alloc (Nat.le_refl _) _
  have hs0 : W0.heap[w.heap.size]? = some (.cells #[.int .i64 6, .int .i64 ia, .int .i64 ib, .int .i64 ic] 45 (0, 0)) := by rw [hW0]; exact heap_alloc_new w _
  have k0 : W0.cell? ⟨w.heap.size, 0, none⟩ = some (.int .i64 6) := by simp [World.cell?, hs0]
  have k1 : W0.cell? ⟨w.heap.size, 1, none⟩ = some (.int .i64 ia) := by simp [World.cell?, hs0]
  have k2 : W0.cell? ⟨w.heap.size, 2, none⟩ = some (.int .i64 ib) := by simp [World.cell?, hs0]
  have k3 : W0.cell? ⟨w.heap.size, 3, none⟩ = some (.int .i64 ic) := by simp [World.cell?, hs0]
  replace hV := hV.below hb0
  have HB0 := hid hb0
  clear hs0 hb0
  obtain ⟨c0, c1, c2, c3, c4, c5⟩ := hV.cells
  have hpc := hV.fld
  have QP : Hid (∀ nn, (W0.drewN nn).cell? ⟨b, 0, none⟩ = some (.int .i64 p)) := fun nn => hpc
  obtain ⟨br, orr, har, hrw⟩ := hV.rowAt H.hr
  subst har
  have r7 := hrw 7 (by omega)
  have i7 : I64 (zat r 7) := H.fr 7
  have l7 : (7 : Int) < (r.length : Int) := by have := H.hr; omega
  have r8 := hrw 8 (by omega)
  have i8 : I64 (zat r 8) := H.fr 8
  have l8 : (8 : Int) < (r.length : Int) := by have := H.hr; omega
  have r9 := hrw 9 (by omega)
  have i9 : I64 (zat r 9) := H.fr 9
  have l9 : (9 : Int) < (r.length : Int) := by have := H.hr; omega
  have r11 := hrw 11 (by omega)
  have i11 : I64 (zat r 11) := H.fr 11
  have l11 : (11 : Int) < (r.length : Int) := by have := H.hr; omega
  clear hrw
  have HE : Hid (tvW p r ⟨6, ia, ib, ic⟩ = (((((((zat r 7) - (zat r 8)) % (p : Int)) * (zat r 11)) % (p : Int)) - (((1 : Int) - (zat r 9)) % (p : Int))) % (p : Int))) := by
    unfold Hid
    rw [show tvW p r ⟨6, ia, ib, ic⟩ = ((zat r 7 - zat r 8) * zat r 11 - (1 - zat r 9)) % (p : Int) from rfl]
    simp only [em_mul1, em_sub1, em_sub2]
  obtain ⟨R, hR⟩ : ∃ R, R = tvW p r ⟨6, ia, ib, ic⟩ := ⟨_, rfl⟩
  rw [← hR] at HE ⊢
  clear hR
  have HC0 : Hid (∀ W : World, W.cell? ⟨b, 0, none⟩ = some (.int .i64 p) → Calls Tryz.prog 85 #[.pointer (some ⟨b, 0, none⟩), .int .i64 (zat r 7), .int .i64 (zat r 8)] W fun e w' => e = .returned (.int .i64 (((zat r 7) - (zat r 8)) % (p : Int))) ∧ w' = W) := fun W h => sub_any p b _ _ W h3 h4 h i7.1 i7.2 i8.1 i8.2
  have HC1 : Hid (∀ W : World, W.cell? ⟨b, 0, none⟩ = some (.int .i64 p) → Calls Tryz.prog 87 #[.pointer (some ⟨b, 0, none⟩), .int .i64 (((zat r 7) - (zat r 8)) % (p : Int)), .int .i64 (zat r 11)] W fun e w' => e = .returned (.int .i64 (((((zat r 7) - (zat r 8)) % (p : Int)) * (zat r 11)) % (p : Int))) ∧ w' = W) := fun W h => mul_any p b _ _ W h3 h4 h (HEM.out _).1 (HEM.out _).2 i11.1 i11.2
  have HC2 : Hid (∀ W : World, W.cell? ⟨b, 0, none⟩ = some (.int .i64 p) → Calls Tryz.prog 85 #[.pointer (some ⟨b, 0, none⟩), .int .i64 (1 : Int), .int .i64 (zat r 9)] W fun e w' => e = .returned (.int .i64 (((1 : Int) - (zat r 9)) % (p : Int))) ∧ w' = W) := fun W h => sub_any p b _ _ W h3 h4 h (show I64 1 by unfold I64; decide).1 (show I64 1 by unfold I64; decide).2 i9.1 i9.2
  have HC3 : Hid (∀ W : World, W.cell? ⟨b, 0, none⟩ = some (.int .i64 p) → Calls Tryz.prog 85 #[.pointer (some ⟨b, 0, none⟩), .int .i64 (((((zat r 7) - (zat r 8)) % (p : Int)) * (zat r 11)) % (p : Int)), .int .i64 (((1 : Int) - (zat r 9)) % (p : Int))] W fun e w' => e = .returned (.int .i64 (((((((zat r 7) - (zat r 8)) % (p : Int)) * (zat r 11)) % (p : Int)) - (((1 : Int) - (zat r 9)) % (p : Int))) % (p : Int))) ∧ w' = W) := fun W h => sub_any p b _ _ W h3 h4 h (HEM.out _).1 (HEM.out _).2 (HEM.out _).1 (HEM.out _).2
  clear i7 i8 i9 i11
  clear HEM H hV
  generalize (((((((zat r 7) - (zat r 8)) % (p : Int)) * (zat r 11)) % (p : Int)) - (((1 : Int) - (zat r 9)) % (p : Int))) % (p : Int)) = t4 at *
  generalize (((1 : Int) - (zat r 9)) % (p : Int)) = t3 at *
  generalize (((((zat r 7) - (zat r 8)) % (p : Int)) * (zat r 11)) % (p : Int)) = t2 at *
  generalize (((zat r 7) - (zat r 8)) % (p : Int)) = t1 at *
  generalize zat r 7 = x7 at *
  generalize zat r 8 = x8 at *
  generalize zat r 9 = x9 at *
  generalize zat r 11 = x11 at *
  generalize r.length = lr at *
  generalize L.length = nL at *
  go_enter Tryz.func93, Tryz.ntmps93
  go_wp2_with fail
  rw [← hW0]
  clear hW0
  go_wp2_with fail
  go_quiet (fail)
  obtain ⟨W1, hW1⟩ : ∃ W1, W1 = W0.drewN nq := ⟨_, rfl⟩
  replace hpc : W1.cell? ⟨b, 0, none⟩ = some (.int .i64 p) := by rw [hW1]; exact hpc
  replace c0 : W1.cell? ⟨V, 0, none⟩ = some (.pointer (some ⟨b, 0, none⟩)) := by rw [hW1]; exact c0
  replace c4 : W1.cell? ⟨V, 4, none⟩ = some (.slice (some ⟨br, orr, none⟩) lr cr) := by rw [hW1]; exact c4
  replace k0 : W1.cell? ⟨w.heap.size, 0, none⟩ = some (.int .i64 6) := by rw [hW1]; exact k0
  replace k1 : W1.cell? ⟨w.heap.size, 1, none⟩ = some (.int .i64 ia) := by rw [hW1]; exact k1
  replace k2 : W1.cell? ⟨w.heap.size, 2, none⟩ = some (.int .i64 ib) := by rw [hW1]; exact k2
  replace r7 : W1.cell? ⟨br, orr + 7, none⟩ = some (.int .i64 x7) := by rw [hW1]; exact r7
  replace r8 : W1.cell? ⟨br, orr + 8, none⟩ = some (.int .i64 x8) := by rw [hW1]; exact r8
  replace r9 : W1.cell? ⟨br, orr + 9, none⟩ = some (.int .i64 x9) := by rw [hW1]; exact r9
  replace r11 : W1.cell? ⟨br, orr + 11, none⟩ = some (.int .i64 x11) := by rw [hW1]; exact r11
  have QP : Hid (∀ nn, (W1.drewN nn).cell? ⟨b, 0, none⟩ = some (.int .i64 p)) := fun nn => hpc
  have HB1 : Hid (Below w.heap.size w W1) := by unfold Hid; rw [hW1]; exact below_drewN HB0.out _
  rw [← hW1]
  clear hW1
  go_wp2_with fail
  go_quiet (first
    | (go_at_call 85; first | with_reducible exact Calls.quiet_of_same (HC0.out _ (QP.out _)) | with_reducible exact Calls.quiet_of_same (HC2.out _ (QP.out _)) | with_reducible exact Calls.quiet_of_same (HC3.out _ (QP.out _)))
    | (go_at_call 87; first | with_reducible exact Calls.quiet_of_same (HC1.out _ (QP.out _))))
  go_wp2_with fail
  go_ret
  exact ⟨by have h := HE.out; subst h; rfl, below_drewN HB1.out _⟩

set_option maxRecDepth 100000 in
set_option maxHeartbeats 2000000 in
theorem vwork_7 (p b V : Nat) (L : List InsZ) (size out : Int) (r n : List Int) (aL : Option Addr) (cL : Nat) (ar : Option Addr) (cr : Nat) (an : Option Addr) (cn : Nat) (w : World) (H : VF p L size out r n) (hV : VW p b V L size out r n aL cL ar cr an cn w) (k : Nat) (ia ib ic : Int) (hi : k < 281474976710656 ∧ I64 ia ∧ I64 ib ∧ I64 ic)  :
    Calls Tryz.prog 93 #[.pointer (some ⟨V, 0, none⟩), .int .i64 (k : Int), .agg #[.int .i64 7, .int .i64 ia, .int .i64 ib, .int .i64 ic]] w fun e w' => e = .returned (.int .i64 (tvW p r ⟨7, ia, ib, ic⟩)) ∧ Below w.heap.size w w' := by
  have h3 := H.h3
  have h4 := H.h4
  obtain ⟨hk, hia, hib, hic⟩ := hi
  have HEM : Hid (∀ a : Int, I64 (a % (p : Int))) := fun a => by have := emod_bounds a p H.h3; have := H.h4; unfold I64; omega
  obtain ⟨W0, hW0⟩ : ∃ W0, W0 = w.alloc (.cells #[.int .i64 7, .int .i64 ia, .int .i64 ib, .int .i64 ic] 45) := ⟨_, rfl⟩
  have hb0 : Below w.heap.size w W0 := by rw [hW0]; exact (Below.refl _ _).alloc (Nat.le_refl _) _
  have hs0 : W0.heap[w.heap.size]? = some (.cells #[.int .i64 7, .int .i64 ia, .int .i64 ib, .int .i64 ic] 45 (0, 0)) := by rw [hW0]; exact heap_alloc_new w _
  have k0 : W0.cell? ⟨w.heap.size, 0, none⟩ = some (.int .i64 7) := by simp [World.cell?, hs0]
  have k1 : W0.cell? ⟨w.heap.size, 1, none⟩ = some (.int .i64 ia) := by simp [World.cell?, hs0]
  have k2 : W0.cell? ⟨w.heap.size, 2, none⟩ = some (.int .i64 ib) := by simp [World.cell?, hs0]
  have k3 : W0.cell? ⟨w.heap.size, 3, none⟩ = some (.int .i64 ic) := by simp [World.cell?, hs0]
  replace hV := hV.below hb0
  have HB0 := hid hb0
  clear hs0 hb0
  obtain ⟨c0, c1, c2, c3, c4, c5⟩ := hV.cells
  have hpc := hV.fld
  have QP : Hid (∀ nn, (W0.drewN nn).cell? ⟨b, 0, none⟩ = some (.int .i64 p)) := fun nn => hpc
  obtain ⟨br, orr, har, hrw⟩ := hV.rowAt H.hr
  subst har
  have r7 := hrw 7 (by omega)
  have i7 : I64 (zat r 7) := H.fr 7
  have l7 : (7 : Int) < (r.length : Int) := by have := H.hr; omega
  have r8 := hrw 8 (by omega)
  have i8 : I64 (zat r 8) := H.fr 8
  have l8 : (8 : Int) < (r.length : Int) := by have := H.hr; omega
  have r9 := hrw 9 (by omega)
  have i9 : I64 (zat r 9) := H.fr 9
  have l9 : (9 : Int) < (r.length : Int) := by have := H.hr; omega
  clear hrw
  have HE : Hid (tvW p r ⟨7, ia, ib, ic⟩ = (((zat r 7) - (zat r 8)) % (p : Int))) := by
    unfold Hid
    rw [show tvW p r ⟨7, ia, ib, ic⟩ = (zat r 7 - zat r 8) % (p : Int) from rfl]
  obtain ⟨R, hR⟩ : ∃ R, R = tvW p r ⟨7, ia, ib, ic⟩ := ⟨_, rfl⟩
  rw [← hR] at HE ⊢
  clear hR
  have HC0 : Hid (∀ W : World, W.cell? ⟨b, 0, none⟩ = some (.int .i64 p) → Calls Tryz.prog 85 #[.pointer (some ⟨b, 0, none⟩), .int .i64 (zat r 7), .int .i64 (zat r 8)] W fun e w' => e = .returned (.int .i64 (((zat r 7) - (zat r 8)) % (p : Int))) ∧ w' = W) := fun W h => sub_any p b _ _ W h3 h4 h i7.1 i7.2 i8.1 i8.2
  clear i7 i8 i9
  clear HEM H hV
  generalize (((zat r 7) - (zat r 8)) % (p : Int)) = t1 at *
  generalize zat r 7 = x7 at *
  generalize zat r 8 = x8 at *
  generalize zat r 9 = x9 at *
  generalize r.length = lr at *
  generalize L.length = nL at *
  go_enter Tryz.func93, Tryz.ntmps93
  go_wp2_with fail
  rw [← hW0]
  clear hW0
  go_wp2_with fail
  go_quiet (fail)
  obtain ⟨W1, hW1⟩ : ∃ W1, W1 = W0.drewN nq := ⟨_, rfl⟩
  replace hpc : W1.cell? ⟨b, 0, none⟩ = some (.int .i64 p) := by rw [hW1]; exact hpc
  replace c0 : W1.cell? ⟨V, 0, none⟩ = some (.pointer (some ⟨b, 0, none⟩)) := by rw [hW1]; exact c0
  replace c4 : W1.cell? ⟨V, 4, none⟩ = some (.slice (some ⟨br, orr, none⟩) lr cr) := by rw [hW1]; exact c4
  replace k0 : W1.cell? ⟨w.heap.size, 0, none⟩ = some (.int .i64 7) := by rw [hW1]; exact k0
  replace k1 : W1.cell? ⟨w.heap.size, 1, none⟩ = some (.int .i64 ia) := by rw [hW1]; exact k1
  replace k2 : W1.cell? ⟨w.heap.size, 2, none⟩ = some (.int .i64 ib) := by rw [hW1]; exact k2
  replace r7 : W1.cell? ⟨br, orr + 7, none⟩ = some (.int .i64 x7) := by rw [hW1]; exact r7
  replace r8 : W1.cell? ⟨br, orr + 8, none⟩ = some (.int .i64 x8) := by rw [hW1]; exact r8
  replace r9 : W1.cell? ⟨br, orr + 9, none⟩ = some (.int .i64 x9) := by rw [hW1]; exact r9
  have QP : Hid (∀ nn, (W1.drewN nn).cell? ⟨b, 0, none⟩ = some (.int .i64 p)) := fun nn => hpc
  have HB1 : Hid (Below w.heap.size w W1) := by unfold Hid; rw [hW1]; exact below_drewN HB0.out _
  rw [← hW1]
  clear hW1
  go_wp2_with fail
  refine (HC0.out _ hpc).mono ?_
  rintro e w' ⟨rfl, rfl⟩
  go_wp2_with fail
  go_ret
  exact ⟨by have h := HE.out; subst h; rfl, HB1.out⟩

set_option maxRecDepth 100000 in
set_option maxHeartbeats 2000000 in
theorem vwork_13 (p b V : Nat) (L : List InsZ) (size out : Int) (r n : List Int) (aL : Option Addr) (cL : Nat) (ar : Option Addr) (cr : Nat) (an : Option Addr) (cn : Nat) (w : World) (H : VF p L size out r n) (hV : VW p b V L size out r n aL cL ar cr an cn w) (k : Nat) (ia ib ic : Int) (hi : k < 281474976710656 ∧ I64 ia ∧ I64 ib ∧ I64 ic)  :
    Calls Tryz.prog 93 #[.pointer (some ⟨V, 0, none⟩), .int .i64 (k : Int), .agg #[.int .i64 13, .int .i64 ia, .int .i64 ib, .int .i64 ic]] w fun e w' => e = .returned (.int .i64 (tvW p r ⟨13, ia, ib, ic⟩)) ∧ Below w.heap.size w w' := by
  have h3 := H.h3
  have h4 := H.h4
  obtain ⟨hk, hia, hib, hic⟩ := hi
  have HEM : Hid (∀ a : Int, I64 (a % (p : Int))) := fun a => by have := emod_bounds a p H.h3; have := H.h4; unfold I64; omega
  obtain ⟨W0, hW0⟩ : ∃ W0, W0 = w.alloc (.cells #[.int .i64 13, .int .i64 ia, .int .i64 ib, .int .i64 ic] 45) := ⟨_, rfl⟩
  have hb0 : Below w.heap.size w W0 := by rw [hW0]; exact (Below.refl _ _).alloc (Nat.le_refl _) _
  have hs0 : W0.heap[w.heap.size]? = some (.cells #[.int .i64 13, .int .i64 ia, .int .i64 ib, .int .i64 ic] 45 (0, 0)) := by rw [hW0]; exact heap_alloc_new w _
  have k0 : W0.cell? ⟨w.heap.size, 0, none⟩ = some (.int .i64 13) := by simp [World.cell?, hs0]
  have k1 : W0.cell? ⟨w.heap.size, 1, none⟩ = some (.int .i64 ia) := by simp [World.cell?, hs0]
  have k2 : W0.cell? ⟨w.heap.size, 2, none⟩ = some (.int .i64 ib) := by simp [World.cell?, hs0]
  have k3 : W0.cell? ⟨w.heap.size, 3, none⟩ = some (.int .i64 ic) := by simp [World.cell?, hs0]
  replace hV := hV.below hb0
  have HB0 := hid hb0
  clear hs0 hb0
  obtain ⟨c0, c1, c2, c3, c4, c5⟩ := hV.cells
  have hpc := hV.fld
  have QP : Hid (∀ nn, (W0.drewN nn).cell? ⟨b, 0, none⟩ = some (.int .i64 p)) := fun nn => hpc
  obtain ⟨br, orr, har, hrw⟩ := hV.rowAt H.hr
  subst har
  have r7 := hrw 7 (by omega)
  have i7 : I64 (zat r 7) := H.fr 7
  have l7 : (7 : Int) < (r.length : Int) := by have := H.hr; omega
  have r8 := hrw 8 (by omega)
  have i8 : I64 (zat r 8) := H.fr 8
  have l8 : (8 : Int) < (r.length : Int) := by have := H.hr; omega
  have r9 := hrw 9 (by omega)
  have i9 : I64 (zat r 9) := H.fr 9
  have l9 : (9 : Int) < (r.length : Int) := by have := H.hr; omega
  clear hrw
  have HE : Hid (tvW p r ⟨13, ia, ib, ic⟩ = (((zat r 7) - (zat r 8)) % (p : Int))) := by
    unfold Hid
    rw [show tvW p r ⟨13, ia, ib, ic⟩ = (zat r 7 - zat r 8) % (p : Int) from rfl]
  obtain ⟨R, hR⟩ : ∃ R, R = tvW p r ⟨13, ia, ib, ic⟩ := ⟨_, rfl⟩
  rw [← hR] at HE ⊢
  clear hR
  have HC0 : Hid (∀ W : World, W.cell? ⟨b, 0, none⟩ = some (.int .i64 p) → Calls Tryz.prog 85 #[.pointer (some ⟨b, 0, none⟩), .int .i64 (zat r 7), .int .i64 (zat r 8)] W fun e w' => e = .returned (.int .i64 (((zat r 7) - (zat r 8)) % (p : Int))) ∧ w' = W) := fun W h => sub_any p b _ _ W h3 h4 h i7.1 i7.2 i8.1 i8.2
  clear i7 i8 i9
  clear HEM H hV
  generalize (((zat r 7) - (zat r 8)) % (p : Int)) = t1 at *
  generalize zat r 7 = x7 at *
  generalize zat r 8 = x8 at *
  generalize zat r 9 = x9 at *
  generalize r.length = lr at *
  generalize L.length = nL at *
  go_enter Tryz.func93, Tryz.ntmps93
  go_wp2_with fail
  rw [← hW0]
  clear hW0
  go_wp2_with fail
  go_quiet (fail)
  obtain ⟨W1, hW1⟩ : ∃ W1, W1 = W0.drewN nq := ⟨_, rfl⟩
  replace hpc : W1.cell? ⟨b, 0, none⟩ = some (.int .i64 p) := by rw [hW1]; exact hpc
  replace c0 : W1.cell? ⟨V, 0, none⟩ = some (.pointer (some ⟨b, 0, none⟩)) := by rw [hW1]; exact c0
  replace c4 : W1.cell? ⟨V, 4, none⟩ = some (.slice (some ⟨br, orr, none⟩) lr cr) := by rw [hW1]; exact c4
  replace k0 : W1.cell? ⟨w.heap.size, 0, none⟩ = some (.int .i64 13) := by rw [hW1]; exact k0
  replace k1 : W1.cell? ⟨w.heap.size, 1, none⟩ = some (.int .i64 ia) := by rw [hW1]; exact k1
  replace k2 : W1.cell? ⟨w.heap.size, 2, none⟩ = some (.int .i64 ib) := by rw [hW1]; exact k2
  replace r7 : W1.cell? ⟨br, orr + 7, none⟩ = some (.int .i64 x7) := by rw [hW1]; exact r7
  replace r8 : W1.cell? ⟨br, orr + 8, none⟩ = some (.int .i64 x8) := by rw [hW1]; exact r8
  replace r9 : W1.cell? ⟨br, orr + 9, none⟩ = some (.int .i64 x9) := by rw [hW1]; exact r9
  have QP : Hid (∀ nn, (W1.drewN nn).cell? ⟨b, 0, none⟩ = some (.int .i64 p)) := fun nn => hpc
  have HB1 : Hid (Below w.heap.size w W1) := by unfold Hid; rw [hW1]; exact below_drewN HB0.out _
  rw [← hW1]
  clear hW1
  go_wp2_with fail
  refine (HC0.out _ hpc).mono ?_
  rintro e w' ⟨rfl, rfl⟩
  go_wp2_with fail
  go_ret
  exact ⟨by have h := HE.out; subst h; rfl, HB1.out⟩

set_option maxRecDepth 100000 in
set_option maxHeartbeats 2000000 in
theorem vwork_9 (p b V : Nat) (L : List InsZ) (size out : Int) (r n : List Int) (aL : Option Addr) (cL : Nat) (ar : Option Addr) (cr : Nat) (an : Option Addr) (cn : Nat) (w : World) (H : VF p L size out r n) (hV : VW p b V L size out r n aL cL ar cr an cn w) (k : Nat) (ia ib ic : Int) (hi : k < 281474976710656 ∧ I64 ia ∧ I64 ib ∧ I64 ic)  :
    Calls Tryz.prog 93 #[.pointer (some ⟨V, 0, none⟩), .int .i64 (k : Int), .agg #[.int .i64 9, .int .i64 ia, .int .i64 ib, .int .i64 ic]] w fun e w' => e = .returned (.int .i64 (tvW p r ⟨9, ia, ib, ic⟩)) ∧ Below w.heap.size w w' := by
  have h3 := H.h3
  have h4 := H.h4
  obtain ⟨hk, hia, hib, hic⟩ := hi
  have HEM : Hid (∀ a : Int, I64 (a % (p : Int))) := fun a => by have := emod_bounds a p H.h3; have := H.h4; unfold I64; omega
  obtain ⟨W0, hW0⟩ : ∃ W0, W0 = w.alloc (.cells #[.int .i64 9, .int .i64 ia, .int .i64 ib, .int .i64 ic] 45) := ⟨_, rfl⟩
  have hb0 : Below w.heap.size w W0 := by rw [hW0]; exact (Below.refl _ _).alloc (Nat.le_refl _) _
  have hs0 : W0.heap[w.heap.size]? = some (.cells #[.int .i64 9, .int .i64 ia, .int .i64 ib, .int .i64 ic] 45 (0, 0)) := by rw [hW0]; exact heap_alloc_new w _
  have k0 : W0.cell? ⟨w.heap.size, 0, none⟩ = some (.int .i64 9) := by simp [World.cell?, hs0]
  have k1 : W0.cell? ⟨w.heap.size, 1, none⟩ = some (.int .i64 ia) := by simp [World.cell?, hs0]
  have k2 : W0.cell? ⟨w.heap.size, 2, none⟩ = some (.int .i64 ib) := by simp [World.cell?, hs0]
  have k3 : W0.cell? ⟨w.heap.size, 3, none⟩ = some (.int .i64 ic) := by simp [World.cell?, hs0]
  replace hV := hV.below hb0
  have HB0 := hid hb0
  clear hs0 hb0
  obtain ⟨c0, c1, c2, c3, c4, c5⟩ := hV.cells
  have hpc := hV.fld
  have QP : Hid (∀ nn, (W0.drewN nn).cell? ⟨b, 0, none⟩ = some (.int .i64 p)) := fun nn => hpc
  obtain ⟨br, orr, har, hrw⟩ := hV.rowAt H.hr
  subst har
  have r7 := hrw 7 (by omega)
  have i7 : I64 (zat r 7) := H.fr 7
  have l7 : (7 : Int) < (r.length : Int) := by have := H.hr; omega
  have r8 := hrw 8 (by omega)
  have i8 : I64 (zat r 8) := H.fr 8
  have l8 : (8 : Int) < (r.length : Int) := by have := H.hr; omega
  have r9 := hrw 9 (by omega)
  have i9 : I64 (zat r 9) := H.fr 9
  have l9 : (9 : Int) < (r.length : Int) := by have := H.hr; omega
  clear hrw
  have HE : Hid (tvW p r ⟨9, ia, ib, ic⟩ = (((zat r 7) * (((1 : Int) - ((zat r 11 * zat r 7) % (p : Int))) % (p : Int))) % (p : Int))) := by
    unfold Hid
    rw [show tvW p r ⟨9, ia, ib, ic⟩ = (zat r 7 * (1 - zat r 11 * zat r 7)) % (p : Int) from rfl]
    simp only [em_mul2, em_sub2]
  obtain ⟨R, hR⟩ : ∃ R, R = tvW p r ⟨9, ia, ib, ic⟩ := ⟨_, rfl⟩
  rw [← hR] at HE ⊢
  clear hR
  have HC0 : Hid (∀ m, Calls Tryz.prog 121 #[.pointer (some ⟨V, 0, none⟩)] (W0.drewN m) fun e w' => e = .returned (.int .i64 ((zat r 11 * zat r 7) % (p : Int))) ∧ ∃ k, w' = (W0.drewN m).drewN k) := fun m => vnotZero_any p b V L size out r n aL cL _ cr an cn _ H (hV.below (below_drewN (Below.refl _ _) m))
  have HC1 : Hid (∀ W : World, W.cell? ⟨b, 0, none⟩ = some (.int .i64 p) → Calls Tryz.prog 85 #[.pointer (some ⟨b, 0, none⟩), .int .i64 (1 : Int), .int .i64 ((zat r 11 * zat r 7) % (p : Int))] W fun e w' => e = .returned (.int .i64 (((1 : Int) - ((zat r 11 * zat r 7) % (p : Int))) % (p : Int))) ∧ w' = W) := fun W h => sub_any p b _ _ W h3 h4 h (show I64 1 by unfold I64; decide).1 (show I64 1 by unfold I64; decide).2 (HEM.out _).1 (HEM.out _).2
  have HC2 : Hid (∀ W : World, W.cell? ⟨b, 0, none⟩ = some (.int .i64 p) → Calls Tryz.prog 87 #[.pointer (some ⟨b, 0, none⟩), .int .i64 (zat r 7), .int .i64 (((1 : Int) - ((zat r 11 * zat r 7) % (p : Int))) % (p : Int))] W fun e w' => e = .returned (.int .i64 (((zat r 7) * (((1 : Int) - ((zat r 11 * zat r 7) % (p : Int))) % (p : Int))) % (p : Int))) ∧ w' = W) := fun W h => mul_any p b _ _ W h3 h4 h i7.1 i7.2 (HEM.out _).1 (HEM.out _).2
  clear i7 i8 i9
  clear HEM H hV
  generalize (((zat r 7) * (((1 : Int) - ((zat r 11 * zat r 7) % (p : Int))) % (p : Int))) % (p : Int)) = t3 at *
  generalize (((1 : Int) - ((zat r 11 * zat r 7) % (p : Int))) % (p : Int)) = t2 at *
  generalize ((zat r 11 * zat r 7) % (p : Int)) = t1 at *
  generalize zat r 7 = x7 at *
  generalize zat r 8 = x8 at *
  generalize zat r 9 = x9 at *
  generalize r.length = lr at *
  generalize L.length = nL at *
  go_enter Tryz.func93, Tryz.ntmps93
  go_wp2_with fail
  rw [← hW0]
  clear hW0
  go_wp2_with fail
  go_quiet (fail)
  obtain ⟨W1, hW1⟩ : ∃ W1, W1 = W0.drewN nq := ⟨_, rfl⟩
  replace hpc : W1.cell? ⟨b, 0, none⟩ = some (.int .i64 p) := by rw [hW1]; exact hpc
  replace c0 : W1.cell? ⟨V, 0, none⟩ = some (.pointer (some ⟨b, 0, none⟩)) := by rw [hW1]; exact c0
  replace c4 : W1.cell? ⟨V, 4, none⟩ = some (.slice (some ⟨br, orr, none⟩) lr cr) := by rw [hW1]; exact c4
  replace k0 : W1.cell? ⟨w.heap.size, 0, none⟩ = some (.int .i64 9) := by rw [hW1]; exact k0
  replace k1 : W1.cell? ⟨w.heap.size, 1, none⟩ = some (.int .i64 ia) := by rw [hW1]; exact k1
  replace k2 : W1.cell? ⟨w.heap.size, 2, none⟩ = some (.int .i64 ib) := by rw [hW1]; exact k2
  replace r7 : W1.cell? ⟨br, orr + 7, none⟩ = some (.int .i64 x7) := by rw [hW1]; exact r7
  replace r8 : W1.cell? ⟨br, orr + 8, none⟩ = some (.int .i64 x8) := by rw [hW1]; exact r8
  replace r9 : W1.cell? ⟨br, orr + 9, none⟩ = some (.int .i64 x9) := by rw [hW1]; exact r9
  have QP : Hid (∀ nn, (W1.drewN nn).cell? ⟨b, 0, none⟩ = some (.int .i64 p)) := fun nn => hpc
  have HB1 : Hid (Below w.heap.size w W1) := by unfold Hid; rw [hW1]; exact below_drewN HB0.out _
  have HC0 : Hid (∀ m, Calls Tryz.prog 121 #[.pointer (some ⟨V, 0, none⟩)] (W1.drewN m) fun e w' => e = .returned (.int .i64 t1) ∧ ∃ k, w' = (W1.drewN m).drewN k) := fun m => by rw [hW1, World.drewN_drewN]; exact HC0.out _
  rw [← hW1]
  clear hW1
  go_wp2_with fail
  go_quiet (first
    | (go_at_call 121; first | with_reducible exact Calls.quiet_of (HC0.out _))
    | (go_at_call 85; first | with_reducible exact Calls.quiet_of_same (HC1.out _ (QP.out _)))
    | (go_at_call 87; first | with_reducible exact Calls.quiet_of_same (HC2.out _ (QP.out _))))
  go_wp2_with fail
  go_ret
  exact ⟨by have h := HE.out; subst h; rfl, below_drewN HB1.out _⟩

end Go.Proofs.YtdpdmgmeieijaaaGreatDoor

namespace Go.Proofs.YtdpdmgmeieijaaaGreatDoor
open Go.RowKit Go.Maps

set_option maxRecDepth 100000 in
set_option maxHeartbeats 2000000 in
theorem vwork_10 (p b V : Nat) (L : List InsZ) (size out : Int) (r n : List Int) (aL : Option Addr) (cL : Nat) (ar : Option Addr) (cr : Nat) (an : Option Addr) (cn : Nat) (w : World) (H : VF p L size out r n) (hV : VW p b V L size out r n aL cL ar cr an cn w) (k : Nat) (ia ib ic : Int) (hi : k < 281474976710656 ∧ I64 ia ∧ I64 ib ∧ I64 ic)  :
    Calls Tryz.prog 93 #[.pointer (some ⟨V, 0, none⟩), .int .i64 (k : Int), .agg #[.int .i64 10, .int .i64 ia, .int .i64 ib, .int .i64 ic]] w fun e w' => e = .returned (.int .i64 (tvW p r ⟨10, ia, ib, ic⟩)) ∧ Below w.heap.size w w' := by
  have h3 := H.h3
  have h4 := H.h4
  obtain ⟨hk, hia, hib, hic⟩ := hi
  have HEM : Hid (∀ a : Int, I64 (a % (p : Int))) := fun a => by have := emod_bounds a p H.h3; have := H.h4; unfold I64; omega
  obtain ⟨W0, hW0⟩ : ∃ W0, W0 = w.alloc (.cells #[.int .i64 10, .int .i64 ia, .int .i64 ib, .int .i64 ic] 45) := ⟨_, rfl⟩
  have hb0 : Below w.heap.size w W0 := by rw [hW0]; exact (Below.refl _ _).alloc (Nat.le_refl _) _
  have hs0 : W0.heap[w.heap.size]? = some (.cells #[.int .i64 10, .int .i64 ia, .int .i64 ib, .int .i64 ic] 45 (0, 0)) := by rw [hW0]; exact heap_alloc_new w _
  have k0 : W0.cell? ⟨w.heap.size, 0, none⟩ = some (.int .i64 10) := by simp [World.cell?, hs0]
  have k1 : W0.cell? ⟨w.heap.size, 1, none⟩ = some (.int .i64 ia) := by simp [World.cell?, hs0]
  have k2 : W0.cell? ⟨w.heap.size, 2, none⟩ = some (.int .i64 ib) := by simp [World.cell?, hs0]
  have k3 : W0.cell? ⟨w.heap.size, 3, none⟩ = some (.int .i64 ic) := by simp [World.cell?, hs0]
  replace hV := hV.below hb0
  have HB0 := hid hb0
  clear hs0 hb0
  obtain ⟨c0, c1, c2, c3, c4, c5⟩ := hV.cells
  have hpc := hV.fld
  have QP : Hid (∀ nn, (W0.drewN nn).cell? ⟨b, 0, none⟩ = some (.int .i64 p)) := fun nn => hpc
  obtain ⟨br, orr, har, hrw⟩ := hV.rowAt H.hr
  subst har
  have r0 := hrw 0 (by omega)
  rw [Nat.add_zero] at r0
  have i0 : I64 (zat r 0) := H.fr 0
  have l0 : (0 : Int) < (r.length : Int) := by have := H.hr; omega
  have r7 := hrw 7 (by omega)
  have i7 : I64 (zat r 7) := H.fr 7
  have l7 : (7 : Int) < (r.length : Int) := by have := H.hr; omega
  have r8 := hrw 8 (by omega)
  have i8 : I64 (zat r 8) := H.fr 8
  have l8 : (8 : Int) < (r.length : Int) := by have := H.hr; omega
  have r9 := hrw 9 (by omega)
  have i9 : I64 (zat r 9) := H.fr 9
  have l9 : (9 : Int) < (r.length : Int) := by have := H.hr; omega
  clear hrw
  have HE : Hid (tvW p r ⟨10, ia, ib, ic⟩ = (((zat r 7) - (zat r 0)) % (p : Int))) := by
    unfold Hid
    rw [show tvW p r ⟨10, ia, ib, ic⟩ = (zat r 7 - zat r 0) % (p : Int) from rfl]
  obtain ⟨R, hR⟩ : ∃ R, R = tvW p r ⟨10, ia, ib, ic⟩ := ⟨_, rfl⟩
  rw [← hR] at HE ⊢
  clear hR
  have HC0 : Hid (∀ W : World, W.cell? ⟨b, 0, none⟩ = some (.int .i64 p) → Calls Tryz.prog 85 #[.pointer (some ⟨b, 0, none⟩), .int .i64 (zat r 7), .int .i64 (zat r 0)] W fun e w' => e = .returned (.int .i64 (((zat r 7) - (zat r 0)) % (p : Int))) ∧ w' = W) := fun W h => sub_any p b _ _ W h3 h4 h i7.1 i7.2 i0.1 i0.2
  clear i0 i7 i8 i9
  clear HEM H hV
  generalize (((zat r 7) - (zat r 0)) % (p : Int)) = t1 at *
  generalize zat r 0 = x0 at *
  generalize zat r 7 = x7 at *
  generalize zat r 8 = x8 at *
  generalize zat r 9 = x9 at *
  generalize r.length = lr at *
  generalize L.length = nL at *
  go_enter Tryz.func93, Tryz.ntmps93
  go_wp2_with fail
  rw [← hW0]
  clear hW0
  go_wp2_with fail
  go_quiet (fail)
  obtain ⟨W1, hW1⟩ : ∃ W1, W1 = W0.drewN nq := ⟨_, rfl⟩
  replace hpc : W1.cell? ⟨b, 0, none⟩ = some (.int .i64 p) := by rw [hW1]; exact hpc
  replace c0 : W1.cell? ⟨V, 0, none⟩ = some (.pointer (some ⟨b, 0, none⟩)) := by rw [hW1]; exact c0
  replace c4 : W1.cell? ⟨V, 4, none⟩ = some (.slice (some ⟨br, orr, none⟩) lr cr) := by rw [hW1]; exact c4
  replace k0 : W1.cell? ⟨w.heap.size, 0, none⟩ = some (.int .i64 10) := by rw [hW1]; exact k0
  replace k1 : W1.cell? ⟨w.heap.size, 1, none⟩ = some (.int .i64 ia) := by rw [hW1]; exact k1
  replace k2 : W1.cell? ⟨w.heap.size, 2, none⟩ = some (.int .i64 ib) := by rw [hW1]; exact k2
  replace r7 : W1.cell? ⟨br, orr + 7, none⟩ = some (.int .i64 x7) := by rw [hW1]; exact r7
  replace r8 : W1.cell? ⟨br, orr + 8, none⟩ = some (.int .i64 x8) := by rw [hW1]; exact r8
  replace r9 : W1.cell? ⟨br, orr + 9, none⟩ = some (.int .i64 x9) := by rw [hW1]; exact r9
  replace r0 : W1.cell? ⟨br, orr, none⟩ = some (.int .i64 x0) := by rw [hW1]; exact r0
  have QP : Hid (∀ nn, (W1.drewN nn).cell? ⟨b, 0, none⟩ = some (.int .i64 p)) := fun nn => hpc
  have HB1 : Hid (Below w.heap.size w W1) := by unfold Hid; rw [hW1]; exact below_drewN HB0.out _
  rw [← hW1]
  clear hW1
  go_wp2_with fail
  go_quiet (first
    | (go_at_call 85; first | with_reducible exact Calls.quiet_of_same (HC0.out _ (QP.out _))))
  go_wp2_with fail
  go_ret
  exact ⟨by have h := HE.out; subst h; rfl, below_drewN HB1.out _⟩

set_option maxRecDepth 100000 in
set_option maxHeartbeats 2000000 in
theorem vwork_12 (p b V : Nat) (L : List InsZ) (size out : Int) (r n : List Int) (aL : Option Addr) (cL : Nat) (ar : Option Addr) (cr : Nat) (an : Option Addr) (cn : Nat) (w : World) (H : VF p L size out r n) (hV : VW p b V L size out r n aL cL ar cr an cn w) (k : Nat) (ia ib ic : Int) (hi : k < 281474976710656 ∧ I64 ia ∧ I64 ib ∧ I64 ic)  :
    Calls Tryz.prog 93 #[.pointer (some ⟨V, 0, none⟩), .int .i64 (k : Int), .agg #[.int .i64 12, .int .i64 ia, .int .i64 ib, .int .i64 ic]] w fun e w' => e = .returned (.int .i64 (tvW p r ⟨12, ia, ib, ic⟩)) ∧ Below w.heap.size w w' := by
  have h3 := H.h3
  have h4 := H.h4
  obtain ⟨hk, hia, hib, hic⟩ := hi
  have HEM : Hid (∀ a : Int, I64 (a % (p : Int))) := fun a => by have := emod_bounds a p H.h3; have := H.h4; unfold I64; omega
  obtain ⟨W0, hW0⟩ : ∃ W0, W0 = w.alloc (.cells #[.int .i64 12, .int .i64 ia, .int .i64 ib, .int .i64 ic] 45) := ⟨_, rfl⟩
  have hb0 : Below w.heap.size w W0 := by rw [hW0]; exact (Below.refl _ _).alloc (Nat.le_refl _) _
  have hs0 : W0.heap[w.heap.size]? = some (.cells #[.int .i64 12, .int .i64 ia, .int .i64 ib, .int .i64 ic] 45 (0, 0)) := by rw [hW0]; exact heap_alloc_new w _
  have k0 : W0.cell? ⟨w.heap.size, 0, none⟩ = some (.int .i64 12) := by simp [World.cell?, hs0]
  have k1 : W0.cell? ⟨w.heap.size, 1, none⟩ = some (.int .i64 ia) := by simp [World.cell?, hs0]
  have k2 : W0.cell? ⟨w.heap.size, 2, none⟩ = some (.int .i64 ib) := by simp [World.cell?, hs0]
  have k3 : W0.cell? ⟨w.heap.size, 3, none⟩ = some (.int .i64 ic) := by simp [World.cell?, hs0]
  replace hV := hV.below hb0
  have HB0 := hid hb0
  clear hs0 hb0
  obtain ⟨c0, c1, c2, c3, c4, c5⟩ := hV.cells
  have hpc := hV.fld
  have QP : Hid (∀ nn, (W0.drewN nn).cell? ⟨b, 0, none⟩ = some (.int .i64 p)) := fun nn => hpc
  obtain ⟨br, orr, har, hrw⟩ := hV.rowAt H.hr
  subst har
  have r2 := hrw 2 (by omega)
  have i2 : I64 (zat r 2) := H.fr 2
  have l2 : (2 : Int) < (r.length : Int) := by have := H.hr; omega
  have r7 := hrw 7 (by omega)
  have i7 : I64 (zat r 7) := H.fr 7
  have l7 : (7 : Int) < (r.length : Int) := by have := H.hr; omega
  have r8 := hrw 8 (by omega)
  have i8 : I64 (zat r 8) := H.fr 8
  have l8 : (8 : Int) < (r.length : Int) := by have := H.hr; omega
  have r9 := hrw 9 (by omega)
  have i9 : I64 (zat r 9) := H.fr 9
  have l9 : (9 : Int) < (r.length : Int) := by have := H.hr; omega
  clear hrw
  have HE : Hid (tvW p r ⟨12, ia, ib, ic⟩ = (((zat r 7) - (zat r 2)) % (p : Int))) := by
    unfold Hid
    rw [show tvW p r ⟨12, ia, ib, ic⟩ = (zat r 7 - zat r 2) % (p : Int) from rfl]
  obtain ⟨R, hR⟩ : ∃ R, R = tvW p r ⟨12, ia, ib, ic⟩ := ⟨_, rfl⟩
  rw [← hR] at HE ⊢
  clear hR
  have HC0 : Hid (∀ W : World, W.cell? ⟨b, 0, none⟩ = some (.int .i64 p) → Calls Tryz.prog 85 #[.pointer (some ⟨b, 0, none⟩), .int .i64 (zat r 7), .int .i64 (zat r 2)] W fun e w' => e = .returned (.int .i64 (((zat r 7) - (zat r 2)) % (p : Int))) ∧ w' = W) := fun W h => sub_any p b _ _ W h3 h4 h i7.1 i7.2 i2.1 i2.2
  clear i2 i7 i8 i9
  clear HEM H hV
  generalize (((zat r 7) - (zat r 2)) % (p : Int)) = t1 at *
  generalize zat r 2 = x2 at *
  generalize zat r 7 = x7 at *
  generalize zat r 8 = x8 at *
  generalize zat r 9 = x9 at *
  generalize r.length = lr at *
  generalize L.length = nL at *
  go_enter Tryz.func93, Tryz.ntmps93
  go_wp2_with fail
  rw [← hW0]
  clear hW0
  go_wp2_with fail
  go_quiet (fail)
  obtain ⟨W1, hW1⟩ : ∃ W1, W1 = W0.drewN nq := ⟨_, rfl⟩
  replace hpc : W1.cell? ⟨b, 0, none⟩ = some (.int .i64 p) := by rw [hW1]; exact hpc
  replace c0 : W1.cell? ⟨V, 0, none⟩ = some (.pointer (some ⟨b, 0, none⟩)) := by rw [hW1]; exact c0
  replace c4 : W1.cell? ⟨V, 4, none⟩ = some (.slice (some ⟨br, orr, none⟩) lr cr) := by rw [hW1]; exact c4
  replace k0 : W1.cell? ⟨w.heap.size, 0, none⟩ = some (.int .i64 12) := by rw [hW1]; exact k0
  replace k1 : W1.cell? ⟨w.heap.size, 1, none⟩ = some (.int .i64 ia) := by rw [hW1]; exact k1
  replace k2 : W1.cell? ⟨w.heap.size, 2, none⟩ = some (.int .i64 ib) := by rw [hW1]; exact k2
  replace r2 : W1.cell? ⟨br, orr + 2, none⟩ = some (.int .i64 x2) := by rw [hW1]; exact r2
  replace r7 : W1.cell? ⟨br, orr + 7, none⟩ = some (.int .i64 x7) := by rw [hW1]; exact r7
  replace r8 : W1.cell? ⟨br, orr + 8, none⟩ = some (.int .i64 x8) := by rw [hW1]; exact r8
  replace r9 : W1.cell? ⟨br, orr + 9, none⟩ = some (.int .i64 x9) := by rw [hW1]; exact r9
  have QP : Hid (∀ nn, (W1.drewN nn).cell? ⟨b, 0, none⟩ = some (.int .i64 p)) := fun nn => hpc
  have HB1 : Hid (Below w.heap.size w W1) := by unfold Hid; rw [hW1]; exact below_drewN HB0.out _
  rw [← hW1]
  clear hW1
  go_wp2_with fail
  go_quiet (first
    | (go_at_call 85; first | with_reducible exact Calls.quiet_of_same (HC0.out _ (QP.out _))))
  go_wp2_with fail
  go_ret
  exact ⟨by have h := HE.out; subst h; rfl, below_drewN HB1.out _⟩

set_option maxRecDepth 100000 in
set_option maxHeartbeats 2000000 in
theorem vwork_0 (p b V : Nat) (L : List InsZ) (size out : Int) (r n : List Int) (aL : Option Addr) (cL : Nat) (ar : Option Addr) (cr : Nat) (an : Option Addr) (cn : Nat) (w : World) (H : VF p L size out r n) (hV : VW p b V L size out r n aL cL ar cr an cn w) (k : Nat) (ia ib ic : Int) (hi : k < 281474976710656 ∧ I64 ia ∧ I64 ib ∧ I64 ic)  :
    Calls Tryz.prog 93 #[.pointer (some ⟨V, 0, none⟩), .int .i64 (k : Int), .agg #[.int .i64 0, .int .i64 ia, .int .i64 ib, .int .i64 ic]] w fun e w' => e = .returned (.int .i64 (tvW p r ⟨0, ia, ib, ic⟩)) ∧ Below w.heap.size w w' := by
  have h3 := H.h3
  have h4 := H.h4
  obtain ⟨hk, hia, hib, hic⟩ := hi
  have HEM : Hid (∀ a : Int, I64 (a % (p : Int))) := fun a => by have := emod_bounds a p H.h3; have := H.h4; unfold I64; omega
  obtain ⟨W0, hW0⟩ : ∃ W0, W0 = w.alloc (.cells #[.int .i64 0, .int .i64 ia, .int .i64 ib, .int .i64 ic] 45) := ⟨_, rfl⟩
  have hb0 : Below w.heap.size w W0 := by rw [hW0]; exact (Below.refl _ _).alloc (Nat.le_refl _) _
  have hs0 : W0.heap[w.heap.size]? = some (.cells #[.int .i64 0, .int .i64 ia, .int .i64 ib, .int .i64 ic] 45 (0, 0)) := by rw [hW0]; exact heap_alloc_new w _
  have k0 : W0.cell? ⟨w.heap.size, 0, none⟩ = some (.int .i64 0) := by simp [World.cell?, hs0]
  have k1 : W0.cell? ⟨w.heap.size, 1, none⟩ = some (.int .i64 ia) := by simp [World.cell?, hs0]
  have k2 : W0.cell? ⟨w.heap.size, 2, none⟩ = some (.int .i64 ib) := by simp [World.cell?, hs0]
  have k3 : W0.cell? ⟨w.heap.size, 3, none⟩ = some (.int .i64 ic) := by simp [World.cell?, hs0]
  replace hV := hV.below hb0
  have HB0 := hid hb0
  clear hs0 hb0
  obtain ⟨c0, c1, c2, c3, c4, c5⟩ := hV.cells
  have hpc := hV.fld
  have QP : Hid (∀ nn, (W0.drewN nn).cell? ⟨b, 0, none⟩ = some (.int .i64 p)) := fun nn => hpc
  obtain ⟨br, orr, har, hrw⟩ := hV.rowAt H.hr
  subst har
  have r7 := hrw 7 (by omega)
  have i7 : I64 (zat r 7) := H.fr 7
  have l7 : (7 : Int) < (r.length : Int) := by have := H.hr; omega
  have r8 := hrw 8 (by omega)
  have i8 : I64 (zat r 8) := H.fr 8
  have l8 : (8 : Int) < (r.length : Int) := by have := H.hr; omega
  have r9 := hrw 9 (by omega)
  have i9 : I64 (zat r 9) := H.fr 9
  have l9 : (9 : Int) < (r.length : Int) := by have := H.hr; omega
  clear hrw
  have HE : Hid (tvW p r ⟨0, ia, ib, ic⟩ = 0) := rfl
  obtain ⟨R, hR⟩ : ∃ R, R = tvW p r ⟨0, ia, ib, ic⟩ := ⟨_, rfl⟩
  rw [← hR] at HE ⊢
  clear hR
  clear i7 i8 i9
  clear HEM H hV
  generalize zat r 7 = x7 at *
  generalize zat r 8 = x8 at *
  generalize zat r 9 = x9 at *
  generalize r.length = lr at *
  generalize L.length = nL at *
  go_enter Tryz.func93, Tryz.ntmps93
  go_wp2_with fail
  rw [← hW0]
  clear hW0
  go_wp2_with fail
  go_quiet (fail)
  obtain ⟨W1, hW1⟩ : ∃ W1, W1 = W0.drewN nq := ⟨_, rfl⟩
  replace hpc : W1.cell? ⟨b, 0, none⟩ = some (.int .i64 p) := by rw [hW1]; exact hpc
  replace c0 : W1.cell? ⟨V, 0, none⟩ = some (.pointer (some ⟨b, 0, none⟩)) := by rw [hW1]; exact c0
  replace c4 : W1.cell? ⟨V, 4, none⟩ = some (.slice (some ⟨br, orr, none⟩) lr cr) := by rw [hW1]; exact c4
  replace k0 : W1.cell? ⟨w.heap.size, 0, none⟩ = some (.int .i64 0) := by rw [hW1]; exact k0
  replace k1 : W1.cell? ⟨w.heap.size, 1, none⟩ = some (.int .i64 ia) := by rw [hW1]; exact k1
  replace k2 : W1.cell? ⟨w.heap.size, 2, none⟩ = some (.int .i64 ib) := by rw [hW1]; exact k2
  replace r7 : W1.cell? ⟨br, orr + 7, none⟩ = some (.int .i64 x7) := by rw [hW1]; exact r7
  replace r8 : W1.cell? ⟨br, orr + 8, none⟩ = some (.int .i64 x8) := by rw [hW1]; exact r8
  replace r9 : W1.cell? ⟨br, orr + 9, none⟩ = some (.int .i64 x9) := by rw [hW1]; exact r9
  have QP : Hid (∀ nn, (W1.drewN nn).cell? ⟨b, 0, none⟩ = some (.int .i64 p)) := fun nn => hpc
  have HB1 : Hid (Below w.heap.size w W1) := by unfold Hid; rw [hW1]; exact below_drewN HB0.out _
  rw [← hW1]
  clear hW1
  go_wp2_with fail
  go_ret
  exact ⟨by have h := HE.out; subst h; rfl, HB1.out⟩

set_option maxRecDepth 100000 in
set_option maxHeartbeats 2000000 in
theorem vwork_8 (p b V : Nat) (L : List InsZ) (size out : Int) (r n : List Int) (aL : Option Addr) (cL : Nat) (ar : Option Addr) (cr : Nat) (an : Option Addr) (cn : Nat) (w : World) (H : VF p L size out r n) (hV : VW p b V L size out r n aL cL ar cr an cn w) (k : Nat) (ia ib ic : Int) (hi : k < 281474976710656 ∧ I64 ia ∧ I64 ib ∧ I64 ic)  :
    Calls Tryz.prog 93 #[.pointer (some ⟨V, 0, none⟩), .int .i64 (k : Int), .agg #[.int .i64 8, .int .i64 ia, .int .i64 ib, .int .i64 ic]] w fun e w' => e = .returned (.int .i64 (tvW p r ⟨8, ia, ib, ic⟩)) ∧ Below w.heap.size w w' := by
  have h3 := H.h3
  have h4 := H.h4
  obtain ⟨hk, hia, hib, hic⟩ := hi
  have HEM : Hid (∀ a : Int, I64 (a % (p : Int))) := fun a => by have := emod_bounds a p H.h3; have := H.h4; unfold I64; omega
  obtain ⟨W0, hW0⟩ : ∃ W0, W0 = w.alloc (.cells #[.int .i64 8, .int .i64 ia, .int .i64 ib, .int .i64 ic] 45) := ⟨_, rfl⟩
  have hb0 : Below w.heap.size w W0 := by rw [hW0]; exact (Below.refl _ _).alloc (Nat.le_refl _) _
  have hs0 : W0.heap[w.heap.size]? = some (.cells #[.int .i64 8, .int .i64 ia, .int .i64 ib, .int .i64 ic] 45 (0, 0)) := by rw [hW0]; exact heap_alloc_new w _
  have k0 : W0.cell? ⟨w.heap.size, 0, none⟩ = some (.int .i64 8) := by simp [World.cell?, hs0]
  have k1 : W0.cell? ⟨w.heap.size, 1, none⟩ = some (.int .i64 ia) := by simp [World.cell?, hs0]
  have k2 : W0.cell? ⟨w.heap.size, 2, none⟩ = some (.int .i64 ib) := by simp [World.cell?, hs0]
  have k3 : W0.cell? ⟨w.heap.size, 3, none⟩ = some (.int .i64 ic) := by simp [World.cell?, hs0]
  replace hV := hV.below hb0
  have HB0 := hid hb0
  clear hs0 hb0
  obtain ⟨c0, c1, c2, c3, c4, c5⟩ := hV.cells
  have hpc := hV.fld
  have QP : Hid (∀ nn, (W0.drewN nn).cell? ⟨b, 0, none⟩ = some (.int .i64 p)) := fun nn => hpc
  obtain ⟨br, orr, har, hrw⟩ := hV.rowAt H.hr
  subst har
  have r7 := hrw 7 (by omega)
  have i7 : I64 (zat r 7) := H.fr 7
  have l7 : (7 : Int) < (r.length : Int) := by have := H.hr; omega
  have r8 := hrw 8 (by omega)
  have i8 : I64 (zat r 8) := H.fr 8
  have l8 : (8 : Int) < (r.length : Int) := by have := H.hr; omega
  have r9 := hrw 9 (by omega)
  have i9 : I64 (zat r 9) := H.fr 9
  have l9 : (9 : Int) < (r.length : Int) := by have := H.hr; omega
  clear hrw
  have HE : Hid (tvW p r ⟨8, ia, ib, ic⟩ = 0) := rfl
  obtain ⟨R, hR⟩ : ∃ R, R = tvW p r ⟨8, ia, ib, ic⟩ := ⟨_, rfl⟩
  rw [← hR] at HE ⊢
  clear hR
  clear i7 i8 i9
  clear HEM H hV
  generalize zat r 7 = x7 at *
  generalize zat r 8 = x8 at *
  generalize zat r 9 = x9 at *
  generalize r.length = lr at *
  generalize L.length = nL at *
  go_enter Tryz.func93, Tryz.ntmps93
  go_wp2_with fail
  rw [← hW0]
  clear hW0
  go_wp2_with fail
  go_quiet (fail)
  obtain ⟨W1, hW1⟩ : ∃ W1, W1 = W0.drewN nq := ⟨_, rfl⟩
  replace hpc : W1.cell? ⟨b, 0, none⟩ = some (.int .i64 p) := by rw [hW1]; exact hpc
  replace c0 : W1.cell? ⟨V, 0, none⟩ = some (.pointer (some ⟨b, 0, none⟩)) := by rw [hW1]; exact c0
  replace c4 : W1.cell? ⟨V, 4, none⟩ = some (.slice (some ⟨br, orr, none⟩) lr cr) := by rw [hW1]; exact c4
  replace k0 : W1.cell? ⟨w.heap.size, 0, none⟩ = some (.int .i64 8) := by rw [hW1]; exact k0
  replace k1 : W1.cell? ⟨w.heap.size, 1, none⟩ = some (.int .i64 ia) := by rw [hW1]; exact k1
  replace k2 : W1.cell? ⟨w.heap.size, 2, none⟩ = some (.int .i64 ib) := by rw [hW1]; exact k2
  replace r7 : W1.cell? ⟨br, orr + 7, none⟩ = some (.int .i64 x7) := by rw [hW1]; exact r7
  replace r8 : W1.cell? ⟨br, orr + 8, none⟩ = some (.int .i64 x8) := by rw [hW1]; exact r8
  replace r9 : W1.cell? ⟨br, orr + 9, none⟩ = some (.int .i64 x9) := by rw [hW1]; exact r9
  have QP : Hid (∀ nn, (W1.drewN nn).cell? ⟨b, 0, none⟩ = some (.int .i64 p)) := fun nn => hpc
  have HB1 : Hid (Below w.heap.size w W1) := by unfold Hid; rw [hW1]; exact below_drewN HB0.out _
  rw [← hW1]
  clear hW1
  go_wp2_with fail
  go_ret
  exact ⟨by have h := HE.out; subst h; rfl, HB1.out⟩

set_option maxRecDepth 100000 in
set_option maxHeartbeats 2000000 in
theorem vwork_11 (p b V : Nat) (L : List InsZ) (size out : Int) (r n : List Int) (aL : Option Addr) (cL : Nat) (ar : Option Addr) (cr : Nat) (an : Option Addr) (cn : Nat) (w : World) (H : VF p L size out r n) (hV : VW p b V L size out r n aL cL ar cr an cn w) (k : Nat) (ia ib ic : Int) (hi : k < 281474976710656 ∧ I64 ia ∧ I64 ib ∧ I64 ic)  :
    Calls Tryz.prog 93 #[.pointer (some ⟨V, 0, none⟩), .int .i64 (k : Int), .agg #[.int .i64 11, .int .i64 ia, .int .i64 ib, .int .i64 ic]] w fun e w' => e = .returned (.int .i64 (tvW p r ⟨11, ia, ib, ic⟩)) ∧ Below w.heap.size w w' := by
  have h3 := H.h3
  have h4 := H.h4
  obtain ⟨hk, hia, hib, hic⟩ := hi
  have HEM : Hid (∀ a : Int, I64 (a % (p : Int))) := fun a => by have := emod_bounds a p H.h3; have := H.h4; unfold I64; omega
  obtain ⟨W0, hW0⟩ : ∃ W0, W0 = w.alloc (.cells #[.int .i64 11, .int .i64 ia, .int .i64 ib, .int .i64 ic] 45) := ⟨_, rfl⟩
  have hb0 : Below w.heap.size w W0 := by rw [hW0]; exact (Below.refl _ _).alloc (Nat.le_refl _) _
  have hs0 : W0.heap[w.heap.size]? = some (.cells #[.int .i64 11, .int .i64 ia, .int .i64 ib, .int .i64 ic] 45 (0, 0)) := by rw [hW0]; exact heap_alloc_new w _
  have k0 : W0.cell? ⟨w.heap.size, 0, none⟩ = some (.int .i64 11) := by simp [World.cell?, hs0]
  have k1 : W0.cell? ⟨w.heap.size, 1, none⟩ = some (.int .i64 ia) := by simp [World.cell?, hs0]
  have k2 : W0.cell? ⟨w.heap.size, 2, none⟩ = some (.int .i64 ib) := by simp [World.cell?, hs0]
  have k3 : W0.cell? ⟨w.heap.size, 3, none⟩ = some (.int .i64 ic) := by simp [World.cell?, hs0]
  replace hV := hV.below hb0
  have HB0 := hid hb0
  clear hs0 hb0
  obtain ⟨c0, c1, c2, c3, c4, c5⟩ := hV.cells
  have hpc := hV.fld
  have QP : Hid (∀ nn, (W0.drewN nn).cell? ⟨b, 0, none⟩ = some (.int .i64 p)) := fun nn => hpc
  obtain ⟨br, orr, har, hrw⟩ := hV.rowAt H.hr
  subst har
  have r7 := hrw 7 (by omega)
  have i7 : I64 (zat r 7) := H.fr 7
  have l7 : (7 : Int) < (r.length : Int) := by have := H.hr; omega
  have r8 := hrw 8 (by omega)
  have i8 : I64 (zat r 8) := H.fr 8
  have l8 : (8 : Int) < (r.length : Int) := by have := H.hr; omega
  have r9 := hrw 9 (by omega)
  have i9 : I64 (zat r 9) := H.fr 9
  have l9 : (9 : Int) < (r.length : Int) := by have := H.hr; omega
  clear hrw
  have HE : Hid (tvW p r ⟨11, ia, ib, ic⟩ = 0) := rfl
  obtain ⟨R, hR⟩ : ∃ R, R = tvW p r ⟨11, ia, ib, ic⟩ := ⟨_, rfl⟩
  rw [← hR] at HE ⊢
  clear hR
  clear i7 i8 i9
  clear HEM H hV
  generalize zat r 7 = x7 at *
  generalize zat r 8 = x8 at *
  generalize zat r 9 = x9 at *
  generalize r.length = lr at *
  generalize L.length = nL at *
  go_enter Tryz.func93, Tryz.ntmps93
  go_wp2_with fail
  rw [← hW0]
  clear hW0
  go_wp2_with fail
  go_quiet (fail)
  obtain ⟨W1, hW1⟩ : ∃ W1, W1 = W0.drewN nq := ⟨_, rfl⟩
  replace hpc : W1.cell? ⟨b, 0, none⟩ = some (.int .i64 p) := by rw [hW1]; exact hpc
  replace c0 : W1.cell? ⟨V, 0, none⟩ = some (.pointer (some ⟨b, 0, none⟩)) := by rw [hW1]; exact c0
  replace c4 : W1.cell? ⟨V, 4, none⟩ = some (.slice (some ⟨br, orr, none⟩) lr cr) := by rw [hW1]; exact c4
  replace k0 : W1.cell? ⟨w.heap.size, 0, none⟩ = some (.int .i64 11) := by rw [hW1]; exact k0
  replace k1 : W1.cell? ⟨w.heap.size, 1, none⟩ = some (.int .i64 ia) := by rw [hW1]; exact k1
  replace k2 : W1.cell? ⟨w.heap.size, 2, none⟩ = some (.int .i64 ib) := by rw [hW1]; exact k2
  replace r7 : W1.cell? ⟨br, orr + 7, none⟩ = some (.int .i64 x7) := by rw [hW1]; exact r7
  replace r8 : W1.cell? ⟨br, orr + 8, none⟩ = some (.int .i64 x8) := by rw [hW1]; exact r8
  replace r9 : W1.cell? ⟨br, orr + 9, none⟩ = some (.int .i64 x9) := by rw [hW1]; exact r9
  have QP : Hid (∀ nn, (W1.drewN nn).cell? ⟨b, 0, none⟩ = some (.int .i64 p)) := fun nn => hpc
  have HB1 : Hid (Below w.heap.size w W1) := by unfold Hid; rw [hW1]; exact below_drewN HB0.out _
  rw [← hW1]
  clear hW1
  go_wp2_with fail
  go_ret
  exact ⟨by have h := HE.out; subst h; rfl, HB1.out⟩

set_option maxRecDepth 100000 in
set_option maxHeartbeats 2000000 in
theorem vwork_x (p b V : Nat) (L : List InsZ) (size out : Int) (r n : List Int) (aL : Option Addr) (cL : Nat) (ar : Option Addr) (cr : Nat) (an : Option Addr) (cn : Nat) (w : World) (H : VF p L size out r n) (hV : VW p b V L size out r n aL cL ar cr an cn w) (k : Nat) (ia ib ic : Int) (hi : k < 281474976710656 ∧ I64 ia ∧ I64 ib ∧ I64 ic) (op : Int) (hno : op ≠ 0 ∧ op ≠ 1 ∧ op ≠ 2 ∧ op ≠ 3 ∧ op ≠ 4 ∧ op ≠ 5 ∧ op ≠ 6 ∧ op ≠ 7 ∧ op ≠ 8 ∧ op ≠ 9 ∧ op ≠ 10 ∧ op ≠ 11 ∧ op ≠ 12 ∧ op ≠ 13)  :
    Calls Tryz.prog 93 #[.pointer (some ⟨V, 0, none⟩), .int .i64 (k : Int), .agg #[.int .i64 op, .int .i64 ia, .int .i64 ib, .int .i64 ic]] w fun e w' => e = .returned (.int .i64 (tvW p r ⟨op, ia, ib, ic⟩)) ∧ Below w.heap.size w w' := by
  have h3 := H.h3
  have h4 := H.h4
  obtain ⟨hk, hia, hib, hic⟩ := hi
  have HEM : Hid (∀ a : Int, I64 (a % (p : Int))) := fun a => by have := emod_bounds a p H.h3; have := H.h4; unfold I64; omega
  obtain ⟨W0, hW0⟩ : ∃ W0, W0 = w.alloc (.cells #[.int .i64 op, .int .i64 ia, .int .i64 ib, .int .i64 ic] 45) := ⟨_, rfl⟩
  have hb0 : Below w.heap.size w W0 := by rw [hW0]; exact (Below.refl _ _).alloc (Nat.le_refl _) _
  have hs0 : W0.heap[w.heap.size]? = some (.cells #[.int .i64 op, .int .i64 ia, .int .i64 ib, .int .i64 ic] 45 (0, 0)) := by rw [hW0]; exact heap_alloc_new w _
  have k0 : W0.cell? ⟨w.heap.size, 0, none⟩ = some (.int .i64 op) := by simp [World.cell?, hs0]
  have k1 : W0.cell? ⟨w.heap.size, 1, none⟩ = some (.int .i64 ia) := by simp [World.cell?, hs0]
  have k2 : W0.cell? ⟨w.heap.size, 2, none⟩ = some (.int .i64 ib) := by simp [World.cell?, hs0]
  have k3 : W0.cell? ⟨w.heap.size, 3, none⟩ = some (.int .i64 ic) := by simp [World.cell?, hs0]
  replace hV := hV.below hb0
  have HB0 := hid hb0
  clear hs0 hb0
  obtain ⟨c0, c1, c2, c3, c4, c5⟩ := hV.cells
  have hpc := hV.fld
  have QP : Hid (∀ nn, (W0.drewN nn).cell? ⟨b, 0, none⟩ = some (.int .i64 p)) := fun nn => hpc
  obtain ⟨br, orr, har, hrw⟩ := hV.rowAt H.hr
  subst har
  have r7 := hrw 7 (by omega)
  have i7 : I64 (zat r 7) := H.fr 7
  have l7 : (7 : Int) < (r.length : Int) := by have := H.hr; omega
  have r8 := hrw 8 (by omega)
  have i8 : I64 (zat r 8) := H.fr 8
  have l8 : (8 : Int) < (r.length : Int) := by have := H.hr; omega
  have r9 := hrw 9 (by omega)
  have i9 : I64 (zat r 9) := H.fr 9
  have l9 : (9 : Int) < (r.length : Int) := by have := H.hr; omega
  clear hrw
  have q0 : (op == 0) = false := by rw [beq_eq_false_iff_ne]; omega
  have q1 : (op == 1) = false := by rw [beq_eq_false_iff_ne]; omega
  have q2 : (op == 2) = false := by rw [beq_eq_false_iff_ne]; omega
  have q3 : (op == 3) = false := by rw [beq_eq_false_iff_ne]; omega
  have q4 : (op == 4) = false := by rw [beq_eq_false_iff_ne]; omega
  have q5 : (op == 5) = false := by rw [beq_eq_false_iff_ne]; omega
  have q6 : (op == 6) = false := by rw [beq_eq_false_iff_ne]; omega
  have q7 : (op == 7) = false := by rw [beq_eq_false_iff_ne]; omega
  have q8 : (op == 8) = false := by rw [beq_eq_false_iff_ne]; omega
  have q9 : (op == 9) = false := by rw [beq_eq_false_iff_ne]; omega
  have q10 : (op == 10) = false := by rw [beq_eq_false_iff_ne]; omega
  have q11 : (op == 11) = false := by rw [beq_eq_false_iff_ne]; omega
  have q12 : (op == 12) = false := by rw [beq_eq_false_iff_ne]; omega
  have q13 : (op == 13) = false := by rw [beq_eq_false_iff_ne]; omega
  have HE : Hid (tvW p r ⟨op, ia, ib, ic⟩ = 1) := by unfold Hid; simp [tvW, hno]
  obtain ⟨R, hR⟩ : ∃ R, R = tvW p r ⟨op, ia, ib, ic⟩ := ⟨_, rfl⟩
  rw [← hR] at HE ⊢
  clear hR
  clear i7 i8 i9
  clear HEM H hV
  generalize zat r 7 = x7 at *
  generalize zat r 8 = x8 at *
  generalize zat r 9 = x9 at *
  generalize r.length = lr at *
  generalize L.length = nL at *
  go_enter Tryz.func93, Tryz.ntmps93
  go_wp2_with fail
  rw [← hW0]
  clear hW0
  go_wp2_with fail
  go_quiet (fail)
  obtain ⟨W1, hW1⟩ : ∃ W1, W1 = W0.drewN nq := ⟨_, rfl⟩
  replace hpc : W1.cell? ⟨b, 0, none⟩ = some (.int .i64 p) := by rw [hW1]; exact hpc
  replace c0 : W1.cell? ⟨V, 0, none⟩ = some (.pointer (some ⟨b, 0, none⟩)) := by rw [hW1]; exact c0
  replace c4 : W1.cell? ⟨V, 4, none⟩ = some (.slice (some ⟨br, orr, none⟩) lr cr) := by rw [hW1]; exact c4
  replace k0 : W1.cell? ⟨w.heap.size, 0, none⟩ = some (.int .i64 op) := by rw [hW1]; exact k0
  replace k1 : W1.cell? ⟨w.heap.size, 1, none⟩ = some (.int .i64 ia) := by rw [hW1]; exact k1
  replace k2 : W1.cell? ⟨w.heap.size, 2, none⟩ = some (.int .i64 ib) := by rw [hW1]; exact k2
  replace r7 : W1.cell? ⟨br, orr + 7, none⟩ = some (.int .i64 x7) := by rw [hW1]; exact r7
  replace r8 : W1.cell? ⟨br, orr + 8, none⟩ = some (.int .i64 x8) := by rw [hW1]; exact r8
  replace r9 : W1.cell? ⟨br, orr + 9, none⟩ = some (.int .i64 x9) := by rw [hW1]; exact r9
  have QP : Hid (∀ nn, (W1.drewN nn).cell? ⟨b, 0, none⟩ = some (.int .i64 p)) := fun nn => hpc
  have HB1 : Hid (Below w.heap.size w W1) := by unfold Hid; rw [hW1]; exact below_drewN HB0.out _
  rw [← hW1]
  clear hW1
  go_wp2_with fail
  go_ret
  exact ⟨by have h := HE.out; subst h; rfl, HB1.out⟩

end Go.Proofs.YtdpdmgmeieijaaaGreatDoor

namespace Go.Proofs.YtdpdmgmeieijaaaGreatDoor
open Go.RowKit Go.Maps

/-- a term of instructions: a function that tells it -/
def TmF (V : Nat) (L : List InsZ) (w : World) (F : FuncId) (f : Nat → InsZ → Int) : Prop := (∀ (args : Array Value) (w1 : World), (callFunc F args).run Tryz.prog w1 = .ok (.enter F args) w1) ∧
  (∀ k, k < L.length → I64 (f k (insat L k))) ∧
  ∀ (W : World) (k : Nat), Below w.heap.size w W → k < L.length → Calls Tryz.prog F #[.pointer (some ⟨V, 0, none⟩), .int .i64 (k : Int), .agg #[.int .i64 (insat L k).op, .int .i64 (insat L k).a, .int .i64 (insat L k).b, .int .i64 (insat L k).c]] W fun e w' => e = .returned (.int .i64 (f k (insat L k))) ∧ Below W.heap.size W w'

set_option maxRecDepth 100000 in
set_option maxHeartbeats 4000000 in
theorem vsum_any (p b V : Nat) (L : List InsZ) (size out : Int) (r n : List Int) (aL : Option Addr) (cL : Nat) (ar : Option Addr) (cr : Nat) (an : Option Addr) (cn : Nat) (w : World) (H : VF p L size out r n) (hV : VW p b V L size out r n aL cL ar cr an cn w) (s : List Int) (sa : Option Addr) (cs : Nat) (hs : RowB w.heap.size w sa s) (hsl : s.length = 20 + L.length) (fs : ∀ j, I64 (zat s j)) (F : FuncId) (f : Nat → InsZ → Int) (hF : TmF V L w F f) :
    Calls Tryz.prog 88 #[.pointer (some ⟨V, 0, none⟩), .slice sa s.length cs, .func (.func F) #[.pointer (some ⟨V, 0, none⟩)] #[]] w fun e w' => e = .returned (.int .i64 (smt p L s f)) ∧ Below w.heap.size w w' := by
  have h3 := H.h3
  have h4 := H.h4
  obtain ⟨hcf, hfb, hfc⟩ := hF
  obtain ⟨bs, os, has, hsw⟩ := rowB_at hs hsl
  subst has
  obtain ⟨nL, hnL⟩ : ∃ nL, nL = L.length := ⟨_, rfl⟩
  have HNL := hid hnL
  have hl := H.hl
  obtain ⟨c0, c1, c2, c3, c4, c5⟩ := hV.cells
  rw [← hnL] at hl c2
  have HV := hid hV
  have HSW := hid hsw
  have HFB := hid hfb
  have HFC := hid hfc
  have HFS := hid fs
  have HE : Hid (smt p L s f = smz p (sel s) (fun k => f k (insat L k)) nL) := by unfold Hid; rw [hnL]; rfl
  obtain ⟨R, hR⟩ : ∃ R, R = smt p L s f := ⟨_, rfl⟩
  rw [← hR] at HE ⊢
  have hsl2 : (s.length : Int) = 20 + (nL : Int) := by omega
  have HSL := hid hsl2
  obtain ⟨ln, hln⟩ : ∃ ln, ln = s.length := ⟨_, rfl⟩
  have HLN := hid hln
  rw [← hln]
  clear hnL hsw hfb hfc fs hR hsl hsl2 hs hln
  go_enter Tryz.func88, Tryz.ntmps88
  go_wp2_with fail
  go_loopw [7, 16] (fun ov iv wr => ∃ k : Nat, k ≤ nL ∧ iv = .int .i64 k ∧ ov = .int .i64 (smz p (sel s) (fun k => f k (insat L k)) k) ∧ Hid (Below w.heap.size w wr)) (fun _ iv _ => nL - (intOf iv).toNat)
  case atStart => exact ⟨0, Nat.zero_le _, rfl, rfl, Below.refl _ _⟩
  case round =>
    obtain ⟨k, hk, rfl, rfl, HBw⟩ := hrel
    by_cases hlt : k < nL
    · have hlt2 : (k : Int) < (nL : Int) := by omega
      have hks : IntKind.i64.wrap ((k : Int) + 1) = (k : Int) + 1 := by rw [IntKind.wrap_i64]; omega
      have hVw := HV.out.below HBw.out
      obtain ⟨g, o, rfl, hg, i0, i1, i2, i3⟩ := hVw.ins.row k (by have := HNL.out; omega)
      obtain ⟨W1, hW1⟩ : ∃ W1, W1 = wr.alloc (.cells #[.int .i64 (insat L k).op, .int .i64 (insat L k).a, .int .i64 (insat L k).b, .int .i64 (insat L k).c] 45) := ⟨_, rfl⟩
      have hb1 : Below wr.heap.size wr W1 := by rw [hW1]; exact (Below.refl _ _).alloc (Nat.le_refl _) _
      have hi1 : W1.heap[wr.heap.size]? = some (.cells #[.int .i64 (insat L k).op, .int .i64 (insat L k).a, .int .i64 (insat L k).b, .int .i64 (insat L k).c] 45 (0, 0)) := by rw [hW1]; exact heap_alloc_new wr _
      have hV1 := hVw.below hb1
      obtain ⟨I, hI⟩ : ∃ I, I = wr.heap.size := ⟨_, rfl⟩
      rw [← hI] at hi1
      have hbw1 := HBw.out.trans (hb1.mono HBw.out.size)
      obtain ⟨m, hm⟩ : ∃ m, m = 20 + k := ⟨_, rfl⟩
      have em : 20 + (k : Int) = (m : Int) := by omega
      have wm : IntKind.i64.wrap (m : Int) = (m : Int) := by rw [IntKind.wrap_i64]; omega
      have lm : (m : Int) < (ln : Int) := by have := HSL.out; have := HLN.out; omega
      have hsc : wr.cell? ⟨bs, os + m, none⟩ = some (.int .i64 (zat s m)) := (HBw.out.cell (p := ⟨bs, os + m, none⟩) (World.block_lt_of_cell? _ _ (HSW.out m (by have := HNL.out; omega)))).trans (HSW.out m (by have := HNL.out; omega))
      have HK : Hid (∀ W, Below W1.heap.size W1 W → (W.cell? ⟨V, 0, none⟩ = some (.pointer (some ⟨b, 0, none⟩)) ∧ W.cell? ⟨bs, os + m, none⟩ = some (.int .i64 (zat s m)) ∧ W.cell? ⟨I, 0, none⟩ = some (.int .i64 (insat L k).op) ∧ W.cell? ⟨I, 1, none⟩ = some (.int .i64 (insat L k).a) ∧ W.cell? ⟨I, 2, none⟩ = some (.int .i64 (insat L k).b) ∧ W.cell? ⟨I, 3, none⟩ = some (.int .i64 (insat L k).c))) := fun W h => by
        have hbw := hb1.trans (h.mono hb1.size)
        have hi2 := (h.block I (Array.getElem?_eq_some_iff.1 hi1).1).trans hi1
        exact ⟨(hV1.below h).cells.1, (hbw.cell (p := ⟨bs, os + m, none⟩) (World.block_lt_of_cell? _ _ hsc)).trans hsc, by simp [World.cell?, hi2], by simp [World.cell?, hi2], by simp [World.cell?, hi2], by simp [World.cell?, hi2]⟩
      have hfi := HFB.out k (by have := HNL.out; omega)
      have bs0 := smz_bd h3 (sel s) (fun k => f k (insat L k)) k
      have bm := emod_bounds (zat s m * f k (insat L k)) p h3
      have HTM : Hid (∀ W, Below W1.heap.size W1 W → Calls Tryz.prog F #[.pointer (some ⟨V, 0, none⟩), .int .i64 (k : Int), .agg #[.int .i64 (insat L k).op, .int .i64 (insat L k).a, .int .i64 (insat L k).b, .int .i64 (insat L k).c]] W fun e w' => e = .returned (.int .i64 (f k (insat L k))) ∧ Below W1.heap.size W1 w') := fun W h =>
        (HFC.out W k (hbw1.trans (h.mono hbw1.size)) (by have := HNL.out; omega)).mono (fun _ _ hh => ⟨hh.1, h.trans (hh.2.mono h.size)⟩)
      have HML : Hid (∀ W, Below W1.heap.size W1 W → Calls Tryz.prog 87 #[.pointer (some ⟨b, 0, none⟩), .int .i64 (zat s m), .int .i64 (f k (insat L k))] W fun e w' => e = .returned (.int .i64 (zat s m * f k (insat L k) % (p : Int))) ∧ Below W1.heap.size W1 w') := fun W h => by
        refine (mul_any p b _ _ W h3 h4 (hV1.below h).fld (HFS.out m).1 (HFS.out m).2 hfi.1 hfi.2).mono ?_
        rintro e w' ⟨rfl, rfl⟩
        exact ⟨rfl, h⟩
      have HAD : Hid (∀ W, Below W1.heap.size W1 W → Calls Tryz.prog 52 #[.pointer (some ⟨b, 0, none⟩), .int .i64 (smz p (sel s) (fun k => f k (insat L k)) k), .int .i64 (zat s m * f k (insat L k) % (p : Int))] W fun e w' => e = .returned (.int .i64 (smz p (sel s) (fun k => f k (insat L k)) (k + 1))) ∧ Below W1.heap.size W1 w') := fun W h => by
        rw [smz, ← em_add2, show sel s k = zat s m by rw [hm]; rfl]
        refine (add_any p b _ _ W h3 h4 (hV1.below h).fld (by omega) (by omega) (by omega) (by omega)).mono ?_
        rintro e w' ⟨rfl, rfl⟩
        exact ⟨rfl, h⟩
      obtain ⟨t2, ht2⟩ : ∃ t, t = smz p (sel s) (fun k => f k (insat L k)) (k + 1) := ⟨_, rfl⟩
      have HT2 := hid ht2
      rw [← ht2] at HAD
      generalize zat s m * f k (insat L k) % (p : Int) = t1 at *
      generalize smz p (sel s) (fun k => f k (insat L k)) k = t0 at *
      generalize f k (insat L k) = fk at *
      generalize zat s m = sm at *
      generalize (insat L k).op = op at *
      generalize (insat L k).a = ia at *
      generalize (insat L k).b = ib at *
      generalize (insat L k).c = ic at *
      have HB1 := hid hbw1
      have hdd : Below W1.heap.size W1 W1.drew := (Below.refl _ _).drew
      have hd0 : Below W1.heap.size W1 W1 := Below.refl _ _
      clear hVw hb1 hi1 hV1 hbw1 hsc hfi bs0 bm ht2 hm HFC
      go_wp2_with fail
      rw [← hW1, ← hI]
      clear hW1 hI i0 i1 i2 i3
      go_region_held3 (fun W => W.cell? ⟨V, 0, none⟩ = some (.pointer (some ⟨b, 0, none⟩)) ∧ W.cell? ⟨bs, os + m, none⟩ = some (.int .i64 sm) ∧ W.cell? ⟨I, 0, none⟩ = some (.int .i64 op) ∧ W.cell? ⟨I, 1, none⟩ = some (.int .i64 ia) ∧ W.cell? ⟨I, 2, none⟩ = some (.int .i64 ib) ∧ W.cell? ⟨I, 3, none⟩ = some (.int .i64 ic)) (exact HK.out _ (by assumption))
        (first
          | (go_at_call 87; refine (HML.out _ (by assumption)).mono ?_; rintro e w' ⟨rfl, hb'⟩)
          | (go_at_call 52; refine (HAD.out _ (by assumption)).mono ?_; rintro e w' ⟨rfl, hb'⟩)
          | (refine (HTM.out _ (by assumption)).mono ?_; rintro e w' ⟨rfl, hb'⟩))
      have HBZ := hid (HB1.out.trans (hb'.mono HB1.out.size))
      go_wp2_with fail
      go_roundw
      case rel => exact ⟨k + 1, by omega, by go_num, by rw [HT2.out], HBZ⟩
      case measure => simp [intOf]; omega
    · have hlt2 : ¬ (k : Int) < (nL : Int) := by omega
      obtain rfl : k = nL := by omega
      go_wp2_with fail
      go_ret
      exact ⟨by rw [HE.out]; rfl, HBw.out⟩

end Go.Proofs.YtdpdmgmeieijaaaGreatDoor
