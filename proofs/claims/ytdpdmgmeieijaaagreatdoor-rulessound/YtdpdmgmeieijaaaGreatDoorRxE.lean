/- Package rules: what is next. -/
import Derived.Test.YtdpdmgmeieijaaaGreatDoorSndBB
namespace Go.Proofs.YtdpdmgmeieijaaaGreatDoor
open Go.RowKit Go.Maps

set_option maxRecDepth 100000 in
set_option maxHeartbeats 2000000 in
theorem vpc_0 (p b V : Nat) (L : List InsZ) (size out : Int) (r n : List Int) (aL : Option Addr) (cL : Nat) (ar : Option Addr) (cr : Nat) (an : Option Addr) (cn : Nat) (w : World) (H : VF p L size out r n) (hV : VW p b V L size out r n aL cL ar cr an cn w) (k : Nat) (ia ib ic : Int) (hi : k < 281474976710656 ∧ I64 ia ∧ I64 ib ∧ I64 ic)  :
    Calls Tryz.prog 96 #[.pointer (some ⟨V, 0, none⟩), .int .i64 (k : Int), .agg #[.int .i64 0, .int .i64 ia, .int .i64 ib, .int .i64 ic]] w fun e w' => e = .returned (.int .i64 (tvN p r k ⟨0, ia, ib, ic⟩)) ∧ Below w.heap.size w w' := by
  have h3 := H.h3
  have h4 := H.h4
  obtain ⟨hk, hia, hib, hic⟩ := hi
  have HEM : Hid (∀ a : Int, I64 (a % (p : Int))) := fun a => by have := emod_bounds a p H.h3; have := H.h4; unfold I64; omega
  obtain ⟨W0, hW0⟩ : ∃ W0, W0 = w.alloc (.cells #[.int .i64 0, .int .i64 ia, .int .i64 ib, .int .i64 ic] 45) := ⟨_, rfl⟩
  have hb0 : Below w.heap.size w W0 := by rw [hW0]; exact (Below.refl _ _).alloc (Nat.le_refl _) _
  have hs0 : W0.heap[w.heap.size]? = some (.cells #[.int .i64 0, .int .i64 ia, .int .i64 ib, .int .i64 ic] 45 (0, 0)) := by rw [hW0]; exact heap_alloc_new w _
  have k0 : W0.cell? ⟨w.heap.size, 0, none⟩ = some (.int .i64 0) := by simp [World.cell?, hs0]
  have k1 : W0.cell? ⟨w.heap.size, 1, none⟩ = some (.int .i64 ia) := by simp [World.cell?, hs0]
  have k2 : W0.cell? ⟨w.heap.size, 2, none⟩ = some (.int .i64 ib) := by simp [World.cell?, hs0]
  have k3 : W0.cell? ⟨w.heap.size, 3, none⟩ = some (.int .i64 ic) := by simp [World.cell?, hs0]
  replace hV := hV.below hb0
  have HB0 := hid hb0
  clear hs0 hb0
  obtain ⟨c0, c1, c2, c3, c4, c5⟩ := hV.cells
  have hpc := hV.fld
  have QP : Hid (∀ nn, (W0.drewN nn).cell? ⟨b, 0, none⟩ = some (.int .i64 p)) := fun nn => hpc
  have HE : Hid (tvN p r k ⟨0, ia, ib, ic⟩ = (k : Int)) := rfl
  obtain ⟨R, hR⟩ : ∃ R, R = tvN p r k ⟨0, ia, ib, ic⟩ := ⟨_, rfl⟩
  rw [← hR] at HE ⊢
  clear hR
  clear HEM H hV
  generalize L.length = nL at *
  subst hW0
  go_enter Tryz.func96, Tryz.ntmps96
  go_wp2_with fail
  go_ret
  exact ⟨by have h := HE.out; subst h; rfl, HB0.out⟩

set_option maxRecDepth 100000 in
set_option maxHeartbeats 2000000 in
theorem vpc_8 (p b V : Nat) (L : List InsZ) (size out : Int) (r n : List Int) (aL : Option Addr) (cL : Nat) (ar : Option Addr) (cr : Nat) (an : Option Addr) (cn : Nat) (w : World) (H : VF p L size out r n) (hV : VW p b V L size out r n aL cL ar cr an cn w) (k : Nat) (ia ib ic : Int) (hi : k < 281474976710656 ∧ I64 ia ∧ I64 ib ∧ I64 ic)  :
    Calls Tryz.prog 96 #[.pointer (some ⟨V, 0, none⟩), .int .i64 (k : Int), .agg #[.int .i64 8, .int .i64 ia, .int .i64 ib, .int .i64 ic]] w fun e w' => e = .returned (.int .i64 (tvN p r k ⟨8, ia, ib, ic⟩)) ∧ Below w.heap.size w w' := by
  have h3 := H.h3
  have h4 := H.h4
  obtain ⟨hk, hia, hib, hic⟩ := hi
  have HEM : Hid (∀ a : Int, I64 (a % (p : Int))) := fun a => by have := emod_bounds a p H.h3; have := H.h4; unfold I64; omega
  obtain ⟨W0, hW0⟩ : ∃ W0, W0 = w.alloc (.cells #[.int .i64 8, .int .i64 ia, .int .i64 ib, .int .i64 ic] 45) := ⟨_, rfl⟩
  have hb0 : Below w.heap.size w W0 := by rw [hW0]; exact (Below.refl _ _).alloc (Nat.le_refl _) _
  have hs0 : W0.heap[w.heap.size]? = some (.cells #[.int .i64 8, .int .i64 ia, .int .i64 ib, .int .i64 ic] 45 (0, 0)) := by rw [hW0]; exact heap_alloc_new w _
  have k0 : W0.cell? ⟨w.heap.size, 0, none⟩ = some (.int .i64 8) := by simp [World.cell?, hs0]
  have k1 : W0.cell? ⟨w.heap.size, 1, none⟩ = some (.int .i64 ia) := by simp [World.cell?, hs0]
  have k2 : W0.cell? ⟨w.heap.size, 2, none⟩ = some (.int .i64 ib) := by simp [World.cell?, hs0]
  have k3 : W0.cell? ⟨w.heap.size, 3, none⟩ = some (.int .i64 ic) := by simp [World.cell?, hs0]
  replace hV := hV.below hb0
  have HB0 := hid hb0
  clear hs0 hb0
  obtain ⟨c0, c1, c2, c3, c4, c5⟩ := hV.cells
  have hpc := hV.fld
  have QP : Hid (∀ nn, (W0.drewN nn).cell? ⟨b, 0, none⟩ = some (.int .i64 p)) := fun nn => hpc
  have HE : Hid (tvN p r k ⟨8, ia, ib, ic⟩ = ia) := rfl
  obtain ⟨R, hR⟩ : ∃ R, R = tvN p r k ⟨8, ia, ib, ic⟩ := ⟨_, rfl⟩
  rw [← hR] at HE ⊢
  clear hR
  clear HEM H hV
  generalize L.length = nL at *
  subst hW0
  go_enter Tryz.func96, Tryz.ntmps96
  go_wp2_with fail
  go_ret
  exact ⟨by have h := HE.out; subst h; rfl, HB0.out⟩

set_option maxRecDepth 100000 in
set_option maxHeartbeats 2000000 in
theorem vpc_10 (p b V : Nat) (L : List InsZ) (size out : Int) (r n : List Int) (aL : Option Addr) (cL : Nat) (ar : Option Addr) (cr : Nat) (an : Option Addr) (cn : Nat) (w : World) (H : VF p L size out r n) (hV : VW p b V L size out r n aL cL ar cr an cn w) (k : Nat) (ia ib ic : Int) (hi : k < 281474976710656 ∧ I64 ia ∧ I64 ib ∧ I64 ic)  :
    Calls Tryz.prog 96 #[.pointer (some ⟨V, 0, none⟩), .int .i64 (k : Int), .agg #[.int .i64 10, .int .i64 ia, .int .i64 ib, .int .i64 ic]] w fun e w' => e = .returned (.int .i64 (tvN p r k ⟨10, ia, ib, ic⟩)) ∧ Below w.heap.size w w' := by
  have h3 := H.h3
  have h4 := H.h4
  obtain ⟨hk, hia, hib, hic⟩ := hi
  have HEM : Hid (∀ a : Int, I64 (a % (p : Int))) := fun a => by have := emod_bounds a p H.h3; have := H.h4; unfold I64; omega
  obtain ⟨W0, hW0⟩ : ∃ W0, W0 = w.alloc (.cells #[.int .i64 10, .int .i64 ia, .int .i64 ib, .int .i64 ic] 45) := ⟨_, rfl⟩
  have hb0 : Below w.heap.size w W0 := by rw [hW0]; exact (Below.refl _ _).alloc (Nat.le_refl _) _
  have hs0 : W0.heap[w.heap.size]? = some (.cells #[.int .i64 10, .int .i64 ia, .int .i64 ib, .int .i64 ic] 45 (0, 0)) := by rw [hW0]; exact heap_alloc_new w _
  have k0 : W0.cell? ⟨w.heap.size, 0, none⟩ = some (.int .i64 10) := by simp [World.cell?, hs0]
  have k1 : W0.cell? ⟨w.heap.size, 1, none⟩ = some (.int .i64 ia) := by simp [World.cell?, hs0]
  have k2 : W0.cell? ⟨w.heap.size, 2, none⟩ = some (.int .i64 ib) := by simp [World.cell?, hs0]
  have k3 : W0.cell? ⟨w.heap.size, 3, none⟩ = some (.int .i64 ic) := by simp [World.cell?, hs0]
  replace hV := hV.below hb0
  have HB0 := hid hb0
  clear hs0 hb0
  obtain ⟨c0, c1, c2, c3, c4, c5⟩ := hV.cells
  have hpc := hV.fld
  have QP : Hid (∀ nn, (W0.drewN nn).cell? ⟨b, 0, none⟩ = some (.int .i64 p)) := fun nn => hpc
  have HE : Hid (tvN p r k ⟨10, ia, ib, ic⟩ = ia) := rfl
  obtain ⟨R, hR⟩ : ∃ R, R = tvN p r k ⟨10, ia, ib, ic⟩ := ⟨_, rfl⟩
  rw [← hR] at HE ⊢
  clear hR
  clear HEM H hV
  generalize L.length = nL at *
  subst hW0
  go_enter Tryz.func96, Tryz.ntmps96
  go_wp2_with fail
  go_ret
  exact ⟨by have h := HE.out; subst h; rfl, HB0.out⟩

set_option maxRecDepth 100000 in
set_option maxHeartbeats 2000000 in
theorem vpc_9 (p b V : Nat) (L : List InsZ) (size out : Int) (r n : List Int) (aL : Option Addr) (cL : Nat) (ar : Option Addr) (cr : Nat) (an : Option Addr) (cn : Nat) (w : World) (H : VF p L size out r n) (hV : VW p b V L size out r n aL cL ar cr an cn w) (k : Nat) (ia ib ic : Int) (hi : k < 281474976710656 ∧ I64 ia ∧ I64 ib ∧ I64 ic)  :
    Calls Tryz.prog 96 #[.pointer (some ⟨V, 0, none⟩), .int .i64 (k : Int), .agg #[.int .i64 9, .int .i64 ia, .int .i64 ib, .int .i64 ic]] w fun e w' => e = .returned (.int .i64 (tvN p r k ⟨9, ia, ib, ic⟩)) ∧ Below w.heap.size w w' := by
  have h3 := H.h3
  have h4 := H.h4
  obtain ⟨hk, hia, hib, hic⟩ := hi
  have HEM : Hid (∀ a : Int, I64 (a % (p : Int))) := fun a => by have := emod_bounds a p H.h3; have := H.h4; unfold I64; omega
  obtain ⟨W0, hW0⟩ : ∃ W0, W0 = w.alloc (.cells #[.int .i64 9, .int .i64 ia, .int .i64 ib, .int .i64 ic] 45) := ⟨_, rfl⟩
  have hb0 : Below w.heap.size w W0 := by rw [hW0]; exact (Below.refl _ _).alloc (Nat.le_refl _) _
  have hs0 : W0.heap[w.heap.size]? = some (.cells #[.int .i64 9, .int .i64 ia, .int .i64 ib, .int .i64 ic] 45 (0, 0)) := by rw [hW0]; exact heap_alloc_new w _
  have k0 : W0.cell? ⟨w.heap.size, 0, none⟩ = some (.int .i64 9) := by simp [World.cell?, hs0]
  have k1 : W0.cell? ⟨w.heap.size, 1, none⟩ = some (.int .i64 ia) := by simp [World.cell?, hs0]
  have k2 : W0.cell? ⟨w.heap.size, 2, none⟩ = some (.int .i64 ib) := by simp [World.cell?, hs0]
  have k3 : W0.cell? ⟨w.heap.size, 3, none⟩ = some (.int .i64 ic) := by simp [World.cell?, hs0]
  replace hV := hV.below hb0
  have HB0 := hid hb0
  clear hs0 hb0
  obtain ⟨c0, c1, c2, c3, c4, c5⟩ := hV.cells
  have hpc := hV.fld
  have QP : Hid (∀ nn, (W0.drewN nn).cell? ⟨b, 0, none⟩ = some (.int .i64 p)) := fun nn => hpc
  obtain ⟨br, orr, har, hrw⟩ := hV.rowAt H.hr
  subst har
  have r7 := hrw 7 (by omega)
  have i7 : I64 (zat r 7) := H.fr 7
  have l7 : (7 : Int) < (r.length : Int) := by have := H.hr; omega
  have r11 := hrw 11 (by omega)
  have i11 : I64 (zat r 11) := H.fr 11
  have l11 : (11 : Int) < (r.length : Int) := by have := H.hr; omega
  clear hrw
  have hk1 : I64 ((k : Int) + 1) := by unfold I64; omega
  have hw : IntKind.i64.wrap ((k : Int) + 1) = (k : Int) + 1 := by rw [IntKind.wrap_i64]; omega
  have HE : Hid (tvN p r k ⟨9, ia, ib, ic⟩ = (((((((1 : Int) - ((zat r 11 * zat r 7) % (p : Int))) % (p : Int)) * ib) % (p : Int)) + ((((zat r 11 * zat r 7) % (p : Int)) * ((k : Int) + 1)) % (p : Int))) % (p : Int))) := by
    unfold Hid
    rw [show tvN p r k ⟨9, ia, ib, ic⟩ = ((1 - zat r 11 * zat r 7) * ib + zat r 11 * zat r 7 * ((k : Int) + 1)) % (p : Int) from rfl]
    simp only [em_add1, em_add2, em_mul1, em_sub2]
  obtain ⟨R, hR⟩ : ∃ R, R = tvN p r k ⟨9, ia, ib, ic⟩ := ⟨_, rfl⟩
  rw [← hR] at HE ⊢
  clear hR
  have HC0 : Hid (∀ m, Calls Tryz.prog 121 #[.pointer (some ⟨V, 0, none⟩)] (W0.drewN m) fun e w' => e = .returned (.int .i64 ((zat r 11 * zat r 7) % (p : Int))) ∧ ∃ k, w' = (W0.drewN m).drewN k) := fun m => vnotZero_any p b V L size out r n aL cL _ cr an cn _ H (hV.below (below_drewN (Below.refl _ _) m))
  have HC1 : Hid (∀ W : World, W.cell? ⟨b, 0, none⟩ = some (.int .i64 p) → Calls Tryz.prog 85 #[.pointer (some ⟨b, 0, none⟩), .int .i64 (1 : Int), .int .i64 ((zat r 11 * zat r 7) % (p : Int))] W fun e w' => e = .returned (.int .i64 (((1 : Int) - ((zat r 11 * zat r 7) % (p : Int))) % (p : Int))) ∧ w' = W) := fun W h => sub_any p b _ _ W h3 h4 h (show I64 1 by unfold I64; decide).1 (show I64 1 by unfold I64; decide).2 (HEM.out _).1 (HEM.out _).2
  have HC2 : Hid (∀ W : World, W.cell? ⟨b, 0, none⟩ = some (.int .i64 p) → Calls Tryz.prog 87 #[.pointer (some ⟨b, 0, none⟩), .int .i64 (((1 : Int) - ((zat r 11 * zat r 7) % (p : Int))) % (p : Int)), .int .i64 ib] W fun e w' => e = .returned (.int .i64 (((((1 : Int) - ((zat r 11 * zat r 7) % (p : Int))) % (p : Int)) * ib) % (p : Int))) ∧ w' = W) := fun W h => mul_any p b _ _ W h3 h4 h (HEM.out _).1 (HEM.out _).2 hib.1 hib.2
  have HC3 : Hid (∀ m, Calls Tryz.prog 121 #[.pointer (some ⟨V, 0, none⟩)] (W0.drewN m) fun e w' => e = .returned (.int .i64 ((zat r 11 * zat r 7) % (p : Int))) ∧ ∃ k, w' = (W0.drewN m).drewN k) := fun m => vnotZero_any p b V L size out r n aL cL _ cr an cn _ H (hV.below (below_drewN (Below.refl _ _) m))
  have HC4 : Hid (∀ W : World, W.cell? ⟨b, 0, none⟩ = some (.int .i64 p) → Calls Tryz.prog 87 #[.pointer (some ⟨b, 0, none⟩), .int .i64 ((zat r 11 * zat r 7) % (p : Int)), .int .i64 ((k : Int) + 1)] W fun e w' => e = .returned (.int .i64 ((((zat r 11 * zat r 7) % (p : Int)) * ((k : Int) + 1)) % (p : Int))) ∧ w' = W) := fun W h => mul_any p b _ _ W h3 h4 h (HEM.out _).1 (HEM.out _).2 hk1.1 hk1.2
  have HC5 : Hid (∀ W : World, W.cell? ⟨b, 0, none⟩ = some (.int .i64 p) → Calls Tryz.prog 52 #[.pointer (some ⟨b, 0, none⟩), .int .i64 (((((1 : Int) - ((zat r 11 * zat r 7) % (p : Int))) % (p : Int)) * ib) % (p : Int)), .int .i64 ((((zat r 11 * zat r 7) % (p : Int)) * ((k : Int) + 1)) % (p : Int))] W fun e w' => e = .returned (.int .i64 (((((((1 : Int) - ((zat r 11 * zat r 7) % (p : Int))) % (p : Int)) * ib) % (p : Int)) + ((((zat r 11 * zat r 7) % (p : Int)) * ((k : Int) + 1)) % (p : Int))) % (p : Int))) ∧ w' = W) := fun W h => add_any p b _ _ W h3 h4 h (HEM.out _).1 (HEM.out _).2 (HEM.out _).1 (HEM.out _).2
  clear i7 i11
  clear HEM H hV
  generalize (((((((1 : Int) - ((zat r 11 * zat r 7) % (p : Int))) % (p : Int)) * ib) % (p : Int)) + ((((zat r 11 * zat r 7) % (p : Int)) * ((k : Int) + 1)) % (p : Int))) % (p : Int)) = t6 at *
  generalize ((((zat r 11 * zat r 7) % (p : Int)) * ((k : Int) + 1)) % (p : Int)) = t5 at *
  generalize ((zat r 11 * zat r 7) % (p : Int)) = t1 at *
  generalize (((((1 : Int) - ((zat r 11 * zat r 7) % (p : Int))) % (p : Int)) * ib) % (p : Int)) = t3 at *
  generalize (((1 : Int) - ((zat r 11 * zat r 7) % (p : Int))) % (p : Int)) = t2 at *
  generalize ((zat r 11 * zat r 7) % (p : Int)) = t1 at *
  generalize zat r 7 = x7 at *
  generalize zat r 11 = x11 at *
  generalize r.length = lr at *
  generalize L.length = nL at *
  go_enter Tryz.func96, Tryz.ntmps96
  go_wp2_with fail
  rw [← hW0]
  clear hW0
  go_wp2_with fail
  go_quiet (first
    | (go_at_call 121; first | with_reducible exact Calls.quiet_of (HC0.out _) | with_reducible exact Calls.quiet_of (HC3.out _))
    | (go_at_call 85; first | with_reducible exact Calls.quiet_of_same (HC1.out _ (QP.out _)))
    | (go_at_call 87; first | with_reducible exact Calls.quiet_of_same (HC2.out _ (QP.out _)) | with_reducible exact Calls.quiet_of_same (HC4.out _ (QP.out _)))
    | (go_at_call 52; first | with_reducible exact Calls.quiet_of_same (HC5.out _ (QP.out _))))
  go_wp2_with fail
  go_ret
  exact ⟨by have h := HE.out; subst h; rfl, below_drewN HB0.out _⟩

set_option maxRecDepth 100000 in
set_option maxHeartbeats 2000000 in
theorem vpc_11 (p b V : Nat) (L : List InsZ) (size out : Int) (r n : List Int) (aL : Option Addr) (cL : Nat) (ar : Option Addr) (cr : Nat) (an : Option Addr) (cn : Nat) (w : World) (H : VF p L size out r n) (hV : VW p b V L size out r n aL cL ar cr an cn w) (k : Nat) (ia ib ic : Int) (hi : k < 281474976710656 ∧ I64 ia ∧ I64 ib ∧ I64 ic)  :
    Calls Tryz.prog 96 #[.pointer (some ⟨V, 0, none⟩), .int .i64 (k : Int), .agg #[.int .i64 11, .int .i64 ia, .int .i64 ib, .int .i64 ic]] w fun e w' => e = .returned (.int .i64 (tvN p r k ⟨11, ia, ib, ic⟩)) ∧ Below w.heap.size w w' := by
  have h3 := H.h3
  have h4 := H.h4
  obtain ⟨hk, hia, hib, hic⟩ := hi
  have HEM : Hid (∀ a : Int, I64 (a % (p : Int))) := fun a => by have := emod_bounds a p H.h3; have := H.h4; unfold I64; omega
  obtain ⟨W0, hW0⟩ : ∃ W0, W0 = w.alloc (.cells #[.int .i64 11, .int .i64 ia, .int .i64 ib, .int .i64 ic] 45) := ⟨_, rfl⟩
  have hb0 : Below w.heap.size w W0 := by rw [hW0]; exact (Below.refl _ _).alloc (Nat.le_refl _) _
  have hs0 : W0.heap[w.heap.size]? = some (.cells #[.int .i64 11, .int .i64 ia, .int .i64 ib, .int .i64 ic] 45 (0, 0)) := by rw [hW0]; exact heap_alloc_new w _
  have k0 : W0.cell? ⟨w.heap.size, 0, none⟩ = some (.int .i64 11) := by simp [World.cell?, hs0]
  have k1 : W0.cell? ⟨w.heap.size, 1, none⟩ = some (.int .i64 ia) := by simp [World.cell?, hs0]
  have k2 : W0.cell? ⟨w.heap.size, 2, none⟩ = some (.int .i64 ib) := by simp [World.cell?, hs0]
  have k3 : W0.cell? ⟨w.heap.size, 3, none⟩ = some (.int .i64 ic) := by simp [World.cell?, hs0]
  replace hV := hV.below hb0
  have HB0 := hid hb0
  clear hs0 hb0
  obtain ⟨c0, c1, c2, c3, c4, c5⟩ := hV.cells
  have hpc := hV.fld
  have QP : Hid (∀ nn, (W0.drewN nn).cell? ⟨b, 0, none⟩ = some (.int .i64 p)) := fun nn => hpc
  obtain ⟨br, orr, har, hrw⟩ := hV.rowAt H.hr
  subst har
  have r8 := hrw 8 (by omega)
  have i8 : I64 (zat r 8) := H.fr 8
  have l8 : (8 : Int) < (r.length : Int) := by have := H.hr; omega
  clear hrw
  have HE : Hid (tvN p r k ⟨11, ia, ib, ic⟩ = (zat r 8)) := rfl
  obtain ⟨R, hR⟩ : ∃ R, R = tvN p r k ⟨11, ia, ib, ic⟩ := ⟨_, rfl⟩
  rw [← hR] at HE ⊢
  clear hR
  clear i8
  clear HEM H hV
  generalize zat r 8 = x8 at *
  generalize r.length = lr at *
  generalize L.length = nL at *
  subst hW0
  go_enter Tryz.func96, Tryz.ntmps96
  go_wp2_with fail
  go_ret
  exact ⟨by have h := HE.out; subst h; rfl, HB0.out⟩

set_option maxRecDepth 100000 in
set_option maxHeartbeats 2000000 in
theorem vpc_x (p b V : Nat) (L : List InsZ) (size out : Int) (r n : List Int) (aL : Option Addr) (cL : Nat) (ar : Option Addr) (cr : Nat) (an : Option Addr) (cn : Nat) (w : World) (H : VF p L size out r n) (hV : VW p b V L size out r n aL cL ar cr an cn w) (k : Nat) (ia ib ic : Int) (hi : k < 281474976710656 ∧ I64 ia ∧ I64 ib ∧ I64 ic) (op : Int) (hno : op ≠ 0 ∧ op ≠ 8 ∧ op ≠ 9 ∧ op ≠ 10 ∧ op ≠ 11)  :
    Calls Tryz.prog 96 #[.pointer (some ⟨V, 0, none⟩), .int .i64 (k : Int), .agg #[.int .i64 op, .int .i64 ia, .int .i64 ib, .int .i64 ic]] w fun e w' => e = .returned (.int .i64 (tvN p r k ⟨op, ia, ib, ic⟩)) ∧ Below w.heap.size w w' := by
  have h3 := H.h3
  have h4 := H.h4
  obtain ⟨hk, hia, hib, hic⟩ := hi
  have HEM : Hid (∀ a : Int, I64 (a % (p : Int))) := fun a => by have := emod_bounds a p H.h3; have := H.h4; unfold I64; omega
  obtain ⟨W0, hW0⟩ : ∃ W0, W0 = w.alloc (.cells #[.int .i64 op, .int .i64 ia, .int .i64 ib, .int .i64 ic] 45) := ⟨_, rfl⟩
  have hb0 : Below w.heap.size w W0 := by rw [hW0]; exact (Below.refl _ _).alloc (Nat.le_refl _) _
  have hs0 : W0.heap[w.heap.size]? = some (.cells #[.int .i64 op, .int .i64 ia, .int .i64 ib, .int .i64 ic] 45 (0, 0)) := by rw [hW0]; exact heap_alloc_new w _
  have k0 : W0.cell? ⟨w.heap.size, 0, none⟩ = some (.int .i64 op) := by simp [World.cell?, hs0]
  have k1 : W0.cell? ⟨w.heap.size, 1, none⟩ = some (.int .i64 ia) := by simp [World.cell?, hs0]
  have k2 : W0.cell? ⟨w.heap.size, 2, none⟩ = some (.int .i64 ib) := by simp [World.cell?, hs0]
  have k3 : W0.cell? ⟨w.heap.size, 3, none⟩ = some (.int .i64 ic) := by simp [World.cell?, hs0]
  replace hV := hV.below hb0
  have HB0 := hid hb0
  clear hs0 hb0
  obtain ⟨c0, c1, c2, c3, c4, c5⟩ := hV.cells
  have hpc := hV.fld
  have QP : Hid (∀ nn, (W0.drewN nn).cell? ⟨b, 0, none⟩ = some (.int .i64 p)) := fun nn => hpc
  have q0 : (op == 0) = false := by rw [beq_eq_false_iff_ne]; omega
  have q8 : (op == 8) = false := by rw [beq_eq_false_iff_ne]; omega
  have q9 : (op == 9) = false := by rw [beq_eq_false_iff_ne]; omega
  have q10 : (op == 10) = false := by rw [beq_eq_false_iff_ne]; omega
  have q11 : (op == 11) = false := by rw [beq_eq_false_iff_ne]; omega
  have hk1 : I64 ((k : Int) + 1) := by unfold I64; omega
  have hw : IntKind.i64.wrap ((k : Int) + 1) = (k : Int) + 1 := by rw [IntKind.wrap_i64]; omega
  have HE : Hid (tvN p r k ⟨op, ia, ib, ic⟩ = ((k : Int) + 1)) := by unfold Hid; simp [tvN, hno]
  obtain ⟨R, hR⟩ : ∃ R, R = tvN p r k ⟨op, ia, ib, ic⟩ := ⟨_, rfl⟩
  rw [← hR] at HE ⊢
  clear hR
  clear HEM H hV
  generalize L.length = nL at *
  subst hW0
  go_enter Tryz.func96, Tryz.ntmps96
  go_wp2_with fail
  go_ret
  exact ⟨by have h := HE.out; subst h; rfl, HB0.out⟩

set_option maxRecDepth 100000 in
set_option maxHeartbeats 2000000 in
theorem vfp_10 (p b V : Nat) (L : List InsZ) (size out : Int) (r n : List Int) (aL : Option Addr) (cL : Nat) (ar : Option Addr) (cr : Nat) (an : Option Addr) (cn : Nat) (w : World) (H : VF p L size out r n) (hV : VW p b V L size out r n aL cL ar cr an cn w) (k : Nat) (ia ib ic : Int) (hi : k < 281474976710656 ∧ I64 ia ∧ I64 ib ∧ I64 ic)  :
    Calls Tryz.prog 97 #[.pointer (some ⟨V, 0, none⟩), .int .i64 (k : Int), .agg #[.int .i64 10, .int .i64 ia, .int .i64 ib, .int .i64 ic]] w fun e w' => e = .returned (.int .i64 (tvF p r ⟨10, ia, ib, ic⟩)) ∧ Below w.heap.size w w' := by
  have h3 := H.h3
  have h4 := H.h4
  obtain ⟨hk, hia, hib, hic⟩ := hi
  have HEM : Hid (∀ a : Int, I64 (a % (p : Int))) := fun a => by have := emod_bounds a p H.h3; have := H.h4; unfold I64; omega
  obtain ⟨W0, hW0⟩ : ∃ W0, W0 = w.alloc (.cells #[.int .i64 10, .int .i64 ia, .int .i64 ib, .int .i64 ic] 45) := ⟨_, rfl⟩
  have hb0 : Below w.heap.size w W0 := by rw [hW0]; exact (Below.refl _ _).alloc (Nat.le_refl _) _
  have hs0 : W0.heap[w.heap.size]? = some (.cells #[.int .i64 10, .int .i64 ia, .int .i64 ib, .int .i64 ic] 45 (0, 0)) := by rw [hW0]; exact heap_alloc_new w _
  have k0 : W0.cell? ⟨w.heap.size, 0, none⟩ = some (.int .i64 10) := by simp [World.cell?, hs0]
  have k1 : W0.cell? ⟨w.heap.size, 1, none⟩ = some (.int .i64 ia) := by simp [World.cell?, hs0]
  have k2 : W0.cell? ⟨w.heap.size, 2, none⟩ = some (.int .i64 ib) := by simp [World.cell?, hs0]
  have k3 : W0.cell? ⟨w.heap.size, 3, none⟩ = some (.int .i64 ic) := by simp [World.cell?, hs0]
  replace hV := hV.below hb0
  have HB0 := hid hb0
  clear hs0 hb0
  obtain ⟨c0, c1, c2, c3, c4, c5⟩ := hV.cells
  have hpc := hV.fld
  have QP : Hid (∀ nn, (W0.drewN nn).cell? ⟨b, 0, none⟩ = some (.int .i64 p)) := fun nn => hpc
  obtain ⟨br, orr, har, hrw⟩ := hV.rowAt H.hr
  subst har
  have r1 := hrw 1 (by omega)
  have i1 : I64 (zat r 1) := H.fr 1
  have l1 : (1 : Int) < (r.length : Int) := by have := H.hr; omega
  clear hrw
  have HE : Hid (tvF p r ⟨10, ia, ib, ic⟩ = (((zat r 1) + (2 : Int)) % (p : Int))) := by
    unfold Hid
    rw [show tvF p r ⟨10, ia, ib, ic⟩ = (zat r 1 + 2) % (p : Int) from rfl]
  obtain ⟨R, hR⟩ : ∃ R, R = tvF p r ⟨10, ia, ib, ic⟩ := ⟨_, rfl⟩
  rw [← hR] at HE ⊢
  clear hR
  have HC0 : Hid (∀ W : World, W.cell? ⟨b, 0, none⟩ = some (.int .i64 p) → Calls Tryz.prog 52 #[.pointer (some ⟨b, 0, none⟩), .int .i64 (zat r 1), .int .i64 (2 : Int)] W fun e w' => e = .returned (.int .i64 (((zat r 1) + (2 : Int)) % (p : Int))) ∧ w' = W) := fun W h => add_any p b _ _ W h3 h4 h i1.1 i1.2 (show I64 2 by unfold I64; decide).1 (show I64 2 by unfold I64; decide).2
  clear i1
  clear HEM H hV
  generalize (((zat r 1) + (2 : Int)) % (p : Int)) = t1 at *
  generalize zat r 1 = x1 at *
  generalize r.length = lr at *
  generalize L.length = nL at *
  go_enter Tryz.func97, Tryz.ntmps97
  go_wp2_with fail
  rw [← hW0]
  clear hW0
  go_wp2_with fail
  go_quiet (first
    | (go_at_call 52; first | with_reducible exact Calls.quiet_of_same (HC0.out _ (QP.out _))))
  go_wp2_with fail
  go_ret
  exact ⟨by have h := HE.out; subst h; rfl, below_drewN HB0.out _⟩

set_option maxRecDepth 100000 in
set_option maxHeartbeats 2000000 in
theorem vfp_11 (p b V : Nat) (L : List InsZ) (size out : Int) (r n : List Int) (aL : Option Addr) (cL : Nat) (ar : Option Addr) (cr : Nat) (an : Option Addr) (cn : Nat) (w : World) (H : VF p L size out r n) (hV : VW p b V L size out r n aL cL ar cr an cn w) (k : Nat) (ia ib ic : Int) (hi : k < 281474976710656 ∧ I64 ia ∧ I64 ib ∧ I64 ic)  :
    Calls Tryz.prog 97 #[.pointer (some ⟨V, 0, none⟩), .int .i64 (k : Int), .agg #[.int .i64 11, .int .i64 ia, .int .i64 ib, .int .i64 ic]] w fun e w' => e = .returned (.int .i64 (tvF p r ⟨11, ia, ib, ic⟩)) ∧ Below w.heap.size w w' := by
  have h3 := H.h3
  have h4 := H.h4
  obtain ⟨hk, hia, hib, hic⟩ := hi
  have HEM : Hid (∀ a : Int, I64 (a % (p : Int))) := fun a => by have := emod_bounds a p H.h3; have := H.h4; unfold I64; omega
  obtain ⟨W0, hW0⟩ : ∃ W0, W0 = w.alloc (.cells #[.int .i64 11, .int .i64 ia, .int .i64 ib, .int .i64 ic] 45) := ⟨_, rfl⟩
  have hb0 : Below w.heap.size w W0 := by rw [hW0]; exact (Below.refl _ _).alloc (Nat.le_refl _) _
  have hs0 : W0.heap[w.heap.size]? = some (.cells #[.int .i64 11, .int .i64 ia, .int .i64 ib, .int .i64 ic] 45 (0, 0)) := by rw [hW0]; exact heap_alloc_new w _
  have k0 : W0.cell? ⟨w.heap.size, 0, none⟩ = some (.int .i64 11) := by simp [World.cell?, hs0]
  have k1 : W0.cell? ⟨w.heap.size, 1, none⟩ = some (.int .i64 ia) := by simp [World.cell?, hs0]
  have k2 : W0.cell? ⟨w.heap.size, 2, none⟩ = some (.int .i64 ib) := by simp [World.cell?, hs0]
  have k3 : W0.cell? ⟨w.heap.size, 3, none⟩ = some (.int .i64 ic) := by simp [World.cell?, hs0]
  replace hV := hV.below hb0
  have HB0 := hid hb0
  clear hs0 hb0
  obtain ⟨c0, c1, c2, c3, c4, c5⟩ := hV.cells
  have hpc := hV.fld
  have QP : Hid (∀ nn, (W0.drewN nn).cell? ⟨b, 0, none⟩ = some (.int .i64 p)) := fun nn => hpc
  obtain ⟨br, orr, har, hrw⟩ := hV.rowAt H.hr
  subst har
  have r7 := hrw 7 (by omega)
  have i7 : I64 (zat r 7) := H.fr 7
  have l7 : (7 : Int) < (r.length : Int) := by have := H.hr; omega
  clear hrw
  have HE : Hid (tvF p r ⟨11, ia, ib, ic⟩ = (zat r 7)) := rfl
  obtain ⟨R, hR⟩ : ∃ R, R = tvF p r ⟨11, ia, ib, ic⟩ := ⟨_, rfl⟩
  rw [← hR] at HE ⊢
  clear hR
  clear i7
  clear HEM H hV
  generalize zat r 7 = x7 at *
  generalize r.length = lr at *
  generalize L.length = nL at *
  subst hW0
  go_enter Tryz.func97, Tryz.ntmps97
  go_wp2_with fail
  go_ret
  exact ⟨by have h := HE.out; subst h; rfl, HB0.out⟩

set_option maxRecDepth 100000 in
set_option maxHeartbeats 2000000 in
theorem vfp_x (p b V : Nat) (L : List InsZ) (size out : Int) (r n : List Int) (aL : Option Addr) (cL : Nat) (ar : Option Addr) (cr : Nat) (an : Option Addr) (cn : Nat) (w : World) (H : VF p L size out r n) (hV : VW p b V L size out r n aL cL ar cr an cn w) (k : Nat) (ia ib ic : Int) (hi : k < 281474976710656 ∧ I64 ia ∧ I64 ib ∧ I64 ic) (op : Int) (hno : op ≠ 10 ∧ op ≠ 11)  :
    Calls Tryz.prog 97 #[.pointer (some ⟨V, 0, none⟩), .int .i64 (k : Int), .agg #[.int .i64 op, .int .i64 ia, .int .i64 ib, .int .i64 ic]] w fun e w' => e = .returned (.int .i64 (tvF p r ⟨op, ia, ib, ic⟩)) ∧ Below w.heap.size w w' := by
  have h3 := H.h3
  have h4 := H.h4
  obtain ⟨hk, hia, hib, hic⟩ := hi
  have HEM : Hid (∀ a : Int, I64 (a % (p : Int))) := fun a => by have := emod_bounds a p H.h3; have := H.h4; unfold I64; omega
  obtain ⟨W0, hW0⟩ : ∃ W0, W0 = w.alloc (.cells #[.int .i64 op, .int .i64 ia, .int .i64 ib, .int .i64 ic] 45) := ⟨_, rfl⟩
  have hb0 : Below w.heap.size w W0 := by rw [hW0]; exact (Below.refl _ _).alloc (Nat.le_refl _) _
  have hs0 : W0.heap[w.heap.size]? = some (.cells #[.int .i64 op, .int .i64 ia, .int .i64 ib, .int .i64 ic] 45 (0, 0)) := by rw [hW0]; exact heap_alloc_new w _
  have k0 : W0.cell? ⟨w.heap.size, 0, none⟩ = some (.int .i64 op) := by simp [World.cell?, hs0]
  have k1 : W0.cell? ⟨w.heap.size, 1, none⟩ = some (.int .i64 ia) := by simp [World.cell?, hs0]
  have k2 : W0.cell? ⟨w.heap.size, 2, none⟩ = some (.int .i64 ib) := by simp [World.cell?, hs0]
  have k3 : W0.cell? ⟨w.heap.size, 3, none⟩ = some (.int .i64 ic) := by simp [World.cell?, hs0]
  replace hV := hV.below hb0
  have HB0 := hid hb0
  clear hs0 hb0
  obtain ⟨c0, c1, c2, c3, c4, c5⟩ := hV.cells
  have hpc := hV.fld
  have QP : Hid (∀ nn, (W0.drewN nn).cell? ⟨b, 0, none⟩ = some (.int .i64 p)) := fun nn => hpc
  obtain ⟨br, orr, har, hrw⟩ := hV.rowAt H.hr
  subst har
  have r0 := hrw 0 (by omega)
  rw [Nat.add_zero] at r0
  have i0 : I64 (zat r 0) := H.fr 0
  have l0 : (0 : Int) < (r.length : Int) := by have := H.hr; omega
  clear hrw
  have q10 : (op == 10) = false := by rw [beq_eq_false_iff_ne]; omega
  have q11 : (op == 11) = false := by rw [beq_eq_false_iff_ne]; omega
  have HE : Hid (tvF p r ⟨op, ia, ib, ic⟩ = (zat r 0)) := by unfold Hid; simp [tvF, hno]
  obtain ⟨R, hR⟩ : ∃ R, R = tvF p r ⟨op, ia, ib, ic⟩ := ⟨_, rfl⟩
  rw [← hR] at HE ⊢
  clear hR
  clear i0
  clear HEM H hV
  generalize zat r 0 = x0 at *
  generalize r.length = lr at *
  generalize L.length = nL at *
  subst hW0
  go_enter Tryz.func97, Tryz.ntmps97
  go_wp2_with fail
  go_ret
  exact ⟨by have h := HE.out; subst h; rfl, HB0.out⟩

set_option maxRecDepth 100000 in
set_option maxHeartbeats 2000000 in
theorem vap_10 (p b V : Nat) (L : List InsZ) (size out : Int) (r n : List Int) (aL : Option Addr) (cL : Nat) (ar : Option Addr) (cr : Nat) (an : Option Addr) (cn : Nat) (w : World) (H : VF p L size out r n) (hV : VW p b V L size out r n aL cL ar cr an cn w) (k : Nat) (ia ib ic : Int) (hi : k < 281474976710656 ∧ I64 ia ∧ I64 ib ∧ I64 ic)  :
    Calls Tryz.prog 98 #[.pointer (some ⟨V, 0, none⟩), .int .i64 (k : Int), .agg #[.int .i64 10, .int .i64 ia, .int .i64 ib, .int .i64 ic]] w fun e w' => e = .returned (.int .i64 (tvA p r ⟨10, ia, ib, ic⟩)) ∧ Below w.heap.size w w' := by
  have h3 := H.h3
  have h4 := H.h4
  obtain ⟨hk, hia, hib, hic⟩ := hi
  have HEM : Hid (∀ a : Int, I64 (a % (p : Int))) := fun a => by have := emod_bounds a p H.h3; have := H.h4; unfold I64; omega
  obtain ⟨W0, hW0⟩ : ∃ W0, W0 = w.alloc (.cells #[.int .i64 10, .int .i64 ia, .int .i64 ib, .int .i64 ic] 45) := ⟨_, rfl⟩
  have hb0 : Below w.heap.size w W0 := by rw [hW0]; exact (Below.refl _ _).alloc (Nat.le_refl _) _
  have hs0 : W0.heap[w.heap.size]? = some (.cells #[.int .i64 10, .int .i64 ia, .int .i64 ib, .int .i64 ic] 45 (0, 0)) := by rw [hW0]; exact heap_alloc_new w _
  have k0 : W0.cell? ⟨w.heap.size, 0, none⟩ = some (.int .i64 10) := by simp [World.cell?, hs0]
  have k1 : W0.cell? ⟨w.heap.size, 1, none⟩ = some (.int .i64 ia) := by simp [World.cell?, hs0]
  have k2 : W0.cell? ⟨w.heap.size, 2, none⟩ = some (.int .i64 ib) := by simp [World.cell?, hs0]
  have k3 : W0.cell? ⟨w.heap.size, 3, none⟩ = some (.int .i64 ic) := by simp [World.cell?, hs0]
  replace hV := hV.below hb0
  have HB0 := hid hb0
  clear hs0 hb0
  obtain ⟨c0, c1, c2, c3, c4, c5⟩ := hV.cells
  have hpc := hV.fld
  have QP : Hid (∀ nn, (W0.drewN nn).cell? ⟨b, 0, none⟩ = some (.int .i64 p)) := fun nn => hpc
  obtain ⟨br, orr, har, hrw⟩ := hV.rowAt H.hr
  subst har
  have r1 := hrw 1 (by omega)
  have i1 : I64 (zat r 1) := H.fr 1
  have l1 : (1 : Int) < (r.length : Int) := by have := H.hr; omega
  clear hrw
  have HE : Hid (tvA p r ⟨10, ia, ib, ic⟩ = (((((zat r 1) + (2 : Int)) % (p : Int)) + ib) % (p : Int))) := by
    unfold Hid
    rw [show tvA p r ⟨10, ia, ib, ic⟩ = (zat r 1 + 2 + ib) % (p : Int) from rfl]
    simp only [em_add1]
  obtain ⟨R, hR⟩ : ∃ R, R = tvA p r ⟨10, ia, ib, ic⟩ := ⟨_, rfl⟩
  rw [← hR] at HE ⊢
  clear hR
  have HC0 : Hid (∀ W : World, W.cell? ⟨b, 0, none⟩ = some (.int .i64 p) → Calls Tryz.prog 52 #[.pointer (some ⟨b, 0, none⟩), .int .i64 (zat r 1), .int .i64 (2 : Int)] W fun e w' => e = .returned (.int .i64 (((zat r 1) + (2 : Int)) % (p : Int))) ∧ w' = W) := fun W h => add_any p b _ _ W h3 h4 h i1.1 i1.2 (show I64 2 by unfold I64; decide).1 (show I64 2 by unfold I64; decide).2
  have HC1 : Hid (∀ W : World, W.cell? ⟨b, 0, none⟩ = some (.int .i64 p) → Calls Tryz.prog 52 #[.pointer (some ⟨b, 0, none⟩), .int .i64 (((zat r 1) + (2 : Int)) % (p : Int)), .int .i64 ib] W fun e w' => e = .returned (.int .i64 (((((zat r 1) + (2 : Int)) % (p : Int)) + ib) % (p : Int))) ∧ w' = W) := fun W h => add_any p b _ _ W h3 h4 h (HEM.out _).1 (HEM.out _).2 hib.1 hib.2
  clear i1
  clear HEM H hV
  generalize (((((zat r 1) + (2 : Int)) % (p : Int)) + ib) % (p : Int)) = t2 at *
  generalize (((zat r 1) + (2 : Int)) % (p : Int)) = t1 at *
  generalize zat r 1 = x1 at *
  generalize r.length = lr at *
  generalize L.length = nL at *
  go_enter Tryz.func98, Tryz.ntmps98
  go_wp2_with fail
  rw [← hW0]
  clear hW0
  go_wp2_with fail
  go_quiet (first
    | (go_at_call 52; first | with_reducible exact Calls.quiet_of_same (HC0.out _ (QP.out _)) | with_reducible exact Calls.quiet_of_same (HC1.out _ (QP.out _))))
  go_wp2_with fail
  go_ret
  exact ⟨by have h := HE.out; subst h; rfl, below_drewN HB0.out _⟩

set_option maxRecDepth 100000 in
set_option maxHeartbeats 2000000 in
theorem vap_x (p b V : Nat) (L : List InsZ) (size out : Int) (r n : List Int) (aL : Option Addr) (cL : Nat) (ar : Option Addr) (cr : Nat) (an : Option Addr) (cn : Nat) (w : World) (H : VF p L size out r n) (hV : VW p b V L size out r n aL cL ar cr an cn w) (k : Nat) (ia ib ic : Int) (hi : k < 281474976710656 ∧ I64 ia ∧ I64 ib ∧ I64 ic) (op : Int) (hno : op ≠ 10)  :
    Calls Tryz.prog 98 #[.pointer (some ⟨V, 0, none⟩), .int .i64 (k : Int), .agg #[.int .i64 op, .int .i64 ia, .int .i64 ib, .int .i64 ic]] w fun e w' => e = .returned (.int .i64 (tvA p r ⟨op, ia, ib, ic⟩)) ∧ Below w.heap.size w w' := by
  have h3 := H.h3
  have h4 := H.h4
  obtain ⟨hk, hia, hib, hic⟩ := hi
  have HEM : Hid (∀ a : Int, I64 (a % (p : Int))) := fun a => by have := emod_bounds a p H.h3; have := H.h4; unfold I64; omega
  obtain ⟨W0, hW0⟩ : ∃ W0, W0 = w.alloc (.cells #[.int .i64 op, .int .i64 ia, .int .i64 ib, .int .i64 ic] 45) := ⟨_, rfl⟩
  have hb0 : Below w.heap.size w W0 := by rw [hW0]; exact (Below.refl _ _).alloc (Nat.le_refl _) _
  have hs0 : W0.heap[w.heap.size]? = some (.cells #[.int .i64 op, .int .i64 ia, .int .i64 ib, .int .i64 ic] 45 (0, 0)) := by rw [hW0]; exact heap_alloc_new w _
  have k0 : W0.cell? ⟨w.heap.size, 0, none⟩ = some (.int .i64 op) := by simp [World.cell?, hs0]
  have k1 : W0.cell? ⟨w.heap.size, 1, none⟩ = some (.int .i64 ia) := by simp [World.cell?, hs0]
  have k2 : W0.cell? ⟨w.heap.size, 2, none⟩ = some (.int .i64 ib) := by simp [World.cell?, hs0]
  have k3 : W0.cell? ⟨w.heap.size, 3, none⟩ = some (.int .i64 ic) := by simp [World.cell?, hs0]
  replace hV := hV.below hb0
  have HB0 := hid hb0
  clear hs0 hb0
  obtain ⟨c0, c1, c2, c3, c4, c5⟩ := hV.cells
  have hpc := hV.fld
  have QP : Hid (∀ nn, (W0.drewN nn).cell? ⟨b, 0, none⟩ = some (.int .i64 p)) := fun nn => hpc
  obtain ⟨br, orr, har, hrw⟩ := hV.rowAt H.hr
  subst har
  have r1 := hrw 1 (by omega)
  have i1 : I64 (zat r 1) := H.fr 1
  have l1 : (1 : Int) < (r.length : Int) := by have := H.hr; omega
  clear hrw
  have q10 : (op == 10) = false := by rw [beq_eq_false_iff_ne]; omega
  have HE : Hid (tvA p r ⟨op, ia, ib, ic⟩ = (zat r 1)) := by unfold Hid; simp [tvA, hno]
  obtain ⟨R, hR⟩ : ∃ R, R = tvA p r ⟨op, ia, ib, ic⟩ := ⟨_, rfl⟩
  rw [← hR] at HE ⊢
  clear hR
  clear i1
  clear HEM H hV
  generalize zat r 1 = x1 at *
  generalize r.length = lr at *
  generalize L.length = nL at *
  subst hW0
  go_enter Tryz.func98, Tryz.ntmps98
  go_wp2_with fail
  go_ret
  exact ⟨by have h := HE.out; subst h; rfl, HB0.out⟩

set_option maxRecDepth 100000 in
set_option maxHeartbeats 2000000 in
theorem vrv_11 (p b V : Nat) (L : List InsZ) (size out : Int) (r n : List Int) (aL : Option Addr) (cL : Nat) (ar : Option Addr) (cr : Nat) (an : Option Addr) (cn : Nat) (w : World) (H : VF p L size out r n) (hV : VW p b V L size out r n aL cL ar cr an cn w) (k : Nat) (ia ib ic : Int) (hi : k < 281474976710656 ∧ I64 ia ∧ I64 ib ∧ I64 ic)  :
    Calls Tryz.prog 99 #[.pointer (some ⟨V, 0, none⟩), .int .i64 (k : Int), .agg #[.int .i64 11, .int .i64 ia, .int .i64 ib, .int .i64 ic]] w fun e w' => e = .returned (.int .i64 (tvR r ⟨11, ia, ib, ic⟩)) ∧ Below w.heap.size w w' := by
  have h3 := H.h3
  have h4 := H.h4
  obtain ⟨hk, hia, hib, hic⟩ := hi
  have HEM : Hid (∀ a : Int, I64 (a % (p : Int))) := fun a => by have := emod_bounds a p H.h3; have := H.h4; unfold I64; omega
  obtain ⟨W0, hW0⟩ : ∃ W0, W0 = w.alloc (.cells #[.int .i64 11, .int .i64 ia, .int .i64 ib, .int .i64 ic] 45) := ⟨_, rfl⟩
  have hb0 : Below w.heap.size w W0 := by rw [hW0]; exact (Below.refl _ _).alloc (Nat.le_refl _) _
  have hs0 : W0.heap[w.heap.size]? = some (.cells #[.int .i64 11, .int .i64 ia, .int .i64 ib, .int .i64 ic] 45 (0, 0)) := by rw [hW0]; exact heap_alloc_new w _
  have k0 : W0.cell? ⟨w.heap.size, 0, none⟩ = some (.int .i64 11) := by simp [World.cell?, hs0]
  have k1 : W0.cell? ⟨w.heap.size, 1, none⟩ = some (.int .i64 ia) := by simp [World.cell?, hs0]
  have k2 : W0.cell? ⟨w.heap.size, 2, none⟩ = some (.int .i64 ib) := by simp [World.cell?, hs0]
  have k3 : W0.cell? ⟨w.heap.size, 3, none⟩ = some (.int .i64 ic) := by simp [World.cell?, hs0]
  replace hV := hV.below hb0
  have HB0 := hid hb0
  clear hs0 hb0
  obtain ⟨c0, c1, c2, c3, c4, c5⟩ := hV.cells
  have hpc := hV.fld
  have QP : Hid (∀ nn, (W0.drewN nn).cell? ⟨b, 0, none⟩ = some (.int .i64 p)) := fun nn => hpc
  obtain ⟨br, orr, har, hrw⟩ := hV.rowAt H.hr
  subst har
  have r9 := hrw 9 (by omega)
  have i9 : I64 (zat r 9) := H.fr 9
  have l9 : (9 : Int) < (r.length : Int) := by have := H.hr; omega
  clear hrw
  have HE : Hid (tvR r ⟨11, ia, ib, ic⟩ = (zat r 9)) := rfl
  obtain ⟨R, hR⟩ : ∃ R, R = tvR r ⟨11, ia, ib, ic⟩ := ⟨_, rfl⟩
  rw [← hR] at HE ⊢
  clear hR
  clear i9
  clear HEM H hV
  generalize zat r 9 = x9 at *
  generalize r.length = lr at *
  generalize L.length = nL at *
  subst hW0
  go_enter Tryz.func99, Tryz.ntmps99
  go_wp2_with fail
  go_ret
  exact ⟨by have h := HE.out; subst h; rfl, HB0.out⟩

set_option maxRecDepth 100000 in
set_option maxHeartbeats 2000000 in
theorem vrv_x (p b V : Nat) (L : List InsZ) (size out : Int) (r n : List Int) (aL : Option Addr) (cL : Nat) (ar : Option Addr) (cr : Nat) (an : Option Addr) (cn : Nat) (w : World) (H : VF p L size out r n) (hV : VW p b V L size out r n aL cL ar cr an cn w) (k : Nat) (ia ib ic : Int) (hi : k < 281474976710656 ∧ I64 ia ∧ I64 ib ∧ I64 ic) (op : Int) (hno : op ≠ 11)  :
    Calls Tryz.prog 99 #[.pointer (some ⟨V, 0, none⟩), .int .i64 (k : Int), .agg #[.int .i64 op, .int .i64 ia, .int .i64 ib, .int .i64 ic]] w fun e w' => e = .returned (.int .i64 (tvR r ⟨op, ia, ib, ic⟩)) ∧ Below w.heap.size w w' := by
  have h3 := H.h3
  have h4 := H.h4
  obtain ⟨hk, hia, hib, hic⟩ := hi
  have HEM : Hid (∀ a : Int, I64 (a % (p : Int))) := fun a => by have := emod_bounds a p H.h3; have := H.h4; unfold I64; omega
  obtain ⟨W0, hW0⟩ : ∃ W0, W0 = w.alloc (.cells #[.int .i64 op, .int .i64 ia, .int .i64 ib, .int .i64 ic] 45) := ⟨_, rfl⟩
  have hb0 : Below w.heap.size w W0 := by rw [hW0]; exact (Below.refl _ _).alloc (Nat.le_refl _) _
  have hs0 : W0.heap[w.heap.size]? = some (.cells #[.int .i64 op, .int .i64 ia, .int .i64 ib, .int .i64 ic] 45 (0, 0)) := by rw [hW0]; exact heap_alloc_new w _
  have k0 : W0.cell? ⟨w.heap.size, 0, none⟩ = some (.int .i64 op) := by simp [World.cell?, hs0]
  have k1 : W0.cell? ⟨w.heap.size, 1, none⟩ = some (.int .i64 ia) := by simp [World.cell?, hs0]
  have k2 : W0.cell? ⟨w.heap.size, 2, none⟩ = some (.int .i64 ib) := by simp [World.cell?, hs0]
  have k3 : W0.cell? ⟨w.heap.size, 3, none⟩ = some (.int .i64 ic) := by simp [World.cell?, hs0]
  replace hV := hV.below hb0
  have HB0 := hid hb0
  clear hs0 hb0
  obtain ⟨c0, c1, c2, c3, c4, c5⟩ := hV.cells
  have hpc := hV.fld
  have QP : Hid (∀ nn, (W0.drewN nn).cell? ⟨b, 0, none⟩ = some (.int .i64 p)) := fun nn => hpc
  obtain ⟨br, orr, har, hrw⟩ := hV.rowAt H.hr
  subst har
  have r2 := hrw 2 (by omega)
  have i2 : I64 (zat r 2) := H.fr 2
  have l2 : (2 : Int) < (r.length : Int) := by have := H.hr; omega
  clear hrw
  have q11 : (op == 11) = false := by rw [beq_eq_false_iff_ne]; omega
  have HE : Hid (tvR r ⟨op, ia, ib, ic⟩ = (zat r 2)) := by unfold Hid; simp [tvR, hno]
  obtain ⟨R, hR⟩ : ∃ R, R = tvR r ⟨op, ia, ib, ic⟩ := ⟨_, rfl⟩
  rw [← hR] at HE ⊢
  clear hR
  clear i2
  clear HEM H hV
  generalize zat r 2 = x2 at *
  generalize r.length = lr at *
  generalize L.length = nL at *
  subst hW0
  go_enter Tryz.func99, Tryz.ntmps99
  go_wp2_with fail
  go_ret
  exact ⟨by have h := HE.out; subst h; rfl, HB0.out⟩

set_option maxRecDepth 100000 in
set_option maxHeartbeats 2000000 in
theorem vhalts_0 (p b V : Nat) (L : List InsZ) (size out : Int) (r n : List Int) (aL : Option Addr) (cL : Nat) (ar : Option Addr) (cr : Nat) (an : Option Addr) (cn : Nat) (w : World) (H : VF p L size out r n) (hV : VW p b V L size out r n aL cL ar cr an cn w) (k : Nat) (ia ib ic : Int) (hi : k < 281474976710656 ∧ I64 ia ∧ I64 ib ∧ I64 ic)  :
    Calls Tryz.prog 100 #[.pointer (some ⟨V, 0, none⟩), .int .i64 (k : Int), .agg #[.int .i64 0, .int .i64 ia, .int .i64 ib, .int .i64 ic]] w fun e w' => e = .returned (.int .i64 (tvH ⟨0, ia, ib, ic⟩)) ∧ Below w.heap.size w w' := by
  have h3 := H.h3
  have h4 := H.h4
  obtain ⟨hk, hia, hib, hic⟩ := hi
  have HEM : Hid (∀ a : Int, I64 (a % (p : Int))) := fun a => by have := emod_bounds a p H.h3; have := H.h4; unfold I64; omega
  obtain ⟨W0, hW0⟩ : ∃ W0, W0 = w.alloc (.cells #[.int .i64 0, .int .i64 ia, .int .i64 ib, .int .i64 ic] 45) := ⟨_, rfl⟩
  have hb0 : Below w.heap.size w W0 := by rw [hW0]; exact (Below.refl _ _).alloc (Nat.le_refl _) _
  have hs0 : W0.heap[w.heap.size]? = some (.cells #[.int .i64 0, .int .i64 ia, .int .i64 ib, .int .i64 ic] 45 (0, 0)) := by rw [hW0]; exact heap_alloc_new w _
  have k0 : W0.cell? ⟨w.heap.size, 0, none⟩ = some (.int .i64 0) := by simp [World.cell?, hs0]
  have k1 : W0.cell? ⟨w.heap.size, 1, none⟩ = some (.int .i64 ia) := by simp [World.cell?, hs0]
  have k2 : W0.cell? ⟨w.heap.size, 2, none⟩ = some (.int .i64 ib) := by simp [World.cell?, hs0]
  have k3 : W0.cell? ⟨w.heap.size, 3, none⟩ = some (.int .i64 ic) := by simp [World.cell?, hs0]
  replace hV := hV.below hb0
  have HB0 := hid hb0
  clear hs0 hb0
  obtain ⟨c0, c1, c2, c3, c4, c5⟩ := hV.cells
  have hpc := hV.fld
  have QP : Hid (∀ nn, (W0.drewN nn).cell? ⟨b, 0, none⟩ = some (.int .i64 p)) := fun nn => hpc
  have HE : Hid (tvH ⟨0, ia, ib, ic⟩ = 1) := rfl
  obtain ⟨R, hR⟩ : ∃ R, R = tvH ⟨0, ia, ib, ic⟩ := ⟨_, rfl⟩
  rw [← hR] at HE ⊢
  clear hR
  clear HEM H hV
  generalize L.length = nL at *
  subst hW0
  go_enter Tryz.func100, Tryz.ntmps100
  go_wp2_with fail
  go_ret
  exact ⟨by have h := HE.out; subst h; rfl, HB0.out⟩

set_option maxRecDepth 100000 in
set_option maxHeartbeats 2000000 in
theorem vhalts_x (p b V : Nat) (L : List InsZ) (size out : Int) (r n : List Int) (aL : Option Addr) (cL : Nat) (ar : Option Addr) (cr : Nat) (an : Option Addr) (cn : Nat) (w : World) (H : VF p L size out r n) (hV : VW p b V L size out r n aL cL ar cr an cn w) (k : Nat) (ia ib ic : Int) (hi : k < 281474976710656 ∧ I64 ia ∧ I64 ib ∧ I64 ic) (op : Int) (hno : op ≠ 0)  :
    Calls Tryz.prog 100 #[.pointer (some ⟨V, 0, none⟩), .int .i64 (k : Int), .agg #[.int .i64 op, .int .i64 ia, .int .i64 ib, .int .i64 ic]] w fun e w' => e = .returned (.int .i64 (tvH ⟨op, ia, ib, ic⟩)) ∧ Below w.heap.size w w' := by
  have h3 := H.h3
  have h4 := H.h4
  obtain ⟨hk, hia, hib, hic⟩ := hi
  have HEM : Hid (∀ a : Int, I64 (a % (p : Int))) := fun a => by have := emod_bounds a p H.h3; have := H.h4; unfold I64; omega
  obtain ⟨W0, hW0⟩ : ∃ W0, W0 = w.alloc (.cells #[.int .i64 op, .int .i64 ia, .int .i64 ib, .int .i64 ic] 45) := ⟨_, rfl⟩
  have hb0 : Below w.heap.size w W0 := by rw [hW0]; exact (Below.refl _ _).alloc (Nat.le_refl _) _
  have hs0 : W0.heap[w.heap.size]? = some (.cells #[.int .i64 op, .int .i64 ia, .int .i64 ib, .int .i64 ic] 45 (0, 0)) := by rw [hW0]; exact heap_alloc_new w _
  have k0 : W0.cell? ⟨w.heap.size, 0, none⟩ = some (.int .i64 op) := by simp [World.cell?, hs0]
  have k1 : W0.cell? ⟨w.heap.size, 1, none⟩ = some (.int .i64 ia) := by simp [World.cell?, hs0]
  have k2 : W0.cell? ⟨w.heap.size, 2, none⟩ = some (.int .i64 ib) := by simp [World.cell?, hs0]
  have k3 : W0.cell? ⟨w.heap.size, 3, none⟩ = some (.int .i64 ic) := by simp [World.cell?, hs0]
  replace hV := hV.below hb0
  have HB0 := hid hb0
  clear hs0 hb0
  obtain ⟨c0, c1, c2, c3, c4, c5⟩ := hV.cells
  have hpc := hV.fld
  have QP : Hid (∀ nn, (W0.drewN nn).cell? ⟨b, 0, none⟩ = some (.int .i64 p)) := fun nn => hpc
  have q0 : (op == 0) = false := by rw [beq_eq_false_iff_ne]; omega
  have HE : Hid (tvH ⟨op, ia, ib, ic⟩ = 0) := by unfold Hid; simp [tvH, hno]
  obtain ⟨R, hR⟩ : ∃ R, R = tvH ⟨op, ia, ib, ic⟩ := ⟨_, rfl⟩
  rw [← hR] at HE ⊢
  clear hR
  clear HEM H hV
  generalize L.length = nL at *
  subst hW0
  go_enter Tryz.func100, Tryz.ntmps100
  go_wp2_with fail
  go_ret
  exact ⟨by have h := HE.out; subst h; rfl, HB0.out⟩

set_option maxRecDepth 100000 in
set_option maxHeartbeats 2000000 in
theorem vonce_any (p b V : Nat) (L : List InsZ) (size out : Int) (r n : List Int) (aL : Option Addr) (cL : Nat) (ar : Option Addr) (cr : Nat) (an : Option Addr) (cn : Nat) (w : World) (H : VF p L size out r n) (hV : VW p b V L size out r n aL cL ar cr an cn w) (k : Nat) (ia ib ic : Int) (hi : k < 281474976710656 ∧ I64 ia ∧ I64 ib ∧ I64 ic) (op : Int)  :
    Calls Tryz.prog 89 #[.pointer (some ⟨V, 0, none⟩), .int .i64 (k : Int), .agg #[.int .i64 op, .int .i64 ia, .int .i64 ib, .int .i64 ic]] w fun e w' => e = .returned (.int .i64 ((1 : Int))) ∧ Below w.heap.size w w' := by
  have h3 := H.h3
  have h4 := H.h4
  obtain ⟨hk, hia, hib, hic⟩ := hi
  have HEM : Hid (∀ a : Int, I64 (a % (p : Int))) := fun a => by have := emod_bounds a p H.h3; have := H.h4; unfold I64; omega
  obtain ⟨W0, hW0⟩ : ∃ W0, W0 = w.alloc (.cells #[.int .i64 op, .int .i64 ia, .int .i64 ib, .int .i64 ic] 45) := ⟨_, rfl⟩
  have hb0 : Below w.heap.size w W0 := by rw [hW0]; exact (Below.refl _ _).alloc (Nat.le_refl _) _
  have hs0 : W0.heap[w.heap.size]? = some (.cells #[.int .i64 op, .int .i64 ia, .int .i64 ib, .int .i64 ic] 45 (0, 0)) := by rw [hW0]; exact heap_alloc_new w _
  have k0 : W0.cell? ⟨w.heap.size, 0, none⟩ = some (.int .i64 op) := by simp [World.cell?, hs0]
  have k1 : W0.cell? ⟨w.heap.size, 1, none⟩ = some (.int .i64 ia) := by simp [World.cell?, hs0]
  have k2 : W0.cell? ⟨w.heap.size, 2, none⟩ = some (.int .i64 ib) := by simp [World.cell?, hs0]
  have k3 : W0.cell? ⟨w.heap.size, 3, none⟩ = some (.int .i64 ic) := by simp [World.cell?, hs0]
  replace hV := hV.below hb0
  have HB0 := hid hb0
  clear hs0 hb0
  obtain ⟨c0, c1, c2, c3, c4, c5⟩ := hV.cells
  have hpc := hV.fld
  have QP : Hid (∀ nn, (W0.drewN nn).cell? ⟨b, 0, none⟩ = some (.int .i64 p)) := fun nn => hpc
  clear HEM H hV
  generalize L.length = nL at *
  subst hW0
  go_enter Tryz.func89, Tryz.ntmps89
  go_wp2_with fail
  go_ret
  exact ⟨rfl, HB0.out⟩

set_option maxRecDepth 100000 in
set_option maxHeartbeats 2000000 in
theorem vnumber_any (p b V : Nat) (L : List InsZ) (size out : Int) (r n : List Int) (aL : Option Addr) (cL : Nat) (ar : Option Addr) (cr : Nat) (an : Option Addr) (cn : Nat) (w : World) (H : VF p L size out r n) (hV : VW p b V L size out r n aL cL ar cr an cn w) (k : Nat) (ia ib ic : Int) (hi : k < 281474976710656 ∧ I64 ia ∧ I64 ib ∧ I64 ic) (op : Int)  :
    Calls Tryz.prog 95 #[.pointer (some ⟨V, 0, none⟩), .int .i64 (k : Int), .agg #[.int .i64 op, .int .i64 ia, .int .i64 ib, .int .i64 ic]] w fun e w' => e = .returned (.int .i64 ((k : Int))) ∧ Below w.heap.size w w' := by
  have h3 := H.h3
  have h4 := H.h4
  obtain ⟨hk, hia, hib, hic⟩ := hi
  have HEM : Hid (∀ a : Int, I64 (a % (p : Int))) := fun a => by have := emod_bounds a p H.h3; have := H.h4; unfold I64; omega
  obtain ⟨W0, hW0⟩ : ∃ W0, W0 = w.alloc (.cells #[.int .i64 op, .int .i64 ia, .int .i64 ib, .int .i64 ic] 45) := ⟨_, rfl⟩
  have hb0 : Below w.heap.size w W0 := by rw [hW0]; exact (Below.refl _ _).alloc (Nat.le_refl _) _
  have hs0 : W0.heap[w.heap.size]? = some (.cells #[.int .i64 op, .int .i64 ia, .int .i64 ib, .int .i64 ic] 45 (0, 0)) := by rw [hW0]; exact heap_alloc_new w _
  have k0 : W0.cell? ⟨w.heap.size, 0, none⟩ = some (.int .i64 op) := by simp [World.cell?, hs0]
  have k1 : W0.cell? ⟨w.heap.size, 1, none⟩ = some (.int .i64 ia) := by simp [World.cell?, hs0]
  have k2 : W0.cell? ⟨w.heap.size, 2, none⟩ = some (.int .i64 ib) := by simp [World.cell?, hs0]
  have k3 : W0.cell? ⟨w.heap.size, 3, none⟩ = some (.int .i64 ic) := by simp [World.cell?, hs0]
  replace hV := hV.below hb0
  have HB0 := hid hb0
  clear hs0 hb0
  obtain ⟨c0, c1, c2, c3, c4, c5⟩ := hV.cells
  have hpc := hV.fld
  have QP : Hid (∀ nn, (W0.drewN nn).cell? ⟨b, 0, none⟩ = some (.int .i64 p)) := fun nn => hpc
  clear HEM H hV
  generalize L.length = nL at *
  subst hW0
  go_enter Tryz.func95, Tryz.ntmps95
  go_wp2_with fail
  go_ret
  exact ⟨rfl, HB0.out⟩

end Go.Proofs.YtdpdmgmeieijaaaGreatDoor
