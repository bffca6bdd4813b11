/- The reference: the cells of an instruction. -/
import Derived.Test.YtaibngnabhmabajDoorBbAI
namespace Go.Proofs.YtaibngnabhmabajDoor
open Go.RowKit Go.Maps

set_option maxRecDepth 100000 in
set_option maxHeartbeats 2000000 in
theorem wcell0_0 (p V : Nat) (L : List InsZ) (size out : Int) (r n : List Int) (aL : Option Addr) (cL : Nat) (ar : Option Addr) (cr : Nat) (an : Option Addr) (cn : Nat) (w : World) (H : VF p L size out r n) (hV : WW p V L size out r n aL cL ar cr an cn w) (ia ib ic : Int) (hi : I64 ia ∧ I64 ib ∧ I64 ic) :
    Calls Tryd.prog 45 #[.pointer (some ⟨V, 0, none⟩), .agg #[.int .i64 0, .int .i64 ia, .int .i64 ib, .int .i64 ic], .int .i64 0] w fun e w' => e = .returned (.int .i64 (tvC p r 0 ⟨0, ia, ib, ic⟩)) ∧ Below w.heap.size w w' := by
  have h3 := H.h3
  have h4 := H.h4
  have HEM : Hid (∀ a : Int, I64 (a % (p : Int))) := fun a => by have := emod_bounds a p H.h3; have := H.h4; unfold I64; omega
  obtain ⟨hia, hib, hic⟩ := hi
  obtain ⟨W0, hW0⟩ : ∃ W0, W0 = w.alloc (.cells #[.int .i64 0, .int .i64 ia, .int .i64 ib, .int .i64 ic] 83) := ⟨_, rfl⟩
  have hb0 : Below w.heap.size w W0 := by rw [hW0]; exact (Below.refl _ _).alloc (Nat.le_refl _) _
  replace hV := hV.below hb0
  have HB0 := hid hb0
  clear hb0
  obtain ⟨c0, c1, c2, c3, c4, c5⟩ := hV.cells
  have QP : Hid (∀ nn, (W0.drewN nn).cell? ⟨V, 0, none⟩ = some (.int .i64 p)) := fun nn => c0
  obtain ⟨br, orr, har, hrw⟩ := rowB_at hV.row H.hr
  subst har
  have r0 := hrw 0 (by omega)
  rw [Nat.add_zero] at r0
  have i0 : I64 (zat r 0) := H.fr 0
  have l0 : (0 : Int) < (r.length : Int) := by have := H.hr; omega
  have l0' : 0 < r.length := by have := H.hr; omega
  have r1 := hrw 1 (by omega)
  have i1 : I64 (zat r 1) := H.fr 1
  have l1 : (1 : Int) < (r.length : Int) := by have := H.hr; omega
  have l1' : 1 < r.length := by have := H.hr; omega
  clear hrw
  have HE : Hid (tvC p r 0 ⟨0, ia, ib, ic⟩ = (((zat r 0) + ia) % (p : Int))) := by
    unfold Hid
    rw [show tvC p r 0 ⟨0, ia, ib, ic⟩ = (zat r 0 + ia) % (p : Int) from rfl]
  obtain ⟨R, hR⟩ : ∃ R, R = tvC p r 0 ⟨0, ia, ib, ic⟩ := ⟨_, rfl⟩
  rw [← hR] at HE ⊢
  clear hR
  have HC0 : Hid (∀ W : World, W.cell? ⟨V, 0, none⟩ = some (.int .i64 p) → Calls Tryd.prog 25 #[.pointer (some ⟨V, 0, none⟩), .int .i64 (zat r 0), .int .i64 ia] W fun e w' => e = .returned (.int .i64 (((zat r 0) + ia) % (p : Int))) ∧ w' = W) := fun W h => wadd_any p V _ _ W h3 h4 h i0 hia
  clear i0 i1
  clear HEM H hV
  generalize (((zat r 0) + ia) % (p : Int)) = t1 at *
  generalize zat r 0 = x0 at *
  generalize zat r 1 = x1 at *
  generalize r.length = lr at *
  generalize L.length = nL at *
  subst hW0
  go_enter Tryd.func45, Tryd.ntmps45
  go_wp2_with fail
  refine (HC0.out _ c0).mono ?_
  rintro e w' ⟨rfl, hw'⟩
  have hw'' := hw'.symm
  subst hw''
  clear hw'
  go_wp2_with fail
  go_ret
  exact ⟨by have h := HE.out; subst h; rfl, HB0.out⟩

set_option maxRecDepth 100000 in
set_option maxHeartbeats 2000000 in
theorem wcell0_1 (p V : Nat) (L : List InsZ) (size out : Int) (r n : List Int) (aL : Option Addr) (cL : Nat) (ar : Option Addr) (cr : Nat) (an : Option Addr) (cn : Nat) (w : World) (H : VF p L size out r n) (hV : WW p V L size out r n aL cL ar cr an cn w) (ia ib ic : Int) (hi : I64 ia ∧ I64 ib ∧ I64 ic) :
    Calls Tryd.prog 45 #[.pointer (some ⟨V, 0, none⟩), .agg #[.int .i64 1, .int .i64 ia, .int .i64 ib, .int .i64 ic], .int .i64 0] w fun e w' => e = .returned (.int .i64 (tvC p r 0 ⟨1, ia, ib, ic⟩)) ∧ Below w.heap.size w w' := by
  have h3 := H.h3
  have h4 := H.h4
  have HEM : Hid (∀ a : Int, I64 (a % (p : Int))) := fun a => by have := emod_bounds a p H.h3; have := H.h4; unfold I64; omega
  obtain ⟨hia, hib, hic⟩ := hi
  obtain ⟨W0, hW0⟩ : ∃ W0, W0 = w.alloc (.cells #[.int .i64 1, .int .i64 ia, .int .i64 ib, .int .i64 ic] 83) := ⟨_, rfl⟩
  have hb0 : Below w.heap.size w W0 := by rw [hW0]; exact (Below.refl _ _).alloc (Nat.le_refl _) _
  replace hV := hV.below hb0
  have HB0 := hid hb0
  clear hb0
  obtain ⟨c0, c1, c2, c3, c4, c5⟩ := hV.cells
  have QP : Hid (∀ nn, (W0.drewN nn).cell? ⟨V, 0, none⟩ = some (.int .i64 p)) := fun nn => c0
  obtain ⟨br, orr, har, hrw⟩ := rowB_at hV.row H.hr
  subst har
  have r0 := hrw 0 (by omega)
  rw [Nat.add_zero] at r0
  have i0 : I64 (zat r 0) := H.fr 0
  have l0 : (0 : Int) < (r.length : Int) := by have := H.hr; omega
  have l0' : 0 < r.length := by have := H.hr; omega
  have r1 := hrw 1 (by omega)
  have i1 : I64 (zat r 1) := H.fr 1
  have l1 : (1 : Int) < (r.length : Int) := by have := H.hr; omega
  have l1' : 1 < r.length := by have := H.hr; omega
  clear hrw
  have HE : Hid (tvC p r 0 ⟨1, ia, ib, ic⟩ = (((zat r 0) + ia) % (p : Int))) := by
    unfold Hid
    rw [show tvC p r 0 ⟨1, ia, ib, ic⟩ = (zat r 0 + ia) % (p : Int) from rfl]
  obtain ⟨R, hR⟩ : ∃ R, R = tvC p r 0 ⟨1, ia, ib, ic⟩ := ⟨_, rfl⟩
  rw [← hR] at HE ⊢
  clear hR
  have HC0 : Hid (∀ W : World, W.cell? ⟨V, 0, none⟩ = some (.int .i64 p) → Calls Tryd.prog 25 #[.pointer (some ⟨V, 0, none⟩), .int .i64 (zat r 0), .int .i64 ia] W fun e w' => e = .returned (.int .i64 (((zat r 0) + ia) % (p : Int))) ∧ w' = W) := fun W h => wadd_any p V _ _ W h3 h4 h i0 hia
  clear i0 i1
  clear HEM H hV
  generalize (((zat r 0) + ia) % (p : Int)) = t1 at *
  generalize zat r 0 = x0 at *
  generalize zat r 1 = x1 at *
  generalize r.length = lr at *
  generalize L.length = nL at *
  subst hW0
  go_enter Tryd.func45, Tryd.ntmps45
  go_wp2_with fail
  refine (HC0.out _ c0).mono ?_
  rintro e w' ⟨rfl, hw'⟩
  have hw'' := hw'.symm
  subst hw''
  clear hw'
  go_wp2_with fail
  go_ret
  exact ⟨by have h := HE.out; subst h; rfl, HB0.out⟩

set_option maxRecDepth 100000 in
set_option maxHeartbeats 2000000 in
theorem wcell0_2 (p V : Nat) (L : List InsZ) (size out : Int) (r n : List Int) (aL : Option Addr) (cL : Nat) (ar : Option Addr) (cr : Nat) (an : Option Addr) (cn : Nat) (w : World) (H : VF p L size out r n) (hV : WW p V L size out r n aL cL ar cr an cn w) (ia ib ic : Int) (hi : I64 ia ∧ I64 ib ∧ I64 ic) :
    Calls Tryd.prog 45 #[.pointer (some ⟨V, 0, none⟩), .agg #[.int .i64 2, .int .i64 ia, .int .i64 ib, .int .i64 ic], .int .i64 0] w fun e w' => e = .returned (.int .i64 (tvC p r 0 ⟨2, ia, ib, ic⟩)) ∧ Below w.heap.size w w' := by
  have h3 := H.h3
  have h4 := H.h4
  have HEM : Hid (∀ a : Int, I64 (a % (p : Int))) := fun a => by have := emod_bounds a p H.h3; have := H.h4; unfold I64; omega
  obtain ⟨hia, hib, hic⟩ := hi
  obtain ⟨W0, hW0⟩ : ∃ W0, W0 = w.alloc (.cells #[.int .i64 2, .int .i64 ia, .int .i64 ib, .int .i64 ic] 83) := ⟨_, rfl⟩
  have hb0 : Below w.heap.size w W0 := by rw [hW0]; exact (Below.refl _ _).alloc (Nat.le_refl _) _
  replace hV := hV.below hb0
  have HB0 := hid hb0
  clear hb0
  obtain ⟨c0, c1, c2, c3, c4, c5⟩ := hV.cells
  have QP : Hid (∀ nn, (W0.drewN nn).cell? ⟨V, 0, none⟩ = some (.int .i64 p)) := fun nn => c0
  obtain ⟨br, orr, har, hrw⟩ := rowB_at hV.row H.hr
  subst har
  have r0 := hrw 0 (by omega)
  rw [Nat.add_zero] at r0
  have i0 : I64 (zat r 0) := H.fr 0
  have l0 : (0 : Int) < (r.length : Int) := by have := H.hr; omega
  have l0' : 0 < r.length := by have := H.hr; omega
  have r1 := hrw 1 (by omega)
  have i1 : I64 (zat r 1) := H.fr 1
  have l1 : (1 : Int) < (r.length : Int) := by have := H.hr; omega
  have l1' : 1 < r.length := by have := H.hr; omega
  clear hrw
  have HE : Hid (tvC p r 0 ⟨2, ia, ib, ic⟩ = (((zat r 0) + ia) % (p : Int))) := by
    unfold Hid
    rw [show tvC p r 0 ⟨2, ia, ib, ic⟩ = (zat r 0 + ia) % (p : Int) from rfl]
  obtain ⟨R, hR⟩ : ∃ R, R = tvC p r 0 ⟨2, ia, ib, ic⟩ := ⟨_, rfl⟩
  rw [← hR] at HE ⊢
  clear hR
  have HC0 : Hid (∀ W : World, W.cell? ⟨V, 0, none⟩ = some (.int .i64 p) → Calls Tryd.prog 25 #[.pointer (some ⟨V, 0, none⟩), .int .i64 (zat r 0), .int .i64 ia] W fun e w' => e = .returned (.int .i64 (((zat r 0) + ia) % (p : Int))) ∧ w' = W) := fun W h => wadd_any p V _ _ W h3 h4 h i0 hia
  clear i0 i1
  clear HEM H hV
  generalize (((zat r 0) + ia) % (p : Int)) = t1 at *
  generalize zat r 0 = x0 at *
  generalize zat r 1 = x1 at *
  generalize r.length = lr at *
  generalize L.length = nL at *
  subst hW0
  go_enter Tryd.func45, Tryd.ntmps45
  go_wp2_with fail
  refine (HC0.out _ c0).mono ?_
  rintro e w' ⟨rfl, hw'⟩
  have hw'' := hw'.symm
  subst hw''
  clear hw'
  go_wp2_with fail
  go_ret
  exact ⟨by have h := HE.out; subst h; rfl, HB0.out⟩

set_option maxRecDepth 100000 in
set_option maxHeartbeats 2000000 in
theorem wcell0_3 (p V : Nat) (L : List InsZ) (size out : Int) (r n : List Int) (aL : Option Addr) (cL : Nat) (ar : Option Addr) (cr : Nat) (an : Option Addr) (cn : Nat) (w : World) (H : VF p L size out r n) (hV : WW p V L size out r n aL cL ar cr an cn w) (ia ib ic : Int) (hi : I64 ia ∧ I64 ib ∧ I64 ic) :
    Calls Tryd.prog 45 #[.pointer (some ⟨V, 0, none⟩), .agg #[.int .i64 3, .int .i64 ia, .int .i64 ib, .int .i64 ic], .int .i64 0] w fun e w' => e = .returned (.int .i64 (tvC p r 0 ⟨3, ia, ib, ic⟩)) ∧ Below w.heap.size w w' := by
  have h3 := H.h3
  have h4 := H.h4
  have HEM : Hid (∀ a : Int, I64 (a % (p : Int))) := fun a => by have := emod_bounds a p H.h3; have := H.h4; unfold I64; omega
  obtain ⟨hia, hib, hic⟩ := hi
  obtain ⟨W0, hW0⟩ : ∃ W0, W0 = w.alloc (.cells #[.int .i64 3, .int .i64 ia, .int .i64 ib, .int .i64 ic] 83) := ⟨_, rfl⟩
  have hb0 : Below w.heap.size w W0 := by rw [hW0]; exact (Below.refl _ _).alloc (Nat.le_refl _) _
  replace hV := hV.below hb0
  have HB0 := hid hb0
  clear hb0
  obtain ⟨c0, c1, c2, c3, c4, c5⟩ := hV.cells
  have QP : Hid (∀ nn, (W0.drewN nn).cell? ⟨V, 0, none⟩ = some (.int .i64 p)) := fun nn => c0
  obtain ⟨br, orr, har, hrw⟩ := rowB_at hV.row H.hr
  subst har
  have r0 := hrw 0 (by omega)
  rw [Nat.add_zero] at r0
  have i0 : I64 (zat r 0) := H.fr 0
  have l0 : (0 : Int) < (r.length : Int) := by have := H.hr; omega
  have l0' : 0 < r.length := by have := H.hr; omega
  have r1 := hrw 1 (by omega)
  have i1 : I64 (zat r 1) := H.fr 1
  have l1 : (1 : Int) < (r.length : Int) := by have := H.hr; omega
  have l1' : 1 < r.length := by have := H.hr; omega
  clear hrw
  have HE : Hid (tvC p r 0 ⟨3, ia, ib, ic⟩ = (((zat r 0) + ia) % (p : Int))) := by
    unfold Hid
    rw [show tvC p r 0 ⟨3, ia, ib, ic⟩ = (zat r 0 + ia) % (p : Int) from rfl]
  obtain ⟨R, hR⟩ : ∃ R, R = tvC p r 0 ⟨3, ia, ib, ic⟩ := ⟨_, rfl⟩
  rw [← hR] at HE ⊢
  clear hR
  have HC0 : Hid (∀ W : World, W.cell? ⟨V, 0, none⟩ = some (.int .i64 p) → Calls Tryd.prog 25 #[.pointer (some ⟨V, 0, none⟩), .int .i64 (zat r 0), .int .i64 ia] W fun e w' => e = .returned (.int .i64 (((zat r 0) + ia) % (p : Int))) ∧ w' = W) := fun W h => wadd_any p V _ _ W h3 h4 h i0 hia
  clear i0 i1
  clear HEM H hV
  generalize (((zat r 0) + ia) % (p : Int)) = t1 at *
  generalize zat r 0 = x0 at *
  generalize zat r 1 = x1 at *
  generalize r.length = lr at *
  generalize L.length = nL at *
  subst hW0
  go_enter Tryd.func45, Tryd.ntmps45
  go_wp2_with fail
  refine (HC0.out _ c0).mono ?_
  rintro e w' ⟨rfl, hw'⟩
  have hw'' := hw'.symm
  subst hw''
  clear hw'
  go_wp2_with fail
  go_ret
  exact ⟨by have h := HE.out; subst h; rfl, HB0.out⟩

set_option maxRecDepth 100000 in
set_option maxHeartbeats 2000000 in
theorem wcell0_4 (p V : Nat) (L : List InsZ) (size out : Int) (r n : List Int) (aL : Option Addr) (cL : Nat) (ar : Option Addr) (cr : Nat) (an : Option Addr) (cn : Nat) (w : World) (H : VF p L size out r n) (hV : WW p V L size out r n aL cL ar cr an cn w) (ia ib ic : Int) (hi : I64 ia ∧ I64 ib ∧ I64 ic) :
    Calls Tryd.prog 45 #[.pointer (some ⟨V, 0, none⟩), .agg #[.int .i64 4, .int .i64 ia, .int .i64 ib, .int .i64 ic], .int .i64 0] w fun e w' => e = .returned (.int .i64 (tvC p r 0 ⟨4, ia, ib, ic⟩)) ∧ Below w.heap.size w w' := by
  have h3 := H.h3
  have h4 := H.h4
  have HEM : Hid (∀ a : Int, I64 (a % (p : Int))) := fun a => by have := emod_bounds a p H.h3; have := H.h4; unfold I64; omega
  obtain ⟨hia, hib, hic⟩ := hi
  obtain ⟨W0, hW0⟩ : ∃ W0, W0 = w.alloc (.cells #[.int .i64 4, .int .i64 ia, .int .i64 ib, .int .i64 ic] 83) := ⟨_, rfl⟩
  have hb0 : Below w.heap.size w W0 := by rw [hW0]; exact (Below.refl _ _).alloc (Nat.le_refl _) _
  replace hV := hV.below hb0
  have HB0 := hid hb0
  clear hb0
  obtain ⟨c0, c1, c2, c3, c4, c5⟩ := hV.cells
  have QP : Hid (∀ nn, (W0.drewN nn).cell? ⟨V, 0, none⟩ = some (.int .i64 p)) := fun nn => c0
  obtain ⟨br, orr, har, hrw⟩ := rowB_at hV.row H.hr
  subst har
  have r0 := hrw 0 (by omega)
  rw [Nat.add_zero] at r0
  have i0 : I64 (zat r 0) := H.fr 0
  have l0 : (0 : Int) < (r.length : Int) := by have := H.hr; omega
  have l0' : 0 < r.length := by have := H.hr; omega
  have r1 := hrw 1 (by omega)
  have i1 : I64 (zat r 1) := H.fr 1
  have l1 : (1 : Int) < (r.length : Int) := by have := H.hr; omega
  have l1' : 1 < r.length := by have := H.hr; omega
  clear hrw
  have HE : Hid (tvC p r 0 ⟨4, ia, ib, ic⟩ = (((zat r 0) + ia) % (p : Int))) := by
    unfold Hid
    rw [show tvC p r 0 ⟨4, ia, ib, ic⟩ = (zat r 0 + ia) % (p : Int) from rfl]
  obtain ⟨R, hR⟩ : ∃ R, R = tvC p r 0 ⟨4, ia, ib, ic⟩ := ⟨_, rfl⟩
  rw [← hR] at HE ⊢
  clear hR
  have HC0 : Hid (∀ W : World, W.cell? ⟨V, 0, none⟩ = some (.int .i64 p) → Calls Tryd.prog 25 #[.pointer (some ⟨V, 0, none⟩), .int .i64 (zat r 0), .int .i64 ia] W fun e w' => e = .returned (.int .i64 (((zat r 0) + ia) % (p : Int))) ∧ w' = W) := fun W h => wadd_any p V _ _ W h3 h4 h i0 hia
  clear i0 i1
  clear HEM H hV
  generalize (((zat r 0) + ia) % (p : Int)) = t1 at *
  generalize zat r 0 = x0 at *
  generalize zat r 1 = x1 at *
  generalize r.length = lr at *
  generalize L.length = nL at *
  subst hW0
  go_enter Tryd.func45, Tryd.ntmps45
  go_wp2_with fail
  refine (HC0.out _ c0).mono ?_
  rintro e w' ⟨rfl, hw'⟩
  have hw'' := hw'.symm
  subst hw''
  clear hw'
  go_wp2_with fail
  go_ret
  exact ⟨by have h := HE.out; subst h; rfl, HB0.out⟩

set_option maxRecDepth 100000 in
set_option maxHeartbeats 2000000 in
theorem wcell0_5 (p V : Nat) (L : List InsZ) (size out : Int) (r n : List Int) (aL : Option Addr) (cL : Nat) (ar : Option Addr) (cr : Nat) (an : Option Addr) (cn : Nat) (w : World) (H : VF p L size out r n) (hV : WW p V L size out r n aL cL ar cr an cn w) (ia ib ic : Int) (hi : I64 ia ∧ I64 ib ∧ I64 ic) :
    Calls Tryd.prog 45 #[.pointer (some ⟨V, 0, none⟩), .agg #[.int .i64 5, .int .i64 ia, .int .i64 ib, .int .i64 ic], .int .i64 0] w fun e w' => e = .returned (.int .i64 (tvC p r 0 ⟨5, ia, ib, ic⟩)) ∧ Below w.heap.size w w' := by
  have h3 := H.h3
  have h4 := H.h4
  have HEM : Hid (∀ a : Int, I64 (a % (p : Int))) := fun a => by have := emod_bounds a p H.h3; have := H.h4; unfold I64; omega
  obtain ⟨hia, hib, hic⟩ := hi
  obtain ⟨W0, hW0⟩ : ∃ W0, W0 = w.alloc (.cells #[.int .i64 5, .int .i64 ia, .int .i64 ib, .int .i64 ic] 83) := ⟨_, rfl⟩
  have hb0 : Below w.heap.size w W0 := by rw [hW0]; exact (Below.refl _ _).alloc (Nat.le_refl _) _
  replace hV := hV.below hb0
  have HB0 := hid hb0
  clear hb0
  obtain ⟨c0, c1, c2, c3, c4, c5⟩ := hV.cells
  have QP : Hid (∀ nn, (W0.drewN nn).cell? ⟨V, 0, none⟩ = some (.int .i64 p)) := fun nn => c0
  obtain ⟨br, orr, har, hrw⟩ := rowB_at hV.row H.hr
  subst har
  have r0 := hrw 0 (by omega)
  rw [Nat.add_zero] at r0
  have i0 : I64 (zat r 0) := H.fr 0
  have l0 : (0 : Int) < (r.length : Int) := by have := H.hr; omega
  have l0' : 0 < r.length := by have := H.hr; omega
  have r1 := hrw 1 (by omega)
  have i1 : I64 (zat r 1) := H.fr 1
  have l1 : (1 : Int) < (r.length : Int) := by have := H.hr; omega
  have l1' : 1 < r.length := by have := H.hr; omega
  clear hrw
  have HE : Hid (tvC p r 0 ⟨5, ia, ib, ic⟩ = (((zat r 0) + ia) % (p : Int))) := by
    unfold Hid
    rw [show tvC p r 0 ⟨5, ia, ib, ic⟩ = (zat r 0 + ia) % (p : Int) from rfl]
  obtain ⟨R, hR⟩ : ∃ R, R = tvC p r 0 ⟨5, ia, ib, ic⟩ := ⟨_, rfl⟩
  rw [← hR] at HE ⊢
  clear hR
  have HC0 : Hid (∀ W : World, W.cell? ⟨V, 0, none⟩ = some (.int .i64 p) → Calls Tryd.prog 25 #[.pointer (some ⟨V, 0, none⟩), .int .i64 (zat r 0), .int .i64 ia] W fun e w' => e = .returned (.int .i64 (((zat r 0) + ia) % (p : Int))) ∧ w' = W) := fun W h => wadd_any p V _ _ W h3 h4 h i0 hia
  clear i0 i1
  clear HEM H hV
  generalize (((zat r 0) + ia) % (p : Int)) = t1 at *
  generalize zat r 0 = x0 at *
  generalize zat r 1 = x1 at *
  generalize r.length = lr at *
  generalize L.length = nL at *
  subst hW0
  go_enter Tryd.func45, Tryd.ntmps45
  go_wp2_with fail
  refine (HC0.out _ c0).mono ?_
  rintro e w' ⟨rfl, hw'⟩
  have hw'' := hw'.symm
  subst hw''
  clear hw'
  go_wp2_with fail
  go_ret
  exact ⟨by have h := HE.out; subst h; rfl, HB0.out⟩

set_option maxRecDepth 100000 in
set_option maxHeartbeats 2000000 in
theorem wcell0_6 (p V : Nat) (L : List InsZ) (size out : Int) (r n : List Int) (aL : Option Addr) (cL : Nat) (ar : Option Addr) (cr : Nat) (an : Option Addr) (cn : Nat) (w : World) (H : VF p L size out r n) (hV : WW p V L size out r n aL cL ar cr an cn w) (ia ib ic : Int) (hi : I64 ia ∧ I64 ib ∧ I64 ic) :
    Calls Tryd.prog 45 #[.pointer (some ⟨V, 0, none⟩), .agg #[.int .i64 6, .int .i64 ia, .int .i64 ib, .int .i64 ic], .int .i64 0] w fun e w' => e = .returned (.int .i64 (tvC p r 0 ⟨6, ia, ib, ic⟩)) ∧ Below w.heap.size w w' := by
  have h3 := H.h3
  have h4 := H.h4
  have HEM : Hid (∀ a : Int, I64 (a % (p : Int))) := fun a => by have := emod_bounds a p H.h3; have := H.h4; unfold I64; omega
  obtain ⟨hia, hib, hic⟩ := hi
  obtain ⟨W0, hW0⟩ : ∃ W0, W0 = w.alloc (.cells #[.int .i64 6, .int .i64 ia, .int .i64 ib, .int .i64 ic] 83) := ⟨_, rfl⟩
  have hb0 : Below w.heap.size w W0 := by rw [hW0]; exact (Below.refl _ _).alloc (Nat.le_refl _) _
  replace hV := hV.below hb0
  have HB0 := hid hb0
  clear hb0
  obtain ⟨c0, c1, c2, c3, c4, c5⟩ := hV.cells
  have QP : Hid (∀ nn, (W0.drewN nn).cell? ⟨V, 0, none⟩ = some (.int .i64 p)) := fun nn => c0
  obtain ⟨br, orr, har, hrw⟩ := rowB_at hV.row H.hr
  subst har
  have r0 := hrw 0 (by omega)
  rw [Nat.add_zero] at r0
  have i0 : I64 (zat r 0) := H.fr 0
  have l0 : (0 : Int) < (r.length : Int) := by have := H.hr; omega
  have l0' : 0 < r.length := by have := H.hr; omega
  have r1 := hrw 1 (by omega)
  have i1 : I64 (zat r 1) := H.fr 1
  have l1 : (1 : Int) < (r.length : Int) := by have := H.hr; omega
  have l1' : 1 < r.length := by have := H.hr; omega
  clear hrw
  have HE : Hid (tvC p r 0 ⟨6, ia, ib, ic⟩ = (((zat r 0) + ia) % (p : Int))) := by
    unfold Hid
    rw [show tvC p r 0 ⟨6, ia, ib, ic⟩ = (zat r 0 + ia) % (p : Int) from rfl]
  obtain ⟨R, hR⟩ : ∃ R, R = tvC p r 0 ⟨6, ia, ib, ic⟩ := ⟨_, rfl⟩
  rw [← hR] at HE ⊢
  clear hR
  have HC0 : Hid (∀ W : World, W.cell? ⟨V, 0, none⟩ = some (.int .i64 p) → Calls Tryd.prog 25 #[.pointer (some ⟨V, 0, none⟩), .int .i64 (zat r 0), .int .i64 ia] W fun e w' => e = .returned (.int .i64 (((zat r 0) + ia) % (p : Int))) ∧ w' = W) := fun W h => wadd_any p V _ _ W h3 h4 h i0 hia
  clear i0 i1
  clear HEM H hV
  generalize (((zat r 0) + ia) % (p : Int)) = t1 at *
  generalize zat r 0 = x0 at *
  generalize zat r 1 = x1 at *
  generalize r.length = lr at *
  generalize L.length = nL at *
  subst hW0
  go_enter Tryd.func45, Tryd.ntmps45
  go_wp2_with fail
  refine (HC0.out _ c0).mono ?_
  rintro e w' ⟨rfl, hw'⟩
  have hw'' := hw'.symm
  subst hw''
  clear hw'
  go_wp2_with fail
  go_ret
  exact ⟨by have h := HE.out; subst h; rfl, HB0.out⟩

set_option maxRecDepth 100000 in
set_option maxHeartbeats 2000000 in
theorem wcell0_7 (p V : Nat) (L : List InsZ) (size out : Int) (r n : List Int) (aL : Option Addr) (cL : Nat) (ar : Option Addr) (cr : Nat) (an : Option Addr) (cn : Nat) (w : World) (H : VF p L size out r n) (hV : WW p V L size out r n aL cL ar cr an cn w) (ia ib ic : Int) (hi : I64 ia ∧ I64 ib ∧ I64 ic) :
    Calls Tryd.prog 45 #[.pointer (some ⟨V, 0, none⟩), .agg #[.int .i64 7, .int .i64 ia, .int .i64 ib, .int .i64 ic], .int .i64 0] w fun e w' => e = .returned (.int .i64 (tvC p r 0 ⟨7, ia, ib, ic⟩)) ∧ Below w.heap.size w w' := by
  have h3 := H.h3
  have h4 := H.h4
  have HEM : Hid (∀ a : Int, I64 (a % (p : Int))) := fun a => by have := emod_bounds a p H.h3; have := H.h4; unfold I64; omega
  obtain ⟨hia, hib, hic⟩ := hi
  obtain ⟨W0, hW0⟩ : ∃ W0, W0 = w.alloc (.cells #[.int .i64 7, .int .i64 ia, .int .i64 ib, .int .i64 ic] 83) := ⟨_, rfl⟩
  have hb0 : Below w.heap.size w W0 := by rw [hW0]; exact (Below.refl _ _).alloc (Nat.le_refl _) _
  replace hV := hV.below hb0
  have HB0 := hid hb0
  clear hb0
  obtain ⟨c0, c1, c2, c3, c4, c5⟩ := hV.cells
  have QP : Hid (∀ nn, (W0.drewN nn).cell? ⟨V, 0, none⟩ = some (.int .i64 p)) := fun nn => c0
  obtain ⟨br, orr, har, hrw⟩ := rowB_at hV.row H.hr
  subst har
  have r0 := hrw 0 (by omega)
  rw [Nat.add_zero] at r0
  have i0 : I64 (zat r 0) := H.fr 0
  have l0 : (0 : Int) < (r.length : Int) := by have := H.hr; omega
  have l0' : 0 < r.length := by have := H.hr; omega
  have r1 := hrw 1 (by omega)
  have i1 : I64 (zat r 1) := H.fr 1
  have l1 : (1 : Int) < (r.length : Int) := by have := H.hr; omega
  have l1' : 1 < r.length := by have := H.hr; omega
  clear hrw
  have HE : Hid (tvC p r 0 ⟨7, ia, ib, ic⟩ = (((zat r 0) + ia) % (p : Int))) := by
    unfold Hid
    rw [show tvC p r 0 ⟨7, ia, ib, ic⟩ = (zat r 0 + ia) % (p : Int) from rfl]
  obtain ⟨R, hR⟩ : ∃ R, R = tvC p r 0 ⟨7, ia, ib, ic⟩ := ⟨_, rfl⟩
  rw [← hR] at HE ⊢
  clear hR
  have HC0 : Hid (∀ W : World, W.cell? ⟨V, 0, none⟩ = some (.int .i64 p) → Calls Tryd.prog 25 #[.pointer (some ⟨V, 0, none⟩), .int .i64 (zat r 0), .int .i64 ia] W fun e w' => e = .returned (.int .i64 (((zat r 0) + ia) % (p : Int))) ∧ w' = W) := fun W h => wadd_any p V _ _ W h3 h4 h i0 hia
  clear i0 i1
  clear HEM H hV
  generalize (((zat r 0) + ia) % (p : Int)) = t1 at *
  generalize zat r 0 = x0 at *
  generalize zat r 1 = x1 at *
  generalize r.length = lr at *
  generalize L.length = nL at *
  subst hW0
  go_enter Tryd.func45, Tryd.ntmps45
  go_wp2_with fail
  refine (HC0.out _ c0).mono ?_
  rintro e w' ⟨rfl, hw'⟩
  have hw'' := hw'.symm
  subst hw''
  clear hw'
  go_wp2_with fail
  go_ret
  exact ⟨by have h := HE.out; subst h; rfl, HB0.out⟩

set_option maxRecDepth 100000 in
set_option maxHeartbeats 2000000 in
theorem wcell0_8 (p V : Nat) (L : List InsZ) (size out : Int) (r n : List Int) (aL : Option Addr) (cL : Nat) (ar : Option Addr) (cr : Nat) (an : Option Addr) (cn : Nat) (w : World) (H : VF p L size out r n) (hV : WW p V L size out r n aL cL ar cr an cn w) (ia ib ic : Int) (hi : I64 ia ∧ I64 ib ∧ I64 ic) :
    Calls Tryd.prog 45 #[.pointer (some ⟨V, 0, none⟩), .agg #[.int .i64 8, .int .i64 ia, .int .i64 ib, .int .i64 ic], .int .i64 0] w fun e w' => e = .returned (.int .i64 (tvC p r 0 ⟨8, ia, ib, ic⟩)) ∧ Below w.heap.size w w' := by
  have h3 := H.h3
  have h4 := H.h4
  have HEM : Hid (∀ a : Int, I64 (a % (p : Int))) := fun a => by have := emod_bounds a p H.h3; have := H.h4; unfold I64; omega
  obtain ⟨hia, hib, hic⟩ := hi
  obtain ⟨W0, hW0⟩ : ∃ W0, W0 = w.alloc (.cells #[.int .i64 8, .int .i64 ia, .int .i64 ib, .int .i64 ic] 83) := ⟨_, rfl⟩
  have hb0 : Below w.heap.size w W0 := by rw [hW0]; exact (Below.refl _ _).alloc (Nat.le_refl _) _
  replace hV := hV.below hb0
  have HB0 := hid hb0
  clear hb0
  obtain ⟨c0, c1, c2, c3, c4, c5⟩ := hV.cells
  have QP : Hid (∀ nn, (W0.drewN nn).cell? ⟨V, 0, none⟩ = some (.int .i64 p)) := fun nn => c0
  obtain ⟨br, orr, har, hrw⟩ := rowB_at hV.row H.hr
  subst har
  have r0 := hrw 0 (by omega)
  rw [Nat.add_zero] at r0
  have i0 : I64 (zat r 0) := H.fr 0
  have l0 : (0 : Int) < (r.length : Int) := by have := H.hr; omega
  have l0' : 0 < r.length := by have := H.hr; omega
  have r1 := hrw 1 (by omega)
  have i1 : I64 (zat r 1) := H.fr 1
  have l1 : (1 : Int) < (r.length : Int) := by have := H.hr; omega
  have l1' : 1 < r.length := by have := H.hr; omega
  clear hrw
  have HE : Hid (tvC p r 0 ⟨8, ia, ib, ic⟩ = 0) := rfl
  obtain ⟨R, hR⟩ : ∃ R, R = tvC p r 0 ⟨8, ia, ib, ic⟩ := ⟨_, rfl⟩
  rw [← hR] at HE ⊢
  clear hR
  clear i0 i1
  clear HEM H hV
  generalize zat r 0 = x0 at *
  generalize zat r 1 = x1 at *
  generalize r.length = lr at *
  generalize L.length = nL at *
  subst hW0
  go_enter Tryd.func45, Tryd.ntmps45
  go_wp2_with fail
  go_ret
  exact ⟨by have h := HE.out; subst h; rfl, HB0.out⟩

set_option maxRecDepth 100000 in
set_option maxHeartbeats 2000000 in
theorem wcell0_9 (p V : Nat) (L : List InsZ) (size out : Int) (r n : List Int) (aL : Option Addr) (cL : Nat) (ar : Option Addr) (cr : Nat) (an : Option Addr) (cn : Nat) (w : World) (H : VF p L size out r n) (hV : WW p V L size out r n aL cL ar cr an cn w) (ia ib ic : Int) (hi : I64 ia ∧ I64 ib ∧ I64 ic) :
    Calls Tryd.prog 45 #[.pointer (some ⟨V, 0, none⟩), .agg #[.int .i64 9, .int .i64 ia, .int .i64 ib, .int .i64 ic], .int .i64 0] w fun e w' => e = .returned (.int .i64 (tvC p r 0 ⟨9, ia, ib, ic⟩)) ∧ Below w.heap.size w w' := by
  have h3 := H.h3
  have h4 := H.h4
  have HEM : Hid (∀ a : Int, I64 (a % (p : Int))) := fun a => by have := emod_bounds a p H.h3; have := H.h4; unfold I64; omega
  obtain ⟨hia, hib, hic⟩ := hi
  obtain ⟨W0, hW0⟩ : ∃ W0, W0 = w.alloc (.cells #[.int .i64 9, .int .i64 ia, .int .i64 ib, .int .i64 ic] 83) := ⟨_, rfl⟩
  have hb0 : Below w.heap.size w W0 := by rw [hW0]; exact (Below.refl _ _).alloc (Nat.le_refl _) _
  replace hV := hV.below hb0
  have HB0 := hid hb0
  clear hb0
  obtain ⟨c0, c1, c2, c3, c4, c5⟩ := hV.cells
  have QP : Hid (∀ nn, (W0.drewN nn).cell? ⟨V, 0, none⟩ = some (.int .i64 p)) := fun nn => c0
  obtain ⟨br, orr, har, hrw⟩ := rowB_at hV.row H.hr
  subst har
  have r0 := hrw 0 (by omega)
  rw [Nat.add_zero] at r0
  have i0 : I64 (zat r 0) := H.fr 0
  have l0 : (0 : Int) < (r.length : Int) := by have := H.hr; omega
  have l0' : 0 < r.length := by have := H.hr; omega
  have r1 := hrw 1 (by omega)
  have i1 : I64 (zat r 1) := H.fr 1
  have l1 : (1 : Int) < (r.length : Int) := by have := H.hr; omega
  have l1' : 1 < r.length := by have := H.hr; omega
  clear hrw
  have HE : Hid (tvC p r 0 ⟨9, ia, ib, ic⟩ = (((zat r 0) + ia) % (p : Int))) := by
    unfold Hid
    rw [show tvC p r 0 ⟨9, ia, ib, ic⟩ = (zat r 0 + ia) % (p : Int) from rfl]
  obtain ⟨R, hR⟩ : ∃ R, R = tvC p r 0 ⟨9, ia, ib, ic⟩ := ⟨_, rfl⟩
  rw [← hR] at HE ⊢
  clear hR
  have HC0 : Hid (∀ W : World, W.cell? ⟨V, 0, none⟩ = some (.int .i64 p) → Calls Tryd.prog 25 #[.pointer (some ⟨V, 0, none⟩), .int .i64 (zat r 0), .int .i64 ia] W fun e w' => e = .returned (.int .i64 (((zat r 0) + ia) % (p : Int))) ∧ w' = W) := fun W h => wadd_any p V _ _ W h3 h4 h i0 hia
  clear i0 i1
  clear HEM H hV
  generalize (((zat r 0) + ia) % (p : Int)) = t1 at *
  generalize zat r 0 = x0 at *
  generalize zat r 1 = x1 at *
  generalize r.length = lr at *
  generalize L.length = nL at *
  subst hW0
  go_enter Tryd.func45, Tryd.ntmps45
  go_wp2_with fail
  refine (HC0.out _ c0).mono ?_
  rintro e w' ⟨rfl, hw'⟩
  have hw'' := hw'.symm
  subst hw''
  clear hw'
  go_wp2_with fail
  go_ret
  exact ⟨by have h := HE.out; subst h; rfl, HB0.out⟩

set_option maxRecDepth 100000 in
set_option maxHeartbeats 2000000 in
theorem wcell0_10 (p V : Nat) (L : List InsZ) (size out : Int) (r n : List Int) (aL : Option Addr) (cL : Nat) (ar : Option Addr) (cr : Nat) (an : Option Addr) (cn : Nat) (w : World) (H : VF p L size out r n) (hV : WW p V L size out r n aL cL ar cr an cn w) (ia ib ic : Int) (hi : I64 ia ∧ I64 ib ∧ I64 ic) :
    Calls Tryd.prog 45 #[.pointer (some ⟨V, 0, none⟩), .agg #[.int .i64 10, .int .i64 ia, .int .i64 ib, .int .i64 ic], .int .i64 0] w fun e w' => e = .returned (.int .i64 (tvC p r 0 ⟨10, ia, ib, ic⟩)) ∧ Below w.heap.size w w' := by
  have h3 := H.h3
  have h4 := H.h4
  have HEM : Hid (∀ a : Int, I64 (a % (p : Int))) := fun a => by have := emod_bounds a p H.h3; have := H.h4; unfold I64; omega
  obtain ⟨hia, hib, hic⟩ := hi
  obtain ⟨W0, hW0⟩ : ∃ W0, W0 = w.alloc (.cells #[.int .i64 10, .int .i64 ia, .int .i64 ib, .int .i64 ic] 83) := ⟨_, rfl⟩
  have hb0 : Below w.heap.size w W0 := by rw [hW0]; exact (Below.refl _ _).alloc (Nat.le_refl _) _
  replace hV := hV.below hb0
  have HB0 := hid hb0
  clear hb0
  obtain ⟨c0, c1, c2, c3, c4, c5⟩ := hV.cells
  have QP : Hid (∀ nn, (W0.drewN nn).cell? ⟨V, 0, none⟩ = some (.int .i64 p)) := fun nn => c0
  obtain ⟨br, orr, har, hrw⟩ := rowB_at hV.row H.hr
  subst har
  have r0 := hrw 0 (by omega)
  rw [Nat.add_zero] at r0
  have i0 : I64 (zat r 0) := H.fr 0
  have l0 : (0 : Int) < (r.length : Int) := by have := H.hr; omega
  have l0' : 0 < r.length := by have := H.hr; omega
  have r1 := hrw 1 (by omega)
  have i1 : I64 (zat r 1) := H.fr 1
  have l1 : (1 : Int) < (r.length : Int) := by have := H.hr; omega
  have l1' : 1 < r.length := by have := H.hr; omega
  clear hrw
  have HE : Hid (tvC p r 0 ⟨10, ia, ib, ic⟩ = (((zat r 1) + (0 : Int)) % (p : Int))) := by
    unfold Hid
    rw [show tvC p r 0 ⟨10, ia, ib, ic⟩ = zat r 1 % (p : Int) from rfl]
    rw [Int.add_zero]
  obtain ⟨R, hR⟩ : ∃ R, R = tvC p r 0 ⟨10, ia, ib, ic⟩ := ⟨_, rfl⟩
  rw [← hR] at HE ⊢
  clear hR
  have HC0 : Hid (∀ W : World, W.cell? ⟨V, 0, none⟩ = some (.int .i64 p) → Calls Tryd.prog 25 #[.pointer (some ⟨V, 0, none⟩), .int .i64 (zat r 1), .int .i64 (0 : Int)] W fun e w' => e = .returned (.int .i64 (((zat r 1) + (0 : Int)) % (p : Int))) ∧ w' = W) := fun W h => wadd_any p V _ _ W h3 h4 h i1 (show I64 (0 : Int) by unfold I64; decide)
  clear i0 i1
  clear HEM H hV
  generalize (((zat r 1) + (0 : Int)) % (p : Int)) = t1 at *
  generalize zat r 0 = x0 at *
  generalize zat r 1 = x1 at *
  generalize r.length = lr at *
  generalize L.length = nL at *
  subst hW0
  go_enter Tryd.func45, Tryd.ntmps45
  go_wp2_with fail
  refine (HC0.out _ c0).mono ?_
  rintro e w' ⟨rfl, hw'⟩
  have hw'' := hw'.symm
  subst hw''
  clear hw'
  go_wp2_with fail
  go_ret
  exact ⟨by have h := HE.out; subst h; rfl, HB0.out⟩

set_option maxRecDepth 100000 in
set_option maxHeartbeats 2000000 in
theorem wcell0_11 (p V : Nat) (L : List InsZ) (size out : Int) (r n : List Int) (aL : Option Addr) (cL : Nat) (ar : Option Addr) (cr : Nat) (an : Option Addr) (cn : Nat) (w : World) (H : VF p L size out r n) (hV : WW p V L size out r n aL cL ar cr an cn w) (ia ib ic : Int) (hi : I64 ia ∧ I64 ib ∧ I64 ic) :
    Calls Tryd.prog 45 #[.pointer (some ⟨V, 0, none⟩), .agg #[.int .i64 11, .int .i64 ia, .int .i64 ib, .int .i64 ic], .int .i64 0] w fun e w' => e = .returned (.int .i64 (tvC p r 0 ⟨11, ia, ib, ic⟩)) ∧ Below w.heap.size w w' := by
  have h3 := H.h3
  have h4 := H.h4
  have HEM : Hid (∀ a : Int, I64 (a % (p : Int))) := fun a => by have := emod_bounds a p H.h3; have := H.h4; unfold I64; omega
  obtain ⟨hia, hib, hic⟩ := hi
  obtain ⟨W0, hW0⟩ : ∃ W0, W0 = w.alloc (.cells #[.int .i64 11, .int .i64 ia, .int .i64 ib, .int .i64 ic] 83) := ⟨_, rfl⟩
  have hb0 : Below w.heap.size w W0 := by rw [hW0]; exact (Below.refl _ _).alloc (Nat.le_refl _) _
  replace hV := hV.below hb0
  have HB0 := hid hb0
  clear hb0
  obtain ⟨c0, c1, c2, c3, c4, c5⟩ := hV.cells
  have QP : Hid (∀ nn, (W0.drewN nn).cell? ⟨V, 0, none⟩ = some (.int .i64 p)) := fun nn => c0
  obtain ⟨br, orr, har, hrw⟩ := rowB_at hV.row H.hr
  subst har
  have r0 := hrw 0 (by omega)
  rw [Nat.add_zero] at r0
  have i0 : I64 (zat r 0) := H.fr 0
  have l0 : (0 : Int) < (r.length : Int) := by have := H.hr; omega
  have l0' : 0 < r.length := by have := H.hr; omega
  have r1 := hrw 1 (by omega)
  have i1 : I64 (zat r 1) := H.fr 1
  have l1 : (1 : Int) < (r.length : Int) := by have := H.hr; omega
  have l1' : 1 < r.length := by have := H.hr; omega
  clear hrw
  have HE : Hid (tvC p r 0 ⟨11, ia, ib, ic⟩ = (((zat r 0) + (-2 : Int)) % (p : Int))) := by
    unfold Hid
    rw [show tvC p r 0 ⟨11, ia, ib, ic⟩ = (zat r 0 - 2) % (p : Int) from rfl]
    rfl
  obtain ⟨R, hR⟩ : ∃ R, R = tvC p r 0 ⟨11, ia, ib, ic⟩ := ⟨_, rfl⟩
  rw [← hR] at HE ⊢
  clear hR
  have HC0 : Hid (∀ W : World, W.cell? ⟨V, 0, none⟩ = some (.int .i64 p) → Calls Tryd.prog 25 #[.pointer (some ⟨V, 0, none⟩), .int .i64 (zat r 0), .int .i64 (-2 : Int)] W fun e w' => e = .returned (.int .i64 (((zat r 0) + (-2 : Int)) % (p : Int))) ∧ w' = W) := fun W h => wadd_any p V _ _ W h3 h4 h i0 (show I64 (-2 : Int) by unfold I64; decide)
  clear i0 i1
  clear HEM H hV
  generalize (((zat r 0) + (-2 : Int)) % (p : Int)) = t1 at *
  generalize zat r 0 = x0 at *
  generalize zat r 1 = x1 at *
  generalize r.length = lr at *
  generalize L.length = nL at *
  subst hW0
  go_enter Tryd.func45, Tryd.ntmps45
  go_wp2_with fail
  refine (HC0.out _ c0).mono ?_
  rintro e w' ⟨rfl, hw'⟩
  have hw'' := hw'.symm
  subst hw''
  clear hw'
  go_wp2_with fail
  go_ret
  exact ⟨by have h := HE.out; subst h; rfl, HB0.out⟩

set_option maxRecDepth 100000 in
set_option maxHeartbeats 2000000 in
theorem wcell0_12 (p V : Nat) (L : List InsZ) (size out : Int) (r n : List Int) (aL : Option Addr) (cL : Nat) (ar : Option Addr) (cr : Nat) (an : Option Addr) (cn : Nat) (w : World) (H : VF p L size out r n) (hV : WW p V L size out r n aL cL ar cr an cn w) (ia ib ic : Int) (hi : I64 ia ∧ I64 ib ∧ I64 ic) :
    Calls Tryd.prog 45 #[.pointer (some ⟨V, 0, none⟩), .agg #[.int .i64 12, .int .i64 ia, .int .i64 ib, .int .i64 ic], .int .i64 0] w fun e w' => e = .returned (.int .i64 (tvC p r 0 ⟨12, ia, ib, ic⟩)) ∧ Below w.heap.size w w' := by
  have h3 := H.h3
  have h4 := H.h4
  have HEM : Hid (∀ a : Int, I64 (a % (p : Int))) := fun a => by have := emod_bounds a p H.h3; have := H.h4; unfold I64; omega
  obtain ⟨hia, hib, hic⟩ := hi
  obtain ⟨W0, hW0⟩ : ∃ W0, W0 = w.alloc (.cells #[.int .i64 12, .int .i64 ia, .int .i64 ib, .int .i64 ic] 83) := ⟨_, rfl⟩
  have hb0 : Below w.heap.size w W0 := by rw [hW0]; exact (Below.refl _ _).alloc (Nat.le_refl _) _
  replace hV := hV.below hb0
  have HB0 := hid hb0
  clear hb0
  obtain ⟨c0, c1, c2, c3, c4, c5⟩ := hV.cells
  have QP : Hid (∀ nn, (W0.drewN nn).cell? ⟨V, 0, none⟩ = some (.int .i64 p)) := fun nn => c0
  obtain ⟨br, orr, har, hrw⟩ := rowB_at hV.row H.hr
  subst har
  have r0 := hrw 0 (by omega)
  rw [Nat.add_zero] at r0
  have i0 : I64 (zat r 0) := H.fr 0
  have l0 : (0 : Int) < (r.length : Int) := by have := H.hr; omega
  have l0' : 0 < r.length := by have := H.hr; omega
  have r1 := hrw 1 (by omega)
  have i1 : I64 (zat r 1) := H.fr 1
  have l1 : (1 : Int) < (r.length : Int) := by have := H.hr; omega
  have l1' : 1 < r.length := by have := H.hr; omega
  clear hrw
  have HE : Hid (tvC p r 0 ⟨12, ia, ib, ic⟩ = (((zat r 0) + ia) % (p : Int))) := by
    unfold Hid
    rw [show tvC p r 0 ⟨12, ia, ib, ic⟩ = (zat r 0 + ia) % (p : Int) from rfl]
  obtain ⟨R, hR⟩ : ∃ R, R = tvC p r 0 ⟨12, ia, ib, ic⟩ := ⟨_, rfl⟩
  rw [← hR] at HE ⊢
  clear hR
  have HC0 : Hid (∀ W : World, W.cell? ⟨V, 0, none⟩ = some (.int .i64 p) → Calls Tryd.prog 25 #[.pointer (some ⟨V, 0, none⟩), .int .i64 (zat r 0), .int .i64 ia] W fun e w' => e = .returned (.int .i64 (((zat r 0) + ia) % (p : Int))) ∧ w' = W) := fun W h => wadd_any p V _ _ W h3 h4 h i0 hia
  clear i0 i1
  clear HEM H hV
  generalize (((zat r 0) + ia) % (p : Int)) = t1 at *
  generalize zat r 0 = x0 at *
  generalize zat r 1 = x1 at *
  generalize r.length = lr at *
  generalize L.length = nL at *
  subst hW0
  go_enter Tryd.func45, Tryd.ntmps45
  go_wp2_with fail
  refine (HC0.out _ c0).mono ?_
  rintro e w' ⟨rfl, hw'⟩
  have hw'' := hw'.symm
  subst hw''
  clear hw'
  go_wp2_with fail
  go_ret
  exact ⟨by have h := HE.out; subst h; rfl, HB0.out⟩

set_option maxRecDepth 100000 in
set_option maxHeartbeats 2000000 in
theorem wcell0_13 (p V : Nat) (L : List InsZ) (size out : Int) (r n : List Int) (aL : Option Addr) (cL : Nat) (ar : Option Addr) (cr : Nat) (an : Option Addr) (cn : Nat) (w : World) (H : VF p L size out r n) (hV : WW p V L size out r n aL cL ar cr an cn w) (ia ib ic : Int) (hi : I64 ia ∧ I64 ib ∧ I64 ic) :
    Calls Tryd.prog 45 #[.pointer (some ⟨V, 0, none⟩), .agg #[.int .i64 13, .int .i64 ia, .int .i64 ib, .int .i64 ic], .int .i64 0] w fun e w' => e = .returned (.int .i64 (tvC p r 0 ⟨13, ia, ib, ic⟩)) ∧ Below w.heap.size w w' := by
  have h3 := H.h3
  have h4 := H.h4
  have HEM : Hid (∀ a : Int, I64 (a % (p : Int))) := fun a => by have := emod_bounds a p H.h3; have := H.h4; unfold I64; omega
  obtain ⟨hia, hib, hic⟩ := hi
  obtain ⟨W0, hW0⟩ : ∃ W0, W0 = w.alloc (.cells #[.int .i64 13, .int .i64 ia, .int .i64 ib, .int .i64 ic] 83) := ⟨_, rfl⟩
  have hb0 : Below w.heap.size w W0 := by rw [hW0]; exact (Below.refl _ _).alloc (Nat.le_refl _) _
  replace hV := hV.below hb0
  have HB0 := hid hb0
  clear hb0
  obtain ⟨c0, c1, c2, c3, c4, c5⟩ := hV.cells
  have QP : Hid (∀ nn, (W0.drewN nn).cell? ⟨V, 0, none⟩ = some (.int .i64 p)) := fun nn => c0
  obtain ⟨br, orr, har, hrw⟩ := rowB_at hV.row H.hr
  subst har
  have r0 := hrw 0 (by omega)
  rw [Nat.add_zero] at r0
  have i0 : I64 (zat r 0) := H.fr 0
  have l0 : (0 : Int) < (r.length : Int) := by have := H.hr; omega
  have l0' : 0 < r.length := by have := H.hr; omega
  have r1 := hrw 1 (by omega)
  have i1 : I64 (zat r 1) := H.fr 1
  have l1 : (1 : Int) < (r.length : Int) := by have := H.hr; omega
  have l1' : 1 < r.length := by have := H.hr; omega
  clear hrw
  have HE : Hid (tvC p r 0 ⟨13, ia, ib, ic⟩ = (((zat r 0) + ia) % (p : Int))) := by
    unfold Hid
    rw [show tvC p r 0 ⟨13, ia, ib, ic⟩ = (zat r 0 + ia) % (p : Int) from rfl]
  obtain ⟨R, hR⟩ : ∃ R, R = tvC p r 0 ⟨13, ia, ib, ic⟩ := ⟨_, rfl⟩
  rw [← hR] at HE ⊢
  clear hR
  have HC0 : Hid (∀ W : World, W.cell? ⟨V, 0, none⟩ = some (.int .i64 p) → Calls Tryd.prog 25 #[.pointer (some ⟨V, 0, none⟩), .int .i64 (zat r 0), .int .i64 ia] W fun e w' => e = .returned (.int .i64 (((zat r 0) + ia) % (p : Int))) ∧ w' = W) := fun W h => wadd_any p V _ _ W h3 h4 h i0 hia
  clear i0 i1
  clear HEM H hV
  generalize (((zat r 0) + ia) % (p : Int)) = t1 at *
  generalize zat r 0 = x0 at *
  generalize zat r 1 = x1 at *
  generalize r.length = lr at *
  generalize L.length = nL at *
  subst hW0
  go_enter Tryd.func45, Tryd.ntmps45
  go_wp2_with fail
  refine (HC0.out _ c0).mono ?_
  rintro e w' ⟨rfl, hw'⟩
  have hw'' := hw'.symm
  subst hw''
  clear hw'
  go_wp2_with fail
  go_ret
  exact ⟨by have h := HE.out; subst h; rfl, HB0.out⟩

set_option maxRecDepth 100000 in
set_option maxHeartbeats 2000000 in
theorem wcell0_x (p V : Nat) (L : List InsZ) (size out : Int) (r n : List Int) (aL : Option Addr) (cL : Nat) (ar : Option Addr) (cr : Nat) (an : Option Addr) (cn : Nat) (w : World) (H : VF p L size out r n) (hV : WW p V L size out r n aL cL ar cr an cn w) (ia ib ic : Int) (hi : I64 ia ∧ I64 ib ∧ I64 ic) (op : Int) (hno : op ≠ 0 ∧ op ≠ 1 ∧ op ≠ 2 ∧ op ≠ 3 ∧ op ≠ 4 ∧ op ≠ 5 ∧ op ≠ 6 ∧ op ≠ 7 ∧ op ≠ 9 ∧ op ≠ 10 ∧ op ≠ 11 ∧ op ≠ 12 ∧ op ≠ 13) :
    Calls Tryd.prog 45 #[.pointer (some ⟨V, 0, none⟩), .agg #[.int .i64 op, .int .i64 ia, .int .i64 ib, .int .i64 ic], .int .i64 0] w fun e w' => e = .returned (.int .i64 (tvC p r 0 ⟨op, ia, ib, ic⟩)) ∧ Below w.heap.size w w' := by
  have h3 := H.h3
  have h4 := H.h4
  have HEM : Hid (∀ a : Int, I64 (a % (p : Int))) := fun a => by have := emod_bounds a p H.h3; have := H.h4; unfold I64; omega
  obtain ⟨hia, hib, hic⟩ := hi
  obtain ⟨W0, hW0⟩ : ∃ W0, W0 = w.alloc (.cells #[.int .i64 op, .int .i64 ia, .int .i64 ib, .int .i64 ic] 83) := ⟨_, rfl⟩
  have hb0 : Below w.heap.size w W0 := by rw [hW0]; exact (Below.refl _ _).alloc (Nat.le_refl _) _
  replace hV := hV.below hb0
  have HB0 := hid hb0
  clear hb0
  obtain ⟨c0, c1, c2, c3, c4, c5⟩ := hV.cells
  have QP : Hid (∀ nn, (W0.drewN nn).cell? ⟨V, 0, none⟩ = some (.int .i64 p)) := fun nn => c0
  obtain ⟨br, orr, har, hrw⟩ := rowB_at hV.row H.hr
  subst har
  have r0 := hrw 0 (by omega)
  rw [Nat.add_zero] at r0
  have i0 : I64 (zat r 0) := H.fr 0
  have l0 : (0 : Int) < (r.length : Int) := by have := H.hr; omega
  have l0' : 0 < r.length := by have := H.hr; omega
  have r1 := hrw 1 (by omega)
  have i1 : I64 (zat r 1) := H.fr 1
  have l1 : (1 : Int) < (r.length : Int) := by have := H.hr; omega
  have l1' : 1 < r.length := by have := H.hr; omega
  clear hrw
  have q0 : (op == 0) = false := by rw [beq_eq_false_iff_ne]; omega
  have q1 : (op == 1) = false := by rw [beq_eq_false_iff_ne]; omega
  have q2 : (op == 2) = false := by rw [beq_eq_false_iff_ne]; omega
  have q3 : (op == 3) = false := by rw [beq_eq_false_iff_ne]; omega
  have q4 : (op == 4) = false := by rw [beq_eq_false_iff_ne]; omega
  have q5 : (op == 5) = false := by rw [beq_eq_false_iff_ne]; omega
  have q6 : (op == 6) = false := by rw [beq_eq_false_iff_ne]; omega
  have q7 : (op == 7) = false := by rw [beq_eq_false_iff_ne]; omega
  have q9 : (op == 9) = false := by rw [beq_eq_false_iff_ne]; omega
  have q10 : (op == 10) = false := by rw [beq_eq_false_iff_ne]; omega
  have q11 : (op == 11) = false := by rw [beq_eq_false_iff_ne]; omega
  have q12 : (op == 12) = false := by rw [beq_eq_false_iff_ne]; omega
  have q13 : (op == 13) = false := by rw [beq_eq_false_iff_ne]; omega
  have HE : Hid (tvC p r 0 ⟨op, ia, ib, ic⟩ = 0) := by unfold Hid; simp [tvC, cel3, hno]
  obtain ⟨R, hR⟩ : ∃ R, R = tvC p r 0 ⟨op, ia, ib, ic⟩ := ⟨_, rfl⟩
  rw [← hR] at HE ⊢
  clear hR
  clear i0 i1
  clear HEM H hV
  generalize zat r 0 = x0 at *
  generalize zat r 1 = x1 at *
  generalize r.length = lr at *
  generalize L.length = nL at *
  subst hW0
  go_enter Tryd.func45, Tryd.ntmps45
  go_wp2_with fail
  go_ret
  exact ⟨by have h := HE.out; subst h; rfl, HB0.out⟩

end Go.Proofs.YtaibngnabhmabajDoor
