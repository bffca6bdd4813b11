/- The reference: what an instruction does. -/
import Derived.Test.YtaibngnabhmabajDoorBbAI
namespace Go.Proofs.YtaibngnabhmabajDoor
open Go.RowKit Go.Maps

set_option maxRecDepth 100000 in
set_option maxHeartbeats 2000000 in
theorem wdoes_1 (p V : Nat) (L : List InsZ) (size out : Int) (r n : List Int) (aL : Option Addr) (cL : Nat) (ar : Option Addr) (cr : Nat) (an : Option Addr) (cn : Nat) (w : World) (H : VF p L size out r n) (hV : WW p V L size out r n aL cL ar cr an cn w) (ia ib ic : Int) (hi : I64 ia ∧ I64 ib ∧ I64 ic) :
    Calls Tryd.prog 46 #[.pointer (some ⟨V, 0, none⟩), .agg #[.int .i64 1, .int .i64 ia, .int .i64 ib, .int .i64 ic]] w fun e w' => e = .returned (.int .i64 (tvW p r ⟨1, ia, ib, ic⟩)) ∧ Below w.heap.size w w' := by
  have h3 := H.h3
  have h4 := H.h4
  have HEM : Hid (∀ a : Int, I64 (a % (p : Int))) := fun a => by have := emod_bounds a p H.h3; have := H.h4; unfold I64; omega
  obtain ⟨hia, hib, hic⟩ := hi
  obtain ⟨W0, hW0⟩ : ∃ W0, W0 = w.alloc (.cells #[.int .i64 1, .int .i64 ia, .int .i64 ib, .int .i64 ic] 83) := ⟨_, rfl⟩
  have hb0 : Below w.heap.size w W0 := by rw [hW0]; exact (Below.refl _ _).alloc (Nat.le_refl _) _
  replace hV := hV.below hb0
  have HB0 := hid hb0
  clear hb0
  obtain ⟨c0, c1, c2, c3, c4, c5⟩ := hV.cells
  have QP : Hid (∀ nn, (W0.drewN nn).cell? ⟨V, 0, none⟩ = some (.int .i64 p)) := fun nn => c0
  obtain ⟨br, orr, har, hrw⟩ := rowB_at hV.row H.hr
  subst har
  have r7 := hrw 7 (by omega)
  have i7 : I64 (zat r 7) := H.fr 7
  have l7 : (7 : Int) < (r.length : Int) := by have := H.hr; omega
  have r8 := hrw 8 (by omega)
  have i8 : I64 (zat r 8) := H.fr 8
  have l8 : (8 : Int) < (r.length : Int) := by have := H.hr; omega
  have r9 := hrw 9 (by omega)
  have i9 : I64 (zat r 9) := H.fr 9
  have l9 : (9 : Int) < (r.length : Int) := by have := H.hr; omega
  have r11 := hrw 11 (by omega)
  have i11 : I64 (zat r 11) := H.fr 11
  have l11 : (11 : Int) < (r.length : Int) := by have := H.hr; omega
  clear hrw
  have HE : Hid (tvW p r ⟨1, ia, ib, ic⟩ = (((((zat r 7) + (zat r 8)) % (p : Int)) - (zat r 9)) % (p : Int))) := by
    unfold Hid
    rw [show tvW p r ⟨1, ia, ib, ic⟩ = (zat r 7 + zat r 8 - zat r 9) % (p : Int) from rfl]
    simp only [em_sub1]
  obtain ⟨R, hR⟩ : ∃ R, R = tvW p r ⟨1, ia, ib, ic⟩ := ⟨_, rfl⟩
  rw [← hR] at HE ⊢
  clear hR
  have HC0 : Hid (∀ W : World, W.cell? ⟨V, 0, none⟩ = some (.int .i64 p) → Calls Tryd.prog 25 #[.pointer (some ⟨V, 0, none⟩), .int .i64 (zat r 7), .int .i64 (zat r 8)] W fun e w' => e = .returned (.int .i64 (((zat r 7) + (zat r 8)) % (p : Int))) ∧ w' = W) := fun W h => wadd_any p V _ _ W h3 h4 h i7 i8
  have HC1 : Hid (∀ W : World, W.cell? ⟨V, 0, none⟩ = some (.int .i64 p) → Calls Tryd.prog 24 #[.pointer (some ⟨V, 0, none⟩), .int .i64 (((zat r 7) + (zat r 8)) % (p : Int)), .int .i64 (zat r 9)] W fun e w' => e = .returned (.int .i64 (((((zat r 7) + (zat r 8)) % (p : Int)) - (zat r 9)) % (p : Int))) ∧ w' = W) := fun W h => wsub_any p V _ _ W h3 h4 h (HEM.out _) i9
  clear i7 i8 i9 i11
  clear HEM H hV
  generalize (((((zat r 7) + (zat r 8)) % (p : Int)) - (zat r 9)) % (p : Int)) = t2 at *
  generalize (((zat r 7) + (zat r 8)) % (p : Int)) = t1 at *
  generalize zat r 7 = x7 at *
  generalize zat r 8 = x8 at *
  generalize zat r 9 = x9 at *
  generalize zat r 11 = x11 at *
  generalize r.length = lr at *
  generalize L.length = nL at *
  subst hW0
  go_enter Tryd.func46, Tryd.ntmps46
  go_wp2_with fail
  refine (HC0.out _ c0).mono ?_
  rintro e w' ⟨rfl, hw'⟩
  have hw'' := hw'.symm
  subst hw''
  clear hw'
  go_wp2_with fail
  refine (HC1.out _ c0).mono ?_
  rintro e w' ⟨rfl, hw'⟩
  have hw'' := hw'.symm
  subst hw''
  clear hw'
  go_wp2_with fail
  go_ret
  exact ⟨by have h := HE.out; subst h; rfl, HB0.out⟩

set_option maxRecDepth 100000 in
set_option maxHeartbeats 2000000 in
theorem wdoes_2 (p V : Nat) (L : List InsZ) (size out : Int) (r n : List Int) (aL : Option Addr) (cL : Nat) (ar : Option Addr) (cr : Nat) (an : Option Addr) (cn : Nat) (w : World) (H : VF p L size out r n) (hV : WW p V L size out r n aL cL ar cr an cn w) (ia ib ic : Int) (hi : I64 ia ∧ I64 ib ∧ I64 ic) :
    Calls Tryd.prog 46 #[.pointer (some ⟨V, 0, none⟩), .agg #[.int .i64 2, .int .i64 ia, .int .i64 ib, .int .i64 ic]] w fun e w' => e = .returned (.int .i64 (tvW p r ⟨2, ia, ib, ic⟩)) ∧ Below w.heap.size w w' := by
  have h3 := H.h3
  have h4 := H.h4
  have HEM : Hid (∀ a : Int, I64 (a % (p : Int))) := fun a => by have := emod_bounds a p H.h3; have := H.h4; unfold I64; omega
  obtain ⟨hia, hib, hic⟩ := hi
  obtain ⟨W0, hW0⟩ : ∃ W0, W0 = w.alloc (.cells #[.int .i64 2, .int .i64 ia, .int .i64 ib, .int .i64 ic] 83) := ⟨_, rfl⟩
  have hb0 : Below w.heap.size w W0 := by rw [hW0]; exact (Below.refl _ _).alloc (Nat.le_refl _) _
  replace hV := hV.below hb0
  have HB0 := hid hb0
  clear hb0
  obtain ⟨c0, c1, c2, c3, c4, c5⟩ := hV.cells
  have QP : Hid (∀ nn, (W0.drewN nn).cell? ⟨V, 0, none⟩ = some (.int .i64 p)) := fun nn => c0
  obtain ⟨br, orr, har, hrw⟩ := rowB_at hV.row H.hr
  subst har
  have r7 := hrw 7 (by omega)
  have i7 : I64 (zat r 7) := H.fr 7
  have l7 : (7 : Int) < (r.length : Int) := by have := H.hr; omega
  have r8 := hrw 8 (by omega)
  have i8 : I64 (zat r 8) := H.fr 8
  have l8 : (8 : Int) < (r.length : Int) := by have := H.hr; omega
  have r9 := hrw 9 (by omega)
  have i9 : I64 (zat r 9) := H.fr 9
  have l9 : (9 : Int) < (r.length : Int) := by have := H.hr; omega
  have r11 := hrw 11 (by omega)
  have i11 : I64 (zat r 11) := H.fr 11
  have l11 : (11 : Int) < (r.length : Int) := by have := H.hr; omega
  clear hrw
  have HE : Hid (tvW p r ⟨2, ia, ib, ic⟩ = (((((zat r 7) - (zat r 8)) % (p : Int)) - (zat r 9)) % (p : Int))) := by
    unfold Hid
    rw [show tvW p r ⟨2, ia, ib, ic⟩ = (zat r 7 - zat r 8 - zat r 9) % (p : Int) from rfl]
    simp only [em_sub1]
  obtain ⟨R, hR⟩ : ∃ R, R = tvW p r ⟨2, ia, ib, ic⟩ := ⟨_, rfl⟩
  rw [← hR] at HE ⊢
  clear hR
  have HC0 : Hid (∀ W : World, W.cell? ⟨V, 0, none⟩ = some (.int .i64 p) → Calls Tryd.prog 24 #[.pointer (some ⟨V, 0, none⟩), .int .i64 (zat r 7), .int .i64 (zat r 8)] W fun e w' => e = .returned (.int .i64 (((zat r 7) - (zat r 8)) % (p : Int))) ∧ w' = W) := fun W h => wsub_any p V _ _ W h3 h4 h i7 i8
  have HC1 : Hid (∀ W : World, W.cell? ⟨V, 0, none⟩ = some (.int .i64 p) → Calls Tryd.prog 24 #[.pointer (some ⟨V, 0, none⟩), .int .i64 (((zat r 7) - (zat r 8)) % (p : Int)), .int .i64 (zat r 9)] W fun e w' => e = .returned (.int .i64 (((((zat r 7) - (zat r 8)) % (p : Int)) - (zat r 9)) % (p : Int))) ∧ w' = W) := fun W h => wsub_any p V _ _ W h3 h4 h (HEM.out _) i9
  clear i7 i8 i9 i11
  clear HEM H hV
  generalize (((((zat r 7) - (zat r 8)) % (p : Int)) - (zat r 9)) % (p : Int)) = t2 at *
  generalize (((zat r 7) - (zat r 8)) % (p : Int)) = t1 at *
  generalize zat r 7 = x7 at *
  generalize zat r 8 = x8 at *
  generalize zat r 9 = x9 at *
  generalize zat r 11 = x11 at *
  generalize r.length = lr at *
  generalize L.length = nL at *
  subst hW0
  go_enter Tryd.func46, Tryd.ntmps46
  go_wp2_with fail
  refine (HC0.out _ c0).mono ?_
  rintro e w' ⟨rfl, hw'⟩
  have hw'' := hw'.symm
  subst hw''
  clear hw'
  go_wp2_with fail
  refine (HC1.out _ c0).mono ?_
  rintro e w' ⟨rfl, hw'⟩
  have hw'' := hw'.symm
  subst hw''
  clear hw'
  go_wp2_with fail
  go_ret
  exact ⟨by have h := HE.out; subst h; rfl, HB0.out⟩

set_option maxRecDepth 100000 in
set_option maxHeartbeats 2000000 in
theorem wdoes_3 (p V : Nat) (L : List InsZ) (size out : Int) (r n : List Int) (aL : Option Addr) (cL : Nat) (ar : Option Addr) (cr : Nat) (an : Option Addr) (cn : Nat) (w : World) (H : VF p L size out r n) (hV : WW p V L size out r n aL cL ar cr an cn w) (ia ib ic : Int) (hi : I64 ia ∧ I64 ib ∧ I64 ic) :
    Calls Tryd.prog 46 #[.pointer (some ⟨V, 0, none⟩), .agg #[.int .i64 3, .int .i64 ia, .int .i64 ib, .int .i64 ic]] w fun e w' => e = .returned (.int .i64 (tvW p r ⟨3, ia, ib, ic⟩)) ∧ Below w.heap.size w w' := by
  have h3 := H.h3
  have h4 := H.h4
  have HEM : Hid (∀ a : Int, I64 (a % (p : Int))) := fun a => by have := emod_bounds a p H.h3; have := H.h4; unfold I64; omega
  obtain ⟨hia, hib, hic⟩ := hi
  obtain ⟨W0, hW0⟩ : ∃ W0, W0 = w.alloc (.cells #[.int .i64 3, .int .i64 ia, .int .i64 ib, .int .i64 ic] 83) := ⟨_, rfl⟩
  have hb0 : Below w.heap.size w W0 := by rw [hW0]; exact (Below.refl _ _).alloc (Nat.le_refl _) _
  replace hV := hV.below hb0
  have HB0 := hid hb0
  clear hb0
  obtain ⟨c0, c1, c2, c3, c4, c5⟩ := hV.cells
  have QP : Hid (∀ nn, (W0.drewN nn).cell? ⟨V, 0, none⟩ = some (.int .i64 p)) := fun nn => c0
  obtain ⟨br, orr, har, hrw⟩ := rowB_at hV.row H.hr
  subst har
  have r7 := hrw 7 (by omega)
  have i7 : I64 (zat r 7) := H.fr 7
  have l7 : (7 : Int) < (r.length : Int) := by have := H.hr; omega
  have r8 := hrw 8 (by omega)
  have i8 : I64 (zat r 8) := H.fr 8
  have l8 : (8 : Int) < (r.length : Int) := by have := H.hr; omega
  have r9 := hrw 9 (by omega)
  have i9 : I64 (zat r 9) := H.fr 9
  have l9 : (9 : Int) < (r.length : Int) := by have := H.hr; omega
  have r11 := hrw 11 (by omega)
  have i11 : I64 (zat r 11) := H.fr 11
  have l11 : (11 : Int) < (r.length : Int) := by have := H.hr; omega
  clear hrw
  have HE : Hid (tvW p r ⟨3, ia, ib, ic⟩ = (((((zat r 7) * (zat r 8)) % (p : Int)) - (zat r 9)) % (p : Int))) := by
    unfold Hid
    rw [show tvW p r ⟨3, ia, ib, ic⟩ = (zat r 7 * zat r 8 - zat r 9) % (p : Int) from rfl]
    simp only [em_sub1]
  obtain ⟨R, hR⟩ : ∃ R, R = tvW p r ⟨3, ia, ib, ic⟩ := ⟨_, rfl⟩
  rw [← hR] at HE ⊢
  clear hR
  have HC0 : Hid (∀ W : World, W.cell? ⟨V, 0, none⟩ = some (.int .i64 p) → Calls Tryd.prog 23 #[.pointer (some ⟨V, 0, none⟩), .int .i64 (zat r 7), .int .i64 (zat r 8)] W fun e w' => e = .returned (.int .i64 (((zat r 7) * (zat r 8)) % (p : Int))) ∧ w' = W) := fun W h => wmul_any p V _ _ W h3 h4 h i7 i8
  have HC1 : Hid (∀ W : World, W.cell? ⟨V, 0, none⟩ = some (.int .i64 p) → Calls Tryd.prog 24 #[.pointer (some ⟨V, 0, none⟩), .int .i64 (((zat r 7) * (zat r 8)) % (p : Int)), .int .i64 (zat r 9)] W fun e w' => e = .returned (.int .i64 (((((zat r 7) * (zat r 8)) % (p : Int)) - (zat r 9)) % (p : Int))) ∧ w' = W) := fun W h => wsub_any p V _ _ W h3 h4 h (HEM.out _) i9
  clear i7 i8 i9 i11
  clear HEM H hV
  generalize (((((zat r 7) * (zat r 8)) % (p : Int)) - (zat r 9)) % (p : Int)) = t2 at *
  generalize (((zat r 7) * (zat r 8)) % (p : Int)) = t1 at *
  generalize zat r 7 = x7 at *
  generalize zat r 8 = x8 at *
  generalize zat r 9 = x9 at *
  generalize zat r 11 = x11 at *
  generalize r.length = lr at *
  generalize L.length = nL at *
  subst hW0
  go_enter Tryd.func46, Tryd.ntmps46
  go_wp2_with fail
  refine (HC0.out _ c0).mono ?_
  rintro e w' ⟨rfl, hw'⟩
  have hw'' := hw'.symm
  subst hw''
  clear hw'
  go_wp2_with fail
  refine (HC1.out _ c0).mono ?_
  rintro e w' ⟨rfl, hw'⟩
  have hw'' := hw'.symm
  subst hw''
  clear hw'
  go_wp2_with fail
  go_ret
  exact ⟨by have h := HE.out; subst h; rfl, HB0.out⟩

set_option maxRecDepth 100000 in
set_option maxHeartbeats 2000000 in
theorem wdoes_4 (p V : Nat) (L : List InsZ) (size out : Int) (r n : List Int) (aL : Option Addr) (cL : Nat) (ar : Option Addr) (cr : Nat) (an : Option Addr) (cn : Nat) (w : World) (H : VF p L size out r n) (hV : WW p V L size out r n aL cL ar cr an cn w) (ia ib ic : Int) (hi : I64 ia ∧ I64 ib ∧ I64 ic) :
    Calls Tryd.prog 46 #[.pointer (some ⟨V, 0, none⟩), .agg #[.int .i64 4, .int .i64 ia, .int .i64 ib, .int .i64 ic]] w fun e w' => e = .returned (.int .i64 (tvW p r ⟨4, ia, ib, ic⟩)) ∧ Below w.heap.size w w' := by
  have h3 := H.h3
  have h4 := H.h4
  have HEM : Hid (∀ a : Int, I64 (a % (p : Int))) := fun a => by have := emod_bounds a p H.h3; have := H.h4; unfold I64; omega
  obtain ⟨hia, hib, hic⟩ := hi
  obtain ⟨W0, hW0⟩ : ∃ W0, W0 = w.alloc (.cells #[.int .i64 4, .int .i64 ia, .int .i64 ib, .int .i64 ic] 83) := ⟨_, rfl⟩
  have hb0 : Below w.heap.size w W0 := by rw [hW0]; exact (Below.refl _ _).alloc (Nat.le_refl _) _
  replace hV := hV.below hb0
  have HB0 := hid hb0
  clear hb0
  obtain ⟨c0, c1, c2, c3, c4, c5⟩ := hV.cells
  have QP : Hid (∀ nn, (W0.drewN nn).cell? ⟨V, 0, none⟩ = some (.int .i64 p)) := fun nn => c0
  obtain ⟨br, orr, har, hrw⟩ := rowB_at hV.row H.hr
  subst har
  have r7 := hrw 7 (by omega)
  have i7 : I64 (zat r 7) := H.fr 7
  have l7 : (7 : Int) < (r.length : Int) := by have := H.hr; omega
  have r8 := hrw 8 (by omega)
  have i8 : I64 (zat r 8) := H.fr 8
  have l8 : (8 : Int) < (r.length : Int) := by have := H.hr; omega
  have r9 := hrw 9 (by omega)
  have i9 : I64 (zat r 9) := H.fr 9
  have l9 : (9 : Int) < (r.length : Int) := by have := H.hr; omega
  have r11 := hrw 11 (by omega)
  have i11 : I64 (zat r 11) := H.fr 11
  have l11 : (11 : Int) < (r.length : Int) := by have := H.hr; omega
  clear hrw
  have HE : Hid (tvW p r ⟨4, ia, ib, ic⟩ = (((((zat r 9) * (zat r 8)) % (p : Int)) - (zat r 7)) % (p : Int))) := by
    unfold Hid
    rw [show tvW p r ⟨4, ia, ib, ic⟩ = (zat r 9 * zat r 8 - zat r 7) % (p : Int) from rfl]
    simp only [em_sub1]
  obtain ⟨R, hR⟩ : ∃ R, R = tvW p r ⟨4, ia, ib, ic⟩ := ⟨_, rfl⟩
  rw [← hR] at HE ⊢
  clear hR
  have HC0 : Hid (∀ W : World, W.cell? ⟨V, 0, none⟩ = some (.int .i64 p) → Calls Tryd.prog 23 #[.pointer (some ⟨V, 0, none⟩), .int .i64 (zat r 9), .int .i64 (zat r 8)] W fun e w' => e = .returned (.int .i64 (((zat r 9) * (zat r 8)) % (p : Int))) ∧ w' = W) := fun W h => wmul_any p V _ _ W h3 h4 h i9 i8
  have HC1 : Hid (∀ W : World, W.cell? ⟨V, 0, none⟩ = some (.int .i64 p) → Calls Tryd.prog 24 #[.pointer (some ⟨V, 0, none⟩), .int .i64 (((zat r 9) * (zat r 8)) % (p : Int)), .int .i64 (zat r 7)] W fun e w' => e = .returned (.int .i64 (((((zat r 9) * (zat r 8)) % (p : Int)) - (zat r 7)) % (p : Int))) ∧ w' = W) := fun W h => wsub_any p V _ _ W h3 h4 h (HEM.out _) i7
  clear i7 i8 i9 i11
  clear HEM H hV
  generalize (((((zat r 9) * (zat r 8)) % (p : Int)) - (zat r 7)) % (p : Int)) = t2 at *
  generalize (((zat r 9) * (zat r 8)) % (p : Int)) = t1 at *
  generalize zat r 7 = x7 at *
  generalize zat r 8 = x8 at *
  generalize zat r 9 = x9 at *
  generalize zat r 11 = x11 at *
  generalize r.length = lr at *
  generalize L.length = nL at *
  subst hW0
  go_enter Tryd.func46, Tryd.ntmps46
  go_wp2_with fail
  refine (HC0.out _ c0).mono ?_
  rintro e w' ⟨rfl, hw'⟩
  have hw'' := hw'.symm
  subst hw''
  clear hw'
  go_wp2_with fail
  refine (HC1.out _ c0).mono ?_
  rintro e w' ⟨rfl, hw'⟩
  have hw'' := hw'.symm
  subst hw''
  clear hw'
  go_wp2_with fail
  go_ret
  exact ⟨by have h := HE.out; subst h; rfl, HB0.out⟩

set_option maxRecDepth 100000 in
set_option maxHeartbeats 2000000 in
theorem wdoes_5 (p V : Nat) (L : List InsZ) (size out : Int) (r n : List Int) (aL : Option Addr) (cL : Nat) (ar : Option Addr) (cr : Nat) (an : Option Addr) (cn : Nat) (w : World) (H : VF p L size out r n) (hV : WW p V L size out r n aL cL ar cr an cn w) (ia ib ic : Int) (hi : I64 ia ∧ I64 ib ∧ I64 ic) :
    Calls Tryd.prog 46 #[.pointer (some ⟨V, 0, none⟩), .agg #[.int .i64 5, .int .i64 ia, .int .i64 ib, .int .i64 ic]] w fun e w' => e = .returned (.int .i64 (tvW p r ⟨5, ia, ib, ic⟩)) ∧ Below w.heap.size w w' := by
  have h3 := H.h3
  have h4 := H.h4
  have HEM : Hid (∀ a : Int, I64 (a % (p : Int))) := fun a => by have := emod_bounds a p H.h3; have := H.h4; unfold I64; omega
  obtain ⟨hia, hib, hic⟩ := hi
  obtain ⟨W0, hW0⟩ : ∃ W0, W0 = w.alloc (.cells #[.int .i64 5, .int .i64 ia, .int .i64 ib, .int .i64 ic] 83) := ⟨_, rfl⟩
  have hb0 : Below w.heap.size w W0 := by rw [hW0]; exact (Below.refl _ _).alloc (Nat.le_refl _) _
  replace hV := hV.below hb0
  have HB0 := hid hb0
  clear hb0
  obtain ⟨c0, c1, c2, c3, c4, c5⟩ := hV.cells
  have QP : Hid (∀ nn, (W0.drewN nn).cell? ⟨V, 0, none⟩ = some (.int .i64 p)) := fun nn => c0
  obtain ⟨br, orr, har, hrw⟩ := rowB_at hV.row H.hr
  subst har
  have r7 := hrw 7 (by omega)
  have i7 : I64 (zat r 7) := H.fr 7
  have l7 : (7 : Int) < (r.length : Int) := by have := H.hr; omega
  have r8 := hrw 8 (by omega)
  have i8 : I64 (zat r 8) := H.fr 8
  have l8 : (8 : Int) < (r.length : Int) := by have := H.hr; omega
  have r9 := hrw 9 (by omega)
  have i9 : I64 (zat r 9) := H.fr 9
  have l9 : (9 : Int) < (r.length : Int) := by have := H.hr; omega
  have r11 := hrw 11 (by omega)
  have i11 : I64 (zat r 11) := H.fr 11
  have l11 : (11 : Int) < (r.length : Int) := by have := H.hr; omega
  clear hrw
  have HE : Hid (tvW p r ⟨5, ia, ib, ic⟩ = (((zat r 7) - ib) % (p : Int))) := by
    unfold Hid
    rw [show tvW p r ⟨5, ia, ib, ic⟩ = (zat r 7 - ib) % (p : Int) from rfl]
  obtain ⟨R, hR⟩ : ∃ R, R = tvW p r ⟨5, ia, ib, ic⟩ := ⟨_, rfl⟩
  rw [← hR] at HE ⊢
  clear hR
  have HC0 : Hid (∀ W : World, W.cell? ⟨V, 0, none⟩ = some (.int .i64 p) → Calls Tryd.prog 24 #[.pointer (some ⟨V, 0, none⟩), .int .i64 (zat r 7), .int .i64 ib] W fun e w' => e = .returned (.int .i64 (((zat r 7) - ib) % (p : Int))) ∧ w' = W) := fun W h => wsub_any p V _ _ W h3 h4 h i7 hib
  clear i7 i8 i9 i11
  clear HEM H hV
  generalize (((zat r 7) - ib) % (p : Int)) = t1 at *
  generalize zat r 7 = x7 at *
  generalize zat r 8 = x8 at *
  generalize zat r 9 = x9 at *
  generalize zat r 11 = x11 at *
  generalize r.length = lr at *
  generalize L.length = nL at *
  subst hW0
  go_enter Tryd.func46, Tryd.ntmps46
  go_wp2_with fail
  refine (HC0.out _ c0).mono ?_
  rintro e w' ⟨rfl, hw'⟩
  have hw'' := hw'.symm
  subst hw''
  clear hw'
  go_wp2_with fail
  go_ret
  exact ⟨by have h := HE.out; subst h; rfl, HB0.out⟩

set_option maxRecDepth 100000 in
set_option maxHeartbeats 2000000 in
theorem wdoes_6 (p V : Nat) (L : List InsZ) (size out : Int) (r n : List Int) (aL : Option Addr) (cL : Nat) (ar : Option Addr) (cr : Nat) (an : Option Addr) (cn : Nat) (w : World) (H : VF p L size out r n) (hV : WW p V L size out r n aL cL ar cr an cn w) (ia ib ic : Int) (hi : I64 ia ∧ I64 ib ∧ I64 ic) :
    Calls Tryd.prog 46 #[.pointer (some ⟨V, 0, none⟩), .agg #[.int .i64 6, .int .i64 ia, .int .i64 ib, .int .i64 ic]] w fun e w' => e = .returned (.int .i64 (tvW p r ⟨6, ia, ib, ic⟩)) ∧ Below w.heap.size w w' := by
  have h3 := H.h3
  have h4 := H.h4
  have HEM : Hid (∀ a : Int, I64 (a % (p : Int))) := fun a => by have := emod_bounds a p H.h3; have := H.h4; unfold I64; omega
  obtain ⟨hia, hib, hic⟩ := hi
  obtain ⟨W0, hW0⟩ : ∃ W0, W0 = w.alloc (.cells #[.int .i64 6, .int .i64 ia, .int .i64 ib, .int .i64 ic] 83) := ⟨_, rfl⟩
  have hb0 : Below w.heap.size w W0 := by rw [hW0]; exact (Below.refl _ _).alloc (Nat.le_refl _) _
  replace hV := hV.below hb0
  have HB0 := hid hb0
  clear hb0
  obtain ⟨c0, c1, c2, c3, c4, c5⟩ := hV.cells
  have QP : Hid (∀ nn, (W0.drewN nn).cell? ⟨V, 0, none⟩ = some (.int .i64 p)) := fun nn => c0
  obtain ⟨br, orr, har, hrw⟩ := rowB_at hV.row H.hr
  subst har
  have r7 := hrw 7 (by omega)
  have i7 : I64 (zat r 7) := H.fr 7
  have l7 : (7 : Int) < (r.length : Int) := by have := H.hr; omega
  have r8 := hrw 8 (by omega)
  have i8 : I64 (zat r 8) := H.fr 8
  have l8 : (8 : Int) < (r.length : Int) := by have := H.hr; omega
  have r9 := hrw 9 (by omega)
  have i9 : I64 (zat r 9) := H.fr 9
  have l9 : (9 : Int) < (r.length : Int) := by have := H.hr; omega
  have r11 := hrw 11 (by omega)
  have i11 : I64 (zat r 11) := H.fr 11
  have l11 : (11 : Int) < (r.length : Int) := by have := H.hr; omega
  clear hrw
  have HE : Hid (tvW p r ⟨6, ia, ib, ic⟩ = (((((((zat r 7) - (zat r 8)) % (p : Int)) * (zat r 11)) % (p : Int)) - (((1 : Int) - (zat r 9)) % (p : Int))) % (p : Int))) := by
    unfold Hid
    rw [show tvW p r ⟨6, ia, ib, ic⟩ = ((zat r 7 - zat r 8) * zat r 11 - (1 - zat r 9)) % (p : Int) from rfl]
    simp only [em_mul1, em_sub1, em_sub2]
  obtain ⟨R, hR⟩ : ∃ R, R = tvW p r ⟨6, ia, ib, ic⟩ := ⟨_, rfl⟩
  rw [← hR] at HE ⊢
  clear hR
  have HC0 : Hid (∀ W : World, W.cell? ⟨V, 0, none⟩ = some (.int .i64 p) → Calls Tryd.prog 24 #[.pointer (some ⟨V, 0, none⟩), .int .i64 (zat r 7), .int .i64 (zat r 8)] W fun e w' => e = .returned (.int .i64 (((zat r 7) - (zat r 8)) % (p : Int))) ∧ w' = W) := fun W h => wsub_any p V _ _ W h3 h4 h i7 i8
  have HC1 : Hid (∀ W : World, W.cell? ⟨V, 0, none⟩ = some (.int .i64 p) → Calls Tryd.prog 23 #[.pointer (some ⟨V, 0, none⟩), .int .i64 (((zat r 7) - (zat r 8)) % (p : Int)), .int .i64 (zat r 11)] W fun e w' => e = .returned (.int .i64 (((((zat r 7) - (zat r 8)) % (p : Int)) * (zat r 11)) % (p : Int))) ∧ w' = W) := fun W h => wmul_any p V _ _ W h3 h4 h (HEM.out _) i11
  have HC2 : Hid (∀ W : World, W.cell? ⟨V, 0, none⟩ = some (.int .i64 p) → Calls Tryd.prog 24 #[.pointer (some ⟨V, 0, none⟩), .int .i64 (1 : Int), .int .i64 (zat r 9)] W fun e w' => e = .returned (.int .i64 (((1 : Int) - (zat r 9)) % (p : Int))) ∧ w' = W) := fun W h => wsub_any p V _ _ W h3 h4 h (show I64 (1 : Int) by unfold I64; decide) i9
  have HC3 : Hid (∀ W : World, W.cell? ⟨V, 0, none⟩ = some (.int .i64 p) → Calls Tryd.prog 24 #[.pointer (some ⟨V, 0, none⟩), .int .i64 (((((zat r 7) - (zat r 8)) % (p : Int)) * (zat r 11)) % (p : Int)), .int .i64 (((1 : Int) - (zat r 9)) % (p : Int))] W fun e w' => e = .returned (.int .i64 (((((((zat r 7) - (zat r 8)) % (p : Int)) * (zat r 11)) % (p : Int)) - (((1 : Int) - (zat r 9)) % (p : Int))) % (p : Int))) ∧ w' = W) := fun W h => wsub_any p V _ _ W h3 h4 h (HEM.out _) (HEM.out _)
  clear i7 i8 i9 i11
  clear HEM H hV
  generalize (((((((zat r 7) - (zat r 8)) % (p : Int)) * (zat r 11)) % (p : Int)) - (((1 : Int) - (zat r 9)) % (p : Int))) % (p : Int)) = t4 at *
  generalize (((1 : Int) - (zat r 9)) % (p : Int)) = t3 at *
  generalize (((((zat r 7) - (zat r 8)) % (p : Int)) * (zat r 11)) % (p : Int)) = t2 at *
  generalize (((zat r 7) - (zat r 8)) % (p : Int)) = t1 at *
  generalize zat r 7 = x7 at *
  generalize zat r 8 = x8 at *
  generalize zat r 9 = x9 at *
  generalize zat r 11 = x11 at *
  generalize r.length = lr at *
  generalize L.length = nL at *
  subst hW0
  go_enter Tryd.func46, Tryd.ntmps46
  go_wp2_with fail
  refine (HC0.out _ c0).mono ?_
  rintro e w' ⟨rfl, hw'⟩
  have hw'' := hw'.symm
  subst hw''
  clear hw'
  go_wp2_with fail
  refine (HC1.out _ c0).mono ?_
  rintro e w' ⟨rfl, hw'⟩
  have hw'' := hw'.symm
  subst hw''
  clear hw'
  go_wp2_with fail
  refine (HC2.out _ c0).mono ?_
  rintro e w' ⟨rfl, hw'⟩
  have hw'' := hw'.symm
  subst hw''
  clear hw'
  go_wp2_with fail
  refine (HC3.out _ c0).mono ?_
  rintro e w' ⟨rfl, hw'⟩
  have hw'' := hw'.symm
  subst hw''
  clear hw'
  go_wp2_with fail
  go_ret
  exact ⟨by have h := HE.out; subst h; rfl, HB0.out⟩

set_option maxRecDepth 100000 in
set_option maxHeartbeats 2000000 in
theorem wdoes_7 (p V : Nat) (L : List InsZ) (size out : Int) (r n : List Int) (aL : Option Addr) (cL : Nat) (ar : Option Addr) (cr : Nat) (an : Option Addr) (cn : Nat) (w : World) (H : VF p L size out r n) (hV : WW p V L size out r n aL cL ar cr an cn w) (ia ib ic : Int) (hi : I64 ia ∧ I64 ib ∧ I64 ic) :
    Calls Tryd.prog 46 #[.pointer (some ⟨V, 0, none⟩), .agg #[.int .i64 7, .int .i64 ia, .int .i64 ib, .int .i64 ic]] w fun e w' => e = .returned (.int .i64 (tvW p r ⟨7, ia, ib, ic⟩)) ∧ Below w.heap.size w w' := by
  have h3 := H.h3
  have h4 := H.h4
  have HEM : Hid (∀ a : Int, I64 (a % (p : Int))) := fun a => by have := emod_bounds a p H.h3; have := H.h4; unfold I64; omega
  obtain ⟨hia, hib, hic⟩ := hi
  obtain ⟨W0, hW0⟩ : ∃ W0, W0 = w.alloc (.cells #[.int .i64 7, .int .i64 ia, .int .i64 ib, .int .i64 ic] 83) := ⟨_, rfl⟩
  have hb0 : Below w.heap.size w W0 := by rw [hW0]; exact (Below.refl _ _).alloc (Nat.le_refl _) _
  replace hV := hV.below hb0
  have HB0 := hid hb0
  clear hb0
  obtain ⟨c0, c1, c2, c3, c4, c5⟩ := hV.cells
  have QP : Hid (∀ nn, (W0.drewN nn).cell? ⟨V, 0, none⟩ = some (.int .i64 p)) := fun nn => c0
  obtain ⟨br, orr, har, hrw⟩ := rowB_at hV.row H.hr
  subst har
  have r7 := hrw 7 (by omega)
  have i7 : I64 (zat r 7) := H.fr 7
  have l7 : (7 : Int) < (r.length : Int) := by have := H.hr; omega
  have r8 := hrw 8 (by omega)
  have i8 : I64 (zat r 8) := H.fr 8
  have l8 : (8 : Int) < (r.length : Int) := by have := H.hr; omega
  have r9 := hrw 9 (by omega)
  have i9 : I64 (zat r 9) := H.fr 9
  have l9 : (9 : Int) < (r.length : Int) := by have := H.hr; omega
  have r11 := hrw 11 (by omega)
  have i11 : I64 (zat r 11) := H.fr 11
  have l11 : (11 : Int) < (r.length : Int) := by have := H.hr; omega
  clear hrw
  have HE : Hid (tvW p r ⟨7, ia, ib, ic⟩ = (((zat r 7) - (zat r 8)) % (p : Int))) := by
    unfold Hid
    rw [show tvW p r ⟨7, ia, ib, ic⟩ = (zat r 7 - zat r 8) % (p : Int) from rfl]
  obtain ⟨R, hR⟩ : ∃ R, R = tvW p r ⟨7, ia, ib, ic⟩ := ⟨_, rfl⟩
  rw [← hR] at HE ⊢
  clear hR
  have HC0 : Hid (∀ W : World, W.cell? ⟨V, 0, none⟩ = some (.int .i64 p) → Calls Tryd.prog 24 #[.pointer (some ⟨V, 0, none⟩), .int .i64 (zat r 7), .int .i64 (zat r 8)] W fun e w' => e = .returned (.int .i64 (((zat r 7) - (zat r 8)) % (p : Int))) ∧ w' = W) := fun W h => wsub_any p V _ _ W h3 h4 h i7 i8
  clear i7 i8 i9 i11
  clear HEM H hV
  generalize (((zat r 7) - (zat r 8)) % (p : Int)) = t1 at *
  generalize zat r 7 = x7 at *
  generalize zat r 8 = x8 at *
  generalize zat r 9 = x9 at *
  generalize zat r 11 = x11 at *
  generalize r.length = lr at *
  generalize L.length = nL at *
  subst hW0
  go_enter Tryd.func46, Tryd.ntmps46
  go_wp2_with fail
  refine (HC0.out _ c0).mono ?_
  rintro e w' ⟨rfl, hw'⟩
  have hw'' := hw'.symm
  subst hw''
  clear hw'
  go_wp2_with fail
  go_ret
  exact ⟨by have h := HE.out; subst h; rfl, HB0.out⟩

set_option maxRecDepth 100000 in
set_option maxHeartbeats 2000000 in
theorem wdoes_13 (p V : Nat) (L : List InsZ) (size out : Int) (r n : List Int) (aL : Option Addr) (cL : Nat) (ar : Option Addr) (cr : Nat) (an : Option Addr) (cn : Nat) (w : World) (H : VF p L size out r n) (hV : WW p V L size out r n aL cL ar cr an cn w) (ia ib ic : Int) (hi : I64 ia ∧ I64 ib ∧ I64 ic) :
    Calls Tryd.prog 46 #[.pointer (some ⟨V, 0, none⟩), .agg #[.int .i64 13, .int .i64 ia, .int .i64 ib, .int .i64 ic]] w fun e w' => e = .returned (.int .i64 (tvW p r ⟨13, ia, ib, ic⟩)) ∧ Below w.heap.size w w' := by
  have h3 := H.h3
  have h4 := H.h4
  have HEM : Hid (∀ a : Int, I64 (a % (p : Int))) := fun a => by have := emod_bounds a p H.h3; have := H.h4; unfold I64; omega
  obtain ⟨hia, hib, hic⟩ := hi
  obtain ⟨W0, hW0⟩ : ∃ W0, W0 = w.alloc (.cells #[.int .i64 13, .int .i64 ia, .int .i64 ib, .int .i64 ic] 83) := ⟨_, rfl⟩
  have hb0 : Below w.heap.size w W0 := by rw [hW0]; exact (Below.refl _ _).alloc (Nat.le_refl _) _
  replace hV := hV.below hb0
  have HB0 := hid hb0
  clear hb0
  obtain ⟨c0, c1, c2, c3, c4, c5⟩ := hV.cells
  have QP : Hid (∀ nn, (W0.drewN nn).cell? ⟨V, 0, none⟩ = some (.int .i64 p)) := fun nn => c0
  obtain ⟨br, orr, har, hrw⟩ := rowB_at hV.row H.hr
  subst har
  have r7 := hrw 7 (by omega)
  have i7 : I64 (zat r 7) := H.fr 7
  have l7 : (7 : Int) < (r.length : Int) := by have := H.hr; omega
  have r8 := hrw 8 (by omega)
  have i8 : I64 (zat r 8) := H.fr 8
  have l8 : (8 : Int) < (r.length : Int) := by have := H.hr; omega
  have r9 := hrw 9 (by omega)
  have i9 : I64 (zat r 9) := H.fr 9
  have l9 : (9 : Int) < (r.length : Int) := by have := H.hr; omega
  have r11 := hrw 11 (by omega)
  have i11 : I64 (zat r 11) := H.fr 11
  have l11 : (11 : Int) < (r.length : Int) := by have := H.hr; omega
  clear hrw
  have HE : Hid (tvW p r ⟨13, ia, ib, ic⟩ = (((zat r 7) - (zat r 8)) % (p : Int))) := by
    unfold Hid
    rw [show tvW p r ⟨13, ia, ib, ic⟩ = (zat r 7 - zat r 8) % (p : Int) from rfl]
  obtain ⟨R, hR⟩ : ∃ R, R = tvW p r ⟨13, ia, ib, ic⟩ := ⟨_, rfl⟩
  rw [← hR] at HE ⊢
  clear hR
  have HC0 : Hid (∀ W : World, W.cell? ⟨V, 0, none⟩ = some (.int .i64 p) → Calls Tryd.prog 24 #[.pointer (some ⟨V, 0, none⟩), .int .i64 (zat r 7), .int .i64 (zat r 8)] W fun e w' => e = .returned (.int .i64 (((zat r 7) - (zat r 8)) % (p : Int))) ∧ w' = W) := fun W h => wsub_any p V _ _ W h3 h4 h i7 i8
  clear i7 i8 i9 i11
  clear HEM H hV
  generalize (((zat r 7) - (zat r 8)) % (p : Int)) = t1 at *
  generalize zat r 7 = x7 at *
  generalize zat r 8 = x8 at *
  generalize zat r 9 = x9 at *
  generalize zat r 11 = x11 at *
  generalize r.length = lr at *
  generalize L.length = nL at *
  subst hW0
  go_enter Tryd.func46, Tryd.ntmps46
  go_wp2_with fail
  refine (HC0.out _ c0).mono ?_
  rintro e w' ⟨rfl, hw'⟩
  have hw'' := hw'.symm
  subst hw''
  clear hw'
  go_wp2_with fail
  go_ret
  exact ⟨by have h := HE.out; subst h; rfl, HB0.out⟩

set_option maxRecDepth 100000 in
set_option maxHeartbeats 2000000 in
theorem wdoes_9 (p V : Nat) (L : List InsZ) (size out : Int) (r n : List Int) (aL : Option Addr) (cL : Nat) (ar : Option Addr) (cr : Nat) (an : Option Addr) (cn : Nat) (w : World) (H : VF p L size out r n) (hV : WW p V L size out r n aL cL ar cr an cn w) (ia ib ic : Int) (hi : I64 ia ∧ I64 ib ∧ I64 ic) :
    Calls Tryd.prog 46 #[.pointer (some ⟨V, 0, none⟩), .agg #[.int .i64 9, .int .i64 ia, .int .i64 ib, .int .i64 ic]] w fun e w' => e = .returned (.int .i64 (tvW p r ⟨9, ia, ib, ic⟩)) ∧ Below w.heap.size w w' := by
  have h3 := H.h3
  have h4 := H.h4
  have HEM : Hid (∀ a : Int, I64 (a % (p : Int))) := fun a => by have := emod_bounds a p H.h3; have := H.h4; unfold I64; omega
  obtain ⟨hia, hib, hic⟩ := hi
  obtain ⟨W0, hW0⟩ : ∃ W0, W0 = w.alloc (.cells #[.int .i64 9, .int .i64 ia, .int .i64 ib, .int .i64 ic] 83) := ⟨_, rfl⟩
  have hb0 : Below w.heap.size w W0 := by rw [hW0]; exact (Below.refl _ _).alloc (Nat.le_refl _) _
  replace hV := hV.below hb0
  have HB0 := hid hb0
  clear hb0
  obtain ⟨c0, c1, c2, c3, c4, c5⟩ := hV.cells
  have QP : Hid (∀ nn, (W0.drewN nn).cell? ⟨V, 0, none⟩ = some (.int .i64 p)) := fun nn => c0
  obtain ⟨br, orr, har, hrw⟩ := rowB_at hV.row H.hr
  subst har
  have r7 := hrw 7 (by omega)
  have i7 : I64 (zat r 7) := H.fr 7
  have l7 : (7 : Int) < (r.length : Int) := by have := H.hr; omega
  have r8 := hrw 8 (by omega)
  have i8 : I64 (zat r 8) := H.fr 8
  have l8 : (8 : Int) < (r.length : Int) := by have := H.hr; omega
  have r9 := hrw 9 (by omega)
  have i9 : I64 (zat r 9) := H.fr 9
  have l9 : (9 : Int) < (r.length : Int) := by have := H.hr; omega
  have r11 := hrw 11 (by omega)
  have i11 : I64 (zat r 11) := H.fr 11
  have l11 : (11 : Int) < (r.length : Int) := by have := H.hr; omega
  clear hrw
  have HE : Hid (tvW p r ⟨9, ia, ib, ic⟩ = (((zat r 7) * (((1 : Int) - (((zat r 11) * (zat r 7)) % (p : Int))) % (p : Int))) % (p : Int))) := by
    unfold Hid
    rw [show tvW p r ⟨9, ia, ib, ic⟩ = (zat r 7 * (1 - zat r 11 * zat r 7)) % (p : Int) from rfl]
    simp only [em_mul2, em_sub2]
  obtain ⟨R, hR⟩ : ∃ R, R = tvW p r ⟨9, ia, ib, ic⟩ := ⟨_, rfl⟩
  rw [← hR] at HE ⊢
  clear hR
  have HC0 : Hid (∀ W : World, W.cell? ⟨V, 0, none⟩ = some (.int .i64 p) → Calls Tryd.prog 23 #[.pointer (some ⟨V, 0, none⟩), .int .i64 (zat r 11), .int .i64 (zat r 7)] W fun e w' => e = .returned (.int .i64 (((zat r 11) * (zat r 7)) % (p : Int))) ∧ w' = W) := fun W h => wmul_any p V _ _ W h3 h4 h i11 i7
  have HC1 : Hid (∀ W : World, W.cell? ⟨V, 0, none⟩ = some (.int .i64 p) → Calls Tryd.prog 24 #[.pointer (some ⟨V, 0, none⟩), .int .i64 (1 : Int), .int .i64 (((zat r 11) * (zat r 7)) % (p : Int))] W fun e w' => e = .returned (.int .i64 (((1 : Int) - (((zat r 11) * (zat r 7)) % (p : Int))) % (p : Int))) ∧ w' = W) := fun W h => wsub_any p V _ _ W h3 h4 h (show I64 (1 : Int) by unfold I64; decide) (HEM.out _)
  have HC2 : Hid (∀ W : World, W.cell? ⟨V, 0, none⟩ = some (.int .i64 p) → Calls Tryd.prog 23 #[.pointer (some ⟨V, 0, none⟩), .int .i64 (zat r 7), .int .i64 (((1 : Int) - (((zat r 11) * (zat r 7)) % (p : Int))) % (p : Int))] W fun e w' => e = .returned (.int .i64 (((zat r 7) * (((1 : Int) - (((zat r 11) * (zat r 7)) % (p : Int))) % (p : Int))) % (p : Int))) ∧ w' = W) := fun W h => wmul_any p V _ _ W h3 h4 h i7 (HEM.out _)
  clear i7 i8 i9 i11
  clear HEM H hV
  generalize (((zat r 7) * (((1 : Int) - (((zat r 11) * (zat r 7)) % (p : Int))) % (p : Int))) % (p : Int)) = t3 at *
  generalize (((1 : Int) - (((zat r 11) * (zat r 7)) % (p : Int))) % (p : Int)) = t2 at *
  generalize (((zat r 11) * (zat r 7)) % (p : Int)) = t1 at *
  generalize zat r 7 = x7 at *
  generalize zat r 8 = x8 at *
  generalize zat r 9 = x9 at *
  generalize zat r 11 = x11 at *
  generalize r.length = lr at *
  generalize L.length = nL at *
  subst hW0
  go_enter Tryd.func46, Tryd.ntmps46
  go_wp2_with fail
  refine (HC0.out _ c0).mono ?_
  rintro e w' ⟨rfl, hw'⟩
  have hw'' := hw'.symm
  subst hw''
  clear hw'
  go_wp2_with fail
  refine (HC1.out _ c0).mono ?_
  rintro e w' ⟨rfl, hw'⟩
  have hw'' := hw'.symm
  subst hw''
  clear hw'
  go_wp2_with fail
  refine (HC2.out _ c0).mono ?_
  rintro e w' ⟨rfl, hw'⟩
  have hw'' := hw'.symm
  subst hw''
  clear hw'
  go_wp2_with fail
  go_ret
  exact ⟨by have h := HE.out; subst h; rfl, HB0.out⟩

set_option maxRecDepth 100000 in
set_option maxHeartbeats 2000000 in
theorem wdoes_10 (p V : Nat) (L : List InsZ) (size out : Int) (r n : List Int) (aL : Option Addr) (cL : Nat) (ar : Option Addr) (cr : Nat) (an : Option Addr) (cn : Nat) (w : World) (H : VF p L size out r n) (hV : WW p V L size out r n aL cL ar cr an cn w) (ia ib ic : Int) (hi : I64 ia ∧ I64 ib ∧ I64 ic) :
    Calls Tryd.prog 46 #[.pointer (some ⟨V, 0, none⟩), .agg #[.int .i64 10, .int .i64 ia, .int .i64 ib, .int .i64 ic]] w fun e w' => e = .returned (.int .i64 (tvW p r ⟨10, ia, ib, ic⟩)) ∧ Below w.heap.size w w' := by
  have h3 := H.h3
  have h4 := H.h4
  have HEM : Hid (∀ a : Int, I64 (a % (p : Int))) := fun a => by have := emod_bounds a p H.h3; have := H.h4; unfold I64; omega
  obtain ⟨hia, hib, hic⟩ := hi
  obtain ⟨W0, hW0⟩ : ∃ W0, W0 = w.alloc (.cells #[.int .i64 10, .int .i64 ia, .int .i64 ib, .int .i64 ic] 83) := ⟨_, rfl⟩
  have hb0 : Below w.heap.size w W0 := by rw [hW0]; exact (Below.refl _ _).alloc (Nat.le_refl _) _
  replace hV := hV.below hb0
  have HB0 := hid hb0
  clear hb0
  obtain ⟨c0, c1, c2, c3, c4, c5⟩ := hV.cells
  have QP : Hid (∀ nn, (W0.drewN nn).cell? ⟨V, 0, none⟩ = some (.int .i64 p)) := fun nn => c0
  obtain ⟨br, orr, har, hrw⟩ := rowB_at hV.row H.hr
  subst har
  have r0 := hrw 0 (by omega)
  rw [Nat.add_zero] at r0
  have i0 : I64 (zat r 0) := H.fr 0
  have l0 : (0 : Int) < (r.length : Int) := by have := H.hr; omega
  have l0' : 0 < r.length := by have := H.hr; omega
  have r7 := hrw 7 (by omega)
  have i7 : I64 (zat r 7) := H.fr 7
  have l7 : (7 : Int) < (r.length : Int) := by have := H.hr; omega
  have r8 := hrw 8 (by omega)
  have i8 : I64 (zat r 8) := H.fr 8
  have l8 : (8 : Int) < (r.length : Int) := by have := H.hr; omega
  have r9 := hrw 9 (by omega)
  have i9 : I64 (zat r 9) := H.fr 9
  have l9 : (9 : Int) < (r.length : Int) := by have := H.hr; omega
  have r11 := hrw 11 (by omega)
  have i11 : I64 (zat r 11) := H.fr 11
  have l11 : (11 : Int) < (r.length : Int) := by have := H.hr; omega
  clear hrw
  have HE : Hid (tvW p r ⟨10, ia, ib, ic⟩ = (((zat r 7) - (zat r 0)) % (p : Int))) := by
    unfold Hid
    rw [show tvW p r ⟨10, ia, ib, ic⟩ = (zat r 7 - zat r 0) % (p : Int) from rfl]
  obtain ⟨R, hR⟩ : ∃ R, R = tvW p r ⟨10, ia, ib, ic⟩ := ⟨_, rfl⟩
  rw [← hR] at HE ⊢
  clear hR
  have HC0 : Hid (∀ W : World, W.cell? ⟨V, 0, none⟩ = some (.int .i64 p) → Calls Tryd.prog 24 #[.pointer (some ⟨V, 0, none⟩), .int .i64 (zat r 7), .int .i64 (zat r 0)] W fun e w' => e = .returned (.int .i64 (((zat r 7) - (zat r 0)) % (p : Int))) ∧ w' = W) := fun W h => wsub_any p V _ _ W h3 h4 h i7 i0
  clear i0 i7 i8 i9 i11
  clear HEM H hV
  generalize (((zat r 7) - (zat r 0)) % (p : Int)) = t1 at *
  generalize zat r 0 = x0 at *
  generalize zat r 7 = x7 at *
  generalize zat r 8 = x8 at *
  generalize zat r 9 = x9 at *
  generalize zat r 11 = x11 at *
  generalize r.length = lr at *
  generalize L.length = nL at *
  subst hW0
  go_enter Tryd.func46, Tryd.ntmps46
  go_wp2_with fail
  refine (HC0.out _ c0).mono ?_
  rintro e w' ⟨rfl, hw'⟩
  have hw'' := hw'.symm
  subst hw''
  clear hw'
  go_wp2_with fail
  go_ret
  exact ⟨by have h := HE.out; subst h; rfl, HB0.out⟩

set_option maxRecDepth 100000 in
set_option maxHeartbeats 2000000 in
theorem wdoes_12 (p V : Nat) (L : List InsZ) (size out : Int) (r n : List Int) (aL : Option Addr) (cL : Nat) (ar : Option Addr) (cr : Nat) (an : Option Addr) (cn : Nat) (w : World) (H : VF p L size out r n) (hV : WW p V L size out r n aL cL ar cr an cn w) (ia ib ic : Int) (hi : I64 ia ∧ I64 ib ∧ I64 ic) :
    Calls Tryd.prog 46 #[.pointer (some ⟨V, 0, none⟩), .agg #[.int .i64 12, .int .i64 ia, .int .i64 ib, .int .i64 ic]] w fun e w' => e = .returned (.int .i64 (tvW p r ⟨12, ia, ib, ic⟩)) ∧ Below w.heap.size w w' := by
  have h3 := H.h3
  have h4 := H.h4
  have HEM : Hid (∀ a : Int, I64 (a % (p : Int))) := fun a => by have := emod_bounds a p H.h3; have := H.h4; unfold I64; omega
  obtain ⟨hia, hib, hic⟩ := hi
  obtain ⟨W0, hW0⟩ : ∃ W0, W0 = w.alloc (.cells #[.int .i64 12, .int .i64 ia, .int .i64 ib, .int .i64 ic] 83) := ⟨_, rfl⟩
  have hb0 : Below w.heap.size w W0 := by rw [hW0]; exact (Below.refl _ _).alloc (Nat.le_refl _) _
  replace hV := hV.below hb0
  have HB0 := hid hb0
  clear hb0
  obtain ⟨c0, c1, c2, c3, c4, c5⟩ := hV.cells
  have QP : Hid (∀ nn, (W0.drewN nn).cell? ⟨V, 0, none⟩ = some (.int .i64 p)) := fun nn => c0
  obtain ⟨br, orr, har, hrw⟩ := rowB_at hV.row H.hr
  subst har
  have r2 := hrw 2 (by omega)
  have i2 : I64 (zat r 2) := H.fr 2
  have l2 : (2 : Int) < (r.length : Int) := by have := H.hr; omega
  have r7 := hrw 7 (by omega)
  have i7 : I64 (zat r 7) := H.fr 7
  have l7 : (7 : Int) < (r.length : Int) := by have := H.hr; omega
  have r8 := hrw 8 (by omega)
  have i8 : I64 (zat r 8) := H.fr 8
  have l8 : (8 : Int) < (r.length : Int) := by have := H.hr; omega
  have r9 := hrw 9 (by omega)
  have i9 : I64 (zat r 9) := H.fr 9
  have l9 : (9 : Int) < (r.length : Int) := by have := H.hr; omega
  have r11 := hrw 11 (by omega)
  have i11 : I64 (zat r 11) := H.fr 11
  have l11 : (11 : Int) < (r.length : Int) := by have := H.hr; omega
  clear hrw
  have HE : Hid (tvW p r ⟨12, ia, ib, ic⟩ = (((zat r 7) - (zat r 2)) % (p : Int))) := by
    unfold Hid
    rw [show tvW p r ⟨12, ia, ib, ic⟩ = (zat r 7 - zat r 2) % (p : Int) from rfl]
  obtain ⟨R, hR⟩ : ∃ R, R = tvW p r ⟨12, ia, ib, ic⟩ := ⟨_, rfl⟩
  rw [← hR] at HE ⊢
  clear hR
  have HC0 : Hid (∀ W : World, W.cell? ⟨V, 0, none⟩ = some (.int .i64 p) → Calls Tryd.prog 24 #[.pointer (some ⟨V, 0, none⟩), .int .i64 (zat r 7), .int .i64 (zat r 2)] W fun e w' => e = .returned (.int .i64 (((zat r 7) - (zat r 2)) % (p : Int))) ∧ w' = W) := fun W h => wsub_any p V _ _ W h3 h4 h i7 i2
  clear i2 i7 i8 i9 i11
  clear HEM H hV
  generalize (((zat r 7) - (zat r 2)) % (p : Int)) = t1 at *
  generalize zat r 2 = x2 at *
  generalize zat r 7 = x7 at *
  generalize zat r 8 = x8 at *
  generalize zat r 9 = x9 at *
  generalize zat r 11 = x11 at *
  generalize r.length = lr at *
  generalize L.length = nL at *
  subst hW0
  go_enter Tryd.func46, Tryd.ntmps46
  go_wp2_with fail
  refine (HC0.out _ c0).mono ?_
  rintro e w' ⟨rfl, hw'⟩
  have hw'' := hw'.symm
  subst hw''
  clear hw'
  go_wp2_with fail
  go_ret
  exact ⟨by have h := HE.out; subst h; rfl, HB0.out⟩

set_option maxRecDepth 100000 in
set_option maxHeartbeats 2000000 in
theorem wdoes_0 (p V : Nat) (L : List InsZ) (size out : Int) (r n : List Int) (aL : Option Addr) (cL : Nat) (ar : Option Addr) (cr : Nat) (an : Option Addr) (cn : Nat) (w : World) (H : VF p L size out r n) (hV : WW p V L size out r n aL cL ar cr an cn w) (ia ib ic : Int) (hi : I64 ia ∧ I64 ib ∧ I64 ic) :
    Calls Tryd.prog 46 #[.pointer (some ⟨V, 0, none⟩), .agg #[.int .i64 0, .int .i64 ia, .int .i64 ib, .int .i64 ic]] w fun e w' => e = .returned (.int .i64 (tvW p r ⟨0, ia, ib, ic⟩)) ∧ Below w.heap.size w w' := by
  have h3 := H.h3
  have h4 := H.h4
  have HEM : Hid (∀ a : Int, I64 (a % (p : Int))) := fun a => by have := emod_bounds a p H.h3; have := H.h4; unfold I64; omega
  obtain ⟨hia, hib, hic⟩ := hi
  obtain ⟨W0, hW0⟩ : ∃ W0, W0 = w.alloc (.cells #[.int .i64 0, .int .i64 ia, .int .i64 ib, .int .i64 ic] 83) := ⟨_, rfl⟩
  have hb0 : Below w.heap.size w W0 := by rw [hW0]; exact (Below.refl _ _).alloc (Nat.le_refl _) _
  replace hV := hV.below hb0
  have HB0 := hid hb0
  clear hb0
  obtain ⟨c0, c1, c2, c3, c4, c5⟩ := hV.cells
  have QP : Hid (∀ nn, (W0.drewN nn).cell? ⟨V, 0, none⟩ = some (.int .i64 p)) := fun nn => c0
  obtain ⟨br, orr, har, hrw⟩ := rowB_at hV.row H.hr
  subst har
  have r7 := hrw 7 (by omega)
  have i7 : I64 (zat r 7) := H.fr 7
  have l7 : (7 : Int) < (r.length : Int) := by have := H.hr; omega
  have r8 := hrw 8 (by omega)
  have i8 : I64 (zat r 8) := H.fr 8
  have l8 : (8 : Int) < (r.length : Int) := by have := H.hr; omega
  have r9 := hrw 9 (by omega)
  have i9 : I64 (zat r 9) := H.fr 9
  have l9 : (9 : Int) < (r.length : Int) := by have := H.hr; omega
  have r11 := hrw 11 (by omega)
  have i11 : I64 (zat r 11) := H.fr 11
  have l11 : (11 : Int) < (r.length : Int) := by have := H.hr; omega
  clear hrw
  have HE : Hid (tvW p r ⟨0, ia, ib, ic⟩ = 0) := rfl
  obtain ⟨R, hR⟩ : ∃ R, R = tvW p r ⟨0, ia, ib, ic⟩ := ⟨_, rfl⟩
  rw [← hR] at HE ⊢
  clear hR
  clear i7 i8 i9 i11
  clear HEM H hV
  generalize zat r 7 = x7 at *
  generalize zat r 8 = x8 at *
  generalize zat r 9 = x9 at *
  generalize zat r 11 = x11 at *
  generalize r.length = lr at *
  generalize L.length = nL at *
  subst hW0
  go_enter Tryd.func46, Tryd.ntmps46
  go_wp2_with fail
  go_ret
  exact ⟨by have h := HE.out; subst h; rfl, HB0.out⟩

set_option maxRecDepth 100000 in
set_option maxHeartbeats 2000000 in
theorem wdoes_8 (p V : Nat) (L : List InsZ) (size out : Int) (r n : List Int) (aL : Option Addr) (cL : Nat) (ar : Option Addr) (cr : Nat) (an : Option Addr) (cn : Nat) (w : World) (H : VF p L size out r n) (hV : WW p V L size out r n aL cL ar cr an cn w) (ia ib ic : Int) (hi : I64 ia ∧ I64 ib ∧ I64 ic) :
    Calls Tryd.prog 46 #[.pointer (some ⟨V, 0, none⟩), .agg #[.int .i64 8, .int .i64 ia, .int .i64 ib, .int .i64 ic]] w fun e w' => e = .returned (.int .i64 (tvW p r ⟨8, ia, ib, ic⟩)) ∧ Below w.heap.size w w' := by
  have h3 := H.h3
  have h4 := H.h4
  have HEM : Hid (∀ a : Int, I64 (a % (p : Int))) := fun a => by have := emod_bounds a p H.h3; have := H.h4; unfold I64; omega
  obtain ⟨hia, hib, hic⟩ := hi
  obtain ⟨W0, hW0⟩ : ∃ W0, W0 = w.alloc (.cells #[.int .i64 8, .int .i64 ia, .int .i64 ib, .int .i64 ic] 83) := ⟨_, rfl⟩
  have hb0 : Below w.heap.size w W0 := by rw [hW0]; exact (Below.refl _ _).alloc (Nat.le_refl _) _
  replace hV := hV.below hb0
  have HB0 := hid hb0
  clear hb0
  obtain ⟨c0, c1, c2, c3, c4, c5⟩ := hV.cells
  have QP : Hid (∀ nn, (W0.drewN nn).cell? ⟨V, 0, none⟩ = some (.int .i64 p)) := fun nn => c0
  obtain ⟨br, orr, har, hrw⟩ := rowB_at hV.row H.hr
  subst har
  have r7 := hrw 7 (by omega)
  have i7 : I64 (zat r 7) := H.fr 7
  have l7 : (7 : Int) < (r.length : Int) := by have := H.hr; omega
  have r8 := hrw 8 (by omega)
  have i8 : I64 (zat r 8) := H.fr 8
  have l8 : (8 : Int) < (r.length : Int) := by have := H.hr; omega
  have r9 := hrw 9 (by omega)
  have i9 : I64 (zat r 9) := H.fr 9
  have l9 : (9 : Int) < (r.length : Int) := by have := H.hr; omega
  have r11 := hrw 11 (by omega)
  have i11 : I64 (zat r 11) := H.fr 11
  have l11 : (11 : Int) < (r.length : Int) := by have := H.hr; omega
  clear hrw
  have HE : Hid (tvW p r ⟨8, ia, ib, ic⟩ = 0) := rfl
  obtain ⟨R, hR⟩ : ∃ R, R = tvW p r ⟨8, ia, ib, ic⟩ := ⟨_, rfl⟩
  rw [← hR] at HE ⊢
  clear hR
  clear i7 i8 i9 i11
  clear HEM H hV
  generalize zat r 7 = x7 at *
  generalize zat r 8 = x8 at *
  generalize zat r 9 = x9 at *
  generalize zat r 11 = x11 at *
  generalize r.length = lr at *
  generalize L.length = nL at *
  subst hW0
  go_enter Tryd.func46, Tryd.ntmps46
  go_wp2_with fail
  go_ret
  exact ⟨by have h := HE.out; subst h; rfl, HB0.out⟩

set_option maxRecDepth 100000 in
set_option maxHeartbeats 2000000 in
theorem wdoes_11 (p V : Nat) (L : List InsZ) (size out : Int) (r n : List Int) (aL : Option Addr) (cL : Nat) (ar : Option Addr) (cr : Nat) (an : Option Addr) (cn : Nat) (w : World) (H : VF p L size out r n) (hV : WW p V L size out r n aL cL ar cr an cn w) (ia ib ic : Int) (hi : I64 ia ∧ I64 ib ∧ I64 ic) :
    Calls Tryd.prog 46 #[.pointer (some ⟨V, 0, none⟩), .agg #[.int .i64 11, .int .i64 ia, .int .i64 ib, .int .i64 ic]] w fun e w' => e = .returned (.int .i64 (tvW p r ⟨11, ia, ib, ic⟩)) ∧ Below w.heap.size w w' := by
  have h3 := H.h3
  have h4 := H.h4
  have HEM : Hid (∀ a : Int, I64 (a % (p : Int))) := fun a => by have := emod_bounds a p H.h3; have := H.h4; unfold I64; omega
  obtain ⟨hia, hib, hic⟩ := hi
  obtain ⟨W0, hW0⟩ : ∃ W0, W0 = w.alloc (.cells #[.int .i64 11, .int .i64 ia, .int .i64 ib, .int .i64 ic] 83) := ⟨_, rfl⟩
  have hb0 : Below w.heap.size w W0 := by rw [hW0]; exact (Below.refl _ _).alloc (Nat.le_refl _) _
  replace hV := hV.below hb0
  have HB0 := hid hb0
  clear hb0
  obtain ⟨c0, c1, c2, c3, c4, c5⟩ := hV.cells
  have QP : Hid (∀ nn, (W0.drewN nn).cell? ⟨V, 0, none⟩ = some (.int .i64 p)) := fun nn => c0
  obtain ⟨br, orr, har, hrw⟩ := rowB_at hV.row H.hr
  subst har
  have r7 := hrw 7 (by omega)
  have i7 : I64 (zat r 7) := H.fr 7
  have l7 : (7 : Int) < (r.length : Int) := by have := H.hr; omega
  have r8 := hrw 8 (by omega)
  have i8 : I64 (zat r 8) := H.fr 8
  have l8 : (8 : Int) < (r.length : Int) := by have := H.hr; omega
  have r9 := hrw 9 (by omega)
  have i9 : I64 (zat r 9) := H.fr 9
  have l9 : (9 : Int) < (r.length : Int) := by have := H.hr; omega
  have r11 := hrw 11 (by omega)
  have i11 : I64 (zat r 11) := H.fr 11
  have l11 : (11 : Int) < (r.length : Int) := by have := H.hr; omega
  clear hrw
  have HE : Hid (tvW p r ⟨11, ia, ib, ic⟩ = 0) := rfl
  obtain ⟨R, hR⟩ : ∃ R, R = tvW p r ⟨11, ia, ib, ic⟩ := ⟨_, rfl⟩
  rw [← hR] at HE ⊢
  clear hR
  clear i7 i8 i9 i11
  clear HEM H hV
  generalize zat r 7 = x7 at *
  generalize zat r 8 = x8 at *
  generalize zat r 9 = x9 at *
  generalize zat r 11 = x11 at *
  generalize r.length = lr at *
  generalize L.length = nL at *
  subst hW0
  go_enter Tryd.func46, Tryd.ntmps46
  go_wp2_with fail
  go_ret
  exact ⟨by have h := HE.out; subst h; rfl, HB0.out⟩

set_option maxRecDepth 100000 in
set_option maxHeartbeats 2000000 in
theorem wdoes_x (p V : Nat) (L : List InsZ) (size out : Int) (r n : List Int) (aL : Option Addr) (cL : Nat) (ar : Option Addr) (cr : Nat) (an : Option Addr) (cn : Nat) (w : World) (H : VF p L size out r n) (hV : WW p V L size out r n aL cL ar cr an cn w) (ia ib ic : Int) (hi : I64 ia ∧ I64 ib ∧ I64 ic) (op : Int) (hno : op ≠ 0 ∧ op ≠ 1 ∧ op ≠ 2 ∧ op ≠ 3 ∧ op ≠ 4 ∧ op ≠ 5 ∧ op ≠ 6 ∧ op ≠ 7 ∧ op ≠ 8 ∧ op ≠ 9 ∧ op ≠ 10 ∧ op ≠ 11 ∧ op ≠ 12 ∧ op ≠ 13) :
    Calls Tryd.prog 46 #[.pointer (some ⟨V, 0, none⟩), .agg #[.int .i64 op, .int .i64 ia, .int .i64 ib, .int .i64 ic]] w fun e w' => e = .returned (.int .i64 (tvW p r ⟨op, ia, ib, ic⟩)) ∧ Below w.heap.size w w' := by
  have h3 := H.h3
  have h4 := H.h4
  have HEM : Hid (∀ a : Int, I64 (a % (p : Int))) := fun a => by have := emod_bounds a p H.h3; have := H.h4; unfold I64; omega
  obtain ⟨hia, hib, hic⟩ := hi
  obtain ⟨W0, hW0⟩ : ∃ W0, W0 = w.alloc (.cells #[.int .i64 op, .int .i64 ia, .int .i64 ib, .int .i64 ic] 83) := ⟨_, rfl⟩
  have hb0 : Below w.heap.size w W0 := by rw [hW0]; exact (Below.refl _ _).alloc (Nat.le_refl _) _
  replace hV := hV.below hb0
  have HB0 := hid hb0
  clear hb0
  obtain ⟨c0, c1, c2, c3, c4, c5⟩ := hV.cells
  have QP : Hid (∀ nn, (W0.drewN nn).cell? ⟨V, 0, none⟩ = some (.int .i64 p)) := fun nn => c0
  obtain ⟨br, orr, har, hrw⟩ := rowB_at hV.row H.hr
  subst har
  have r7 := hrw 7 (by omega)
  have i7 : I64 (zat r 7) := H.fr 7
  have l7 : (7 : Int) < (r.length : Int) := by have := H.hr; omega
  have r8 := hrw 8 (by omega)
  have i8 : I64 (zat r 8) := H.fr 8
  have l8 : (8 : Int) < (r.length : Int) := by have := H.hr; omega
  have r9 := hrw 9 (by omega)
  have i9 : I64 (zat r 9) := H.fr 9
  have l9 : (9 : Int) < (r.length : Int) := by have := H.hr; omega
  have r11 := hrw 11 (by omega)
  have i11 : I64 (zat r 11) := H.fr 11
  have l11 : (11 : Int) < (r.length : Int) := by have := H.hr; omega
  clear hrw
  have q0 : (op == 0) = false := by rw [beq_eq_false_iff_ne]; omega
  have q1 : (op == 1) = false := by rw [beq_eq_false_iff_ne]; omega
  have q2 : (op == 2) = false := by rw [beq_eq_false_iff_ne]; omega
  have q3 : (op == 3) = false := by rw [beq_eq_false_iff_ne]; omega
  have q4 : (op == 4) = false := by rw [beq_eq_false_iff_ne]; omega
  have q5 : (op == 5) = false := by rw [beq_eq_false_iff_ne]; omega
  have q6 : (op == 6) = false := by rw [beq_eq_false_iff_ne]; omega
  have q7 : (op == 7) = false := by rw [beq_eq_false_iff_ne]; omega
  have q8 : (op == 8) = false := by rw [beq_eq_false_iff_ne]; omega
  have q9 : (op == 9) = false := by rw [beq_eq_false_iff_ne]; omega
  have q10 : (op == 10) = false := by rw [beq_eq_false_iff_ne]; omega
  have q11 : (op == 11) = false := by rw [beq_eq_false_iff_ne]; omega
  have q12 : (op == 12) = false := by rw [beq_eq_false_iff_ne]; omega
  have q13 : (op == 13) = false := by rw [beq_eq_false_iff_ne]; omega
  have HE : Hid (tvW p r ⟨op, ia, ib, ic⟩ = 1) := by unfold Hid; simp [tvW, hno]
  obtain ⟨R, hR⟩ : ∃ R, R = tvW p r ⟨op, ia, ib, ic⟩ := ⟨_, rfl⟩
  rw [← hR] at HE ⊢
  clear hR
  clear i7 i8 i9 i11
  clear HEM H hV
  generalize zat r 7 = x7 at *
  generalize zat r 8 = x8 at *
  generalize zat r 9 = x9 at *
  generalize zat r 11 = x11 at *
  generalize r.length = lr at *
  generalize L.length = nL at *
  subst hW0
  go_enter Tryd.func46, Tryd.ntmps46
  go_wp2_with fail
  go_ret
  exact ⟨by have h := HE.out; subst h; rfl, HB0.out⟩

end Go.Proofs.YtaibngnabhmabajDoor
