/- The reference: what more an instruction does, what is next. The reference: the registers behind an instruction. -/
import Derived.Test.YtaibngnabhmabajDoorBbAI
namespace Go.Proofs.YtaibngnabhmabajDoor
open Go.RowKit Go.Maps

set_option maxRecDepth 100000 in
set_option maxHeartbeats 2000000 in
theorem walso_4 (p V : Nat) (L : List InsZ) (size out : Int) (r n : List Int) (aL : Option Addr) (cL : Nat) (ar : Option Addr) (cr : Nat) (an : Option Addr) (cn : Nat) (w : World) (H : VF p L size out r n) (hV : WW p V L size out r n aL cL ar cr an cn w) (k : Nat) (ia ib ic : Int) (hk : k < L.length) (ho : insat L k = ⟨4, ia, ib, ic⟩) :
    Calls Tryd.prog 47 #[.pointer (some ⟨V, 0, none⟩), .int .i64 (k : Int)] w fun e w' => e = .returned (.int .i64 (tvM p r k ⟨4, ia, ib, ic⟩)) ∧ Below w.heap.size w w' := by
  have h3 := H.h3
  have h4 := H.h4
  have HEM : Hid (∀ a : Int, I64 (a % (p : Int))) := fun a => by have := emod_bounds a p H.h3; have := H.h4; unfold I64; omega
  have hbb := H.hI k hk
  rw [ho] at hbb
  obtain ⟨_, hia, hib, hic⟩ := hbb
  obtain ⟨W0, hW0⟩ : ∃ W0, W0 = w.alloc (.cells #[.int .i64 4, .int .i64 ia, .int .i64 ib, .int .i64 ic] 83) := ⟨_, rfl⟩
  have hb0 : Below w.heap.size w W0 := by rw [hW0]; exact (Below.refl _ _).alloc (Nat.le_refl _) _
  obtain ⟨d0, d1, d2, d3, d4, d5⟩ := hV.cells
  obtain ⟨gi, oi, hgi, hgl, j0, j1, j2, j3⟩ := hV.ins.row k hk
  subst hgi
  rw [ho] at j0 j1 j2 j3
  have lk : (k : Int) < (L.length : Int) := by omega
  have hk1 : I64 ((k : Int) + 1) := by have := H.hl; unfold I64; omega
  have hw : IntKind.i64.wrap ((k : Int) + 1) = (k : Int) + 1 := by rw [IntKind.wrap_i64]; have := H.hl; omega
  replace hV := hV.below hb0
  have HB0 := hid hb0
  clear hb0
  obtain ⟨c0, c1, c2, c3, c4, c5⟩ := hV.cells
  have QP : Hid (∀ nn, (W0.drewN nn).cell? ⟨V, 0, none⟩ = some (.int .i64 p)) := fun nn => c0
  obtain ⟨br, orr, har, hrw⟩ := rowB_at hV.row H.hr
  subst har
  have r8 := hrw 8 (by omega)
  have i8 : I64 (zat r 8) := H.fr 8
  have l8 : (8 : Int) < (r.length : Int) := by have := H.hr; omega
  have r11 := hrw 11 (by omega)
  have i11 : I64 (zat r 11) := H.fr 11
  have l11 : (11 : Int) < (r.length : Int) := by have := H.hr; omega
  clear hrw
  have HE : Hid (tvM p r k ⟨4, ia, ib, ic⟩ = (((((zat r 11) * (zat r 8)) % (p : Int)) - (1 : Int)) % (p : Int))) := by
    unfold Hid
    rw [show tvM p r k ⟨4, ia, ib, ic⟩ = (zat r 11 * zat r 8 - 1) % (p : Int) from rfl]
    simp only [em_sub1]
  obtain ⟨R, hR⟩ : ∃ R, R = tvM p r k ⟨4, ia, ib, ic⟩ := ⟨_, rfl⟩
  rw [← hR] at HE ⊢
  clear hR
  have HC0 : Hid (∀ W : World, W.cell? ⟨V, 0, none⟩ = some (.int .i64 p) → Calls Tryd.prog 23 #[.pointer (some ⟨V, 0, none⟩), .int .i64 (zat r 11), .int .i64 (zat r 8)] W fun e w' => e = .returned (.int .i64 (((zat r 11) * (zat r 8)) % (p : Int))) ∧ w' = W) := fun W h => wmul_any p V _ _ W h3 h4 h i11 i8
  have HC1 : Hid (∀ W : World, W.cell? ⟨V, 0, none⟩ = some (.int .i64 p) → Calls Tryd.prog 24 #[.pointer (some ⟨V, 0, none⟩), .int .i64 (((zat r 11) * (zat r 8)) % (p : Int)), .int .i64 (1 : Int)] W fun e w' => e = .returned (.int .i64 (((((zat r 11) * (zat r 8)) % (p : Int)) - (1 : Int)) % (p : Int))) ∧ w' = W) := fun W h => wsub_any p V _ _ W h3 h4 h (HEM.out _) (show I64 (1 : Int) by unfold I64; decide)
  clear i8 i11
  clear HEM H hV
  generalize (((((zat r 11) * (zat r 8)) % (p : Int)) - (1 : Int)) % (p : Int)) = t2 at *
  generalize (((zat r 11) * (zat r 8)) % (p : Int)) = t1 at *
  generalize zat r 8 = x8 at *
  generalize zat r 11 = x11 at *
  generalize r.length = lr at *
  generalize L.length = nL at *
  subst hW0
  go_enter Tryd.func47, Tryd.ntmps47
  go_wp2_with fail
  go_quiet (first
    | (go_at_call 23; first | with_reducible exact Calls.quiet_of_same (HC0.out _ (QP.out _))))
  go_wp2_with fail
  refine (HC1.out _ (QP.out _)).mono ?_
  rintro e w' ⟨rfl, hw'⟩
  have hw'' := hw'.symm
  subst hw''
  clear hw'
  go_wp2_with fail
  go_ret
  exact ⟨by have h := HE.out; subst h; rfl, below_drewN HB0.out _⟩

set_option maxRecDepth 100000 in
set_option maxHeartbeats 2000000 in
theorem walso_6 (p V : Nat) (L : List InsZ) (size out : Int) (r n : List Int) (aL : Option Addr) (cL : Nat) (ar : Option Addr) (cr : Nat) (an : Option Addr) (cn : Nat) (w : World) (H : VF p L size out r n) (hV : WW p V L size out r n aL cL ar cr an cn w) (k : Nat) (ia ib ic : Int) (hk : k < L.length) (ho : insat L k = ⟨6, ia, ib, ic⟩) :
    Calls Tryd.prog 47 #[.pointer (some ⟨V, 0, none⟩), .int .i64 (k : Int)] w fun e w' => e = .returned (.int .i64 (tvM p r k ⟨6, ia, ib, ic⟩)) ∧ Below w.heap.size w w' := by
  have h3 := H.h3
  have h4 := H.h4
  have HEM : Hid (∀ a : Int, I64 (a % (p : Int))) := fun a => by have := emod_bounds a p H.h3; have := H.h4; unfold I64; omega
  have hbb := H.hI k hk
  rw [ho] at hbb
  obtain ⟨_, hia, hib, hic⟩ := hbb
  obtain ⟨W0, hW0⟩ : ∃ W0, W0 = w.alloc (.cells #[.int .i64 6, .int .i64 ia, .int .i64 ib, .int .i64 ic] 83) := ⟨_, rfl⟩
  have hb0 : Below w.heap.size w W0 := by rw [hW0]; exact (Below.refl _ _).alloc (Nat.le_refl _) _
  obtain ⟨d0, d1, d2, d3, d4, d5⟩ := hV.cells
  obtain ⟨gi, oi, hgi, hgl, j0, j1, j2, j3⟩ := hV.ins.row k hk
  subst hgi
  rw [ho] at j0 j1 j2 j3
  have lk : (k : Int) < (L.length : Int) := by omega
  have hk1 : I64 ((k : Int) + 1) := by have := H.hl; unfold I64; omega
  have hw : IntKind.i64.wrap ((k : Int) + 1) = (k : Int) + 1 := by rw [IntKind.wrap_i64]; have := H.hl; omega
  replace hV := hV.below hb0
  have HB0 := hid hb0
  clear hb0
  obtain ⟨c0, c1, c2, c3, c4, c5⟩ := hV.cells
  have QP : Hid (∀ nn, (W0.drewN nn).cell? ⟨V, 0, none⟩ = some (.int .i64 p)) := fun nn => c0
  obtain ⟨br, orr, har, hrw⟩ := rowB_at hV.row H.hr
  subst har
  have r7 := hrw 7 (by omega)
  have i7 : I64 (zat r 7) := H.fr 7
  have l7 : (7 : Int) < (r.length : Int) := by have := H.hr; omega
  have r8 := hrw 8 (by omega)
  have i8 : I64 (zat r 8) := H.fr 8
  have l8 : (8 : Int) < (r.length : Int) := by have := H.hr; omega
  have r9 := hrw 9 (by omega)
  have i9 : I64 (zat r 9) := H.fr 9
  have l9 : (9 : Int) < (r.length : Int) := by have := H.hr; omega
  clear hrw
  have HE : Hid (tvM p r k ⟨6, ia, ib, ic⟩ = (((zat r 9) * (((zat r 7) - (zat r 8)) % (p : Int))) % (p : Int))) := by
    unfold Hid
    rw [show tvM p r k ⟨6, ia, ib, ic⟩ = (zat r 9 * (zat r 7 - zat r 8)) % (p : Int) from rfl]
    simp only [em_mul2]
  obtain ⟨R, hR⟩ : ∃ R, R = tvM p r k ⟨6, ia, ib, ic⟩ := ⟨_, rfl⟩
  rw [← hR] at HE ⊢
  clear hR
  have HC0 : Hid (∀ W : World, W.cell? ⟨V, 0, none⟩ = some (.int .i64 p) → Calls Tryd.prog 24 #[.pointer (some ⟨V, 0, none⟩), .int .i64 (zat r 7), .int .i64 (zat r 8)] W fun e w' => e = .returned (.int .i64 (((zat r 7) - (zat r 8)) % (p : Int))) ∧ w' = W) := fun W h => wsub_any p V _ _ W h3 h4 h i7 i8
  have HC1 : Hid (∀ W : World, W.cell? ⟨V, 0, none⟩ = some (.int .i64 p) → Calls Tryd.prog 23 #[.pointer (some ⟨V, 0, none⟩), .int .i64 (zat r 9), .int .i64 (((zat r 7) - (zat r 8)) % (p : Int))] W fun e w' => e = .returned (.int .i64 (((zat r 9) * (((zat r 7) - (zat r 8)) % (p : Int))) % (p : Int))) ∧ w' = W) := fun W h => wmul_any p V _ _ W h3 h4 h i9 (HEM.out _)
  clear i7 i8 i9
  clear HEM H hV
  generalize (((zat r 9) * (((zat r 7) - (zat r 8)) % (p : Int))) % (p : Int)) = t2 at *
  generalize (((zat r 7) - (zat r 8)) % (p : Int)) = t1 at *
  generalize zat r 7 = x7 at *
  generalize zat r 8 = x8 at *
  generalize zat r 9 = x9 at *
  generalize r.length = lr at *
  generalize L.length = nL at *
  subst hW0
  go_enter Tryd.func47, Tryd.ntmps47
  go_wp2_with fail
  go_quiet (first
    | (go_at_call 24; first | with_reducible exact Calls.quiet_of_same (HC0.out _ (QP.out _))))
  go_wp2_with fail
  refine (HC1.out _ (QP.out _)).mono ?_
  rintro e w' ⟨rfl, hw'⟩
  have hw'' := hw'.symm
  subst hw''
  clear hw'
  go_wp2_with fail
  go_ret
  exact ⟨by have h := HE.out; subst h; rfl, below_drewN HB0.out _⟩

set_option maxRecDepth 100000 in
set_option maxHeartbeats 2000000 in
theorem walso_10 (p V : Nat) (L : List InsZ) (size out : Int) (r n : List Int) (aL : Option Addr) (cL : Nat) (ar : Option Addr) (cr : Nat) (an : Option Addr) (cn : Nat) (w : World) (H : VF p L size out r n) (hV : WW p V L size out r n aL cL ar cr an cn w) (k : Nat) (ia ib ic : Int) (hk : k < L.length) (ho : insat L k = ⟨10, ia, ib, ic⟩) :
    Calls Tryd.prog 47 #[.pointer (some ⟨V, 0, none⟩), .int .i64 (k : Int)] w fun e w' => e = .returned (.int .i64 (tvM p r k ⟨10, ia, ib, ic⟩)) ∧ Below w.heap.size w w' := by
  have h3 := H.h3
  have h4 := H.h4
  have HEM : Hid (∀ a : Int, I64 (a % (p : Int))) := fun a => by have := emod_bounds a p H.h3; have := H.h4; unfold I64; omega
  have hbb := H.hI k hk
  rw [ho] at hbb
  obtain ⟨_, hia, hib, hic⟩ := hbb
  obtain ⟨W0, hW0⟩ : ∃ W0, W0 = w.alloc (.cells #[.int .i64 10, .int .i64 ia, .int .i64 ib, .int .i64 ic] 83) := ⟨_, rfl⟩
  have hb0 : Below w.heap.size w W0 := by rw [hW0]; exact (Below.refl _ _).alloc (Nat.le_refl _) _
  obtain ⟨d0, d1, d2, d3, d4, d5⟩ := hV.cells
  obtain ⟨gi, oi, hgi, hgl, j0, j1, j2, j3⟩ := hV.ins.row k hk
  subst hgi
  rw [ho] at j0 j1 j2 j3
  have lk : (k : Int) < (L.length : Int) := by omega
  have hk1 : I64 ((k : Int) + 1) := by have := H.hl; unfold I64; omega
  have hw : IntKind.i64.wrap ((k : Int) + 1) = (k : Int) + 1 := by rw [IntKind.wrap_i64]; have := H.hl; omega
  replace hV := hV.below hb0
  have HB0 := hid hb0
  clear hb0
  obtain ⟨c0, c1, c2, c3, c4, c5⟩ := hV.cells
  have QP : Hid (∀ nn, (W0.drewN nn).cell? ⟨V, 0, none⟩ = some (.int .i64 p)) := fun nn => c0
  obtain ⟨br, orr, har, hrw⟩ := rowB_at hV.row H.hr
  subst har
  have r8 := hrw 8 (by omega)
  have i8 : I64 (zat r 8) := H.fr 8
  have l8 : (8 : Int) < (r.length : Int) := by have := H.hr; omega
  clear hrw
  have HE : Hid (tvM p r k ⟨10, ia, ib, ic⟩ = (((zat r 8) - ((k : Int) + 1)) % (p : Int))) := by
    unfold Hid
    rw [show tvM p r k ⟨10, ia, ib, ic⟩ = (zat r 8 - ((k : Int) + 1)) % (p : Int) from rfl]
  obtain ⟨R, hR⟩ : ∃ R, R = tvM p r k ⟨10, ia, ib, ic⟩ := ⟨_, rfl⟩
  rw [← hR] at HE ⊢
  clear hR
  have HC0 : Hid (∀ W : World, W.cell? ⟨V, 0, none⟩ = some (.int .i64 p) → Calls Tryd.prog 24 #[.pointer (some ⟨V, 0, none⟩), .int .i64 (zat r 8), .int .i64 ((k : Int) + 1)] W fun e w' => e = .returned (.int .i64 (((zat r 8) - ((k : Int) + 1)) % (p : Int))) ∧ w' = W) := fun W h => wsub_any p V _ _ W h3 h4 h i8 hk1
  clear i8
  clear HEM H hV
  generalize (((zat r 8) - ((k : Int) + 1)) % (p : Int)) = t1 at *
  generalize zat r 8 = x8 at *
  generalize r.length = lr at *
  generalize L.length = nL at *
  subst hW0
  go_enter Tryd.func47, Tryd.ntmps47
  go_wp2_with fail
  refine (HC0.out _ c0).mono ?_
  rintro e w' ⟨rfl, hw'⟩
  have hw'' := hw'.symm
  subst hw''
  clear hw'
  go_wp2_with fail
  go_ret
  exact ⟨by have h := HE.out; subst h; rfl, HB0.out⟩

set_option maxRecDepth 100000 in
set_option maxHeartbeats 2000000 in
theorem walso_x (p V : Nat) (L : List InsZ) (size out : Int) (r n : List Int) (aL : Option Addr) (cL : Nat) (ar : Option Addr) (cr : Nat) (an : Option Addr) (cn : Nat) (w : World) (H : VF p L size out r n) (hV : WW p V L size out r n aL cL ar cr an cn w) (op : Int) (k : Nat) (ia ib ic : Int) (hk : k < L.length) (ho : insat L k = ⟨op, ia, ib, ic⟩) (hno : op ≠ 4 ∧ op ≠ 6 ∧ op ≠ 10) :
    Calls Tryd.prog 47 #[.pointer (some ⟨V, 0, none⟩), .int .i64 (k : Int)] w fun e w' => e = .returned (.int .i64 (tvM p r k ⟨op, ia, ib, ic⟩)) ∧ Below w.heap.size w w' := by
  have h3 := H.h3
  have h4 := H.h4
  have HEM : Hid (∀ a : Int, I64 (a % (p : Int))) := fun a => by have := emod_bounds a p H.h3; have := H.h4; unfold I64; omega
  have hbb := H.hI k hk
  rw [ho] at hbb
  obtain ⟨_, hia, hib, hic⟩ := hbb
  obtain ⟨W0, hW0⟩ : ∃ W0, W0 = w.alloc (.cells #[.int .i64 op, .int .i64 ia, .int .i64 ib, .int .i64 ic] 83) := ⟨_, rfl⟩
  have hb0 : Below w.heap.size w W0 := by rw [hW0]; exact (Below.refl _ _).alloc (Nat.le_refl _) _
  obtain ⟨d0, d1, d2, d3, d4, d5⟩ := hV.cells
  obtain ⟨gi, oi, hgi, hgl, j0, j1, j2, j3⟩ := hV.ins.row k hk
  subst hgi
  rw [ho] at j0 j1 j2 j3
  have lk : (k : Int) < (L.length : Int) := by omega
  have hk1 : I64 ((k : Int) + 1) := by have := H.hl; unfold I64; omega
  have hw : IntKind.i64.wrap ((k : Int) + 1) = (k : Int) + 1 := by rw [IntKind.wrap_i64]; have := H.hl; omega
  replace hV := hV.below hb0
  have HB0 := hid hb0
  clear hb0
  obtain ⟨c0, c1, c2, c3, c4, c5⟩ := hV.cells
  have QP : Hid (∀ nn, (W0.drewN nn).cell? ⟨V, 0, none⟩ = some (.int .i64 p)) := fun nn => c0
  have q4 : (op == 4) = false := by rw [beq_eq_false_iff_ne]; omega
  have q6 : (op == 6) = false := by rw [beq_eq_false_iff_ne]; omega
  have q10 : (op == 10) = false := by rw [beq_eq_false_iff_ne]; omega
  have HE : Hid (tvM p r k ⟨op, ia, ib, ic⟩ = 0) := by unfold Hid; simp [tvM, hno]
  obtain ⟨R, hR⟩ : ∃ R, R = tvM p r k ⟨op, ia, ib, ic⟩ := ⟨_, rfl⟩
  rw [← hR] at HE ⊢
  clear hR
  clear HEM H hV
  generalize L.length = nL at *
  subst hW0
  go_enter Tryd.func47, Tryd.ntmps47
  go_wp2_with fail
  go_ret
  exact ⟨by have h := HE.out; subst h; rfl, HB0.out⟩

set_option maxRecDepth 100000 in
set_option maxHeartbeats 2000000 in
theorem wnext_0 (p V : Nat) (L : List InsZ) (size out : Int) (r n : List Int) (aL : Option Addr) (cL : Nat) (ar : Option Addr) (cr : Nat) (an : Option Addr) (cn : Nat) (w : World) (H : VF p L size out r n) (hV : WW p V L size out r n aL cL ar cr an cn w) (k : Nat) (ia ib ic : Int) (hk : k < L.length) (ho : insat L k = ⟨0, ia, ib, ic⟩) :
    Calls Tryd.prog 48 #[.pointer (some ⟨V, 0, none⟩), .int .i64 (k : Int)] w fun e w' => e = .returned (.int .i64 (tvN p r k ⟨0, ia, ib, ic⟩)) ∧ Below w.heap.size w w' := by
  have h3 := H.h3
  have h4 := H.h4
  have HEM : Hid (∀ a : Int, I64 (a % (p : Int))) := fun a => by have := emod_bounds a p H.h3; have := H.h4; unfold I64; omega
  have hbb := H.hI k hk
  rw [ho] at hbb
  obtain ⟨_, hia, hib, hic⟩ := hbb
  obtain ⟨W0, hW0⟩ : ∃ W0, W0 = w.alloc (.cells #[.int .i64 0, .int .i64 ia, .int .i64 ib, .int .i64 ic] 83) := ⟨_, rfl⟩
  have hb0 : Below w.heap.size w W0 := by rw [hW0]; exact (Below.refl _ _).alloc (Nat.le_refl _) _
  obtain ⟨d0, d1, d2, d3, d4, d5⟩ := hV.cells
  obtain ⟨gi, oi, hgi, hgl, j0, j1, j2, j3⟩ := hV.ins.row k hk
  subst hgi
  rw [ho] at j0 j1 j2 j3
  have lk : (k : Int) < (L.length : Int) := by omega
  have hk1 : I64 ((k : Int) + 1) := by have := H.hl; unfold I64; omega
  have hw : IntKind.i64.wrap ((k : Int) + 1) = (k : Int) + 1 := by rw [IntKind.wrap_i64]; have := H.hl; omega
  replace hV := hV.below hb0
  have HB0 := hid hb0
  clear hb0
  obtain ⟨c0, c1, c2, c3, c4, c5⟩ := hV.cells
  have QP : Hid (∀ nn, (W0.drewN nn).cell? ⟨V, 0, none⟩ = some (.int .i64 p)) := fun nn => c0
  have HE : Hid (tvN p r k ⟨0, ia, ib, ic⟩ = (k : Int)) := rfl
  obtain ⟨R, hR⟩ : ∃ R, R = tvN p r k ⟨0, ia, ib, ic⟩ := ⟨_, rfl⟩
  rw [← hR] at HE ⊢
  clear hR
  clear HEM H hV
  generalize L.length = nL at *
  subst hW0
  go_enter Tryd.func48, Tryd.ntmps48
  go_wp2_with fail
  go_ret
  exact ⟨by have h := HE.out; subst h; rfl, HB0.out⟩

set_option maxRecDepth 100000 in
set_option maxHeartbeats 2000000 in
theorem wnext_8 (p V : Nat) (L : List InsZ) (size out : Int) (r n : List Int) (aL : Option Addr) (cL : Nat) (ar : Option Addr) (cr : Nat) (an : Option Addr) (cn : Nat) (w : World) (H : VF p L size out r n) (hV : WW p V L size out r n aL cL ar cr an cn w) (k : Nat) (ia ib ic : Int) (hk : k < L.length) (ho : insat L k = ⟨8, ia, ib, ic⟩) :
    Calls Tryd.prog 48 #[.pointer (some ⟨V, 0, none⟩), .int .i64 (k : Int)] w fun e w' => e = .returned (.int .i64 (tvN p r k ⟨8, ia, ib, ic⟩)) ∧ Below w.heap.size w w' := by
  have h3 := H.h3
  have h4 := H.h4
  have HEM : Hid (∀ a : Int, I64 (a % (p : Int))) := fun a => by have := emod_bounds a p H.h3; have := H.h4; unfold I64; omega
  have hbb := H.hI k hk
  rw [ho] at hbb
  obtain ⟨_, hia, hib, hic⟩ := hbb
  obtain ⟨W0, hW0⟩ : ∃ W0, W0 = w.alloc (.cells #[.int .i64 8, .int .i64 ia, .int .i64 ib, .int .i64 ic] 83) := ⟨_, rfl⟩
  have hb0 : Below w.heap.size w W0 := by rw [hW0]; exact (Below.refl _ _).alloc (Nat.le_refl _) _
  obtain ⟨d0, d1, d2, d3, d4, d5⟩ := hV.cells
  obtain ⟨gi, oi, hgi, hgl, j0, j1, j2, j3⟩ := hV.ins.row k hk
  subst hgi
  rw [ho] at j0 j1 j2 j3
  have lk : (k : Int) < (L.length : Int) := by omega
  have hk1 : I64 ((k : Int) + 1) := by have := H.hl; unfold I64; omega
  have hw : IntKind.i64.wrap ((k : Int) + 1) = (k : Int) + 1 := by rw [IntKind.wrap_i64]; have := H.hl; omega
  replace hV := hV.below hb0
  have HB0 := hid hb0
  clear hb0
  obtain ⟨c0, c1, c2, c3, c4, c5⟩ := hV.cells
  have QP : Hid (∀ nn, (W0.drewN nn).cell? ⟨V, 0, none⟩ = some (.int .i64 p)) := fun nn => c0
  have HE : Hid (tvN p r k ⟨8, ia, ib, ic⟩ = ia) := rfl
  obtain ⟨R, hR⟩ : ∃ R, R = tvN p r k ⟨8, ia, ib, ic⟩ := ⟨_, rfl⟩
  rw [← hR] at HE ⊢
  clear hR
  clear HEM H hV
  generalize L.length = nL at *
  subst hW0
  go_enter Tryd.func48, Tryd.ntmps48
  go_wp2_with fail
  go_ret
  exact ⟨by have h := HE.out; subst h; rfl, HB0.out⟩

set_option maxRecDepth 100000 in
set_option maxHeartbeats 2000000 in
theorem wnext_10 (p V : Nat) (L : List InsZ) (size out : Int) (r n : List Int) (aL : Option Addr) (cL : Nat) (ar : Option Addr) (cr : Nat) (an : Option Addr) (cn : Nat) (w : World) (H : VF p L size out r n) (hV : WW p V L size out r n aL cL ar cr an cn w) (k : Nat) (ia ib ic : Int) (hk : k < L.length) (ho : insat L k = ⟨10, ia, ib, ic⟩) :
    Calls Tryd.prog 48 #[.pointer (some ⟨V, 0, none⟩), .int .i64 (k : Int)] w fun e w' => e = .returned (.int .i64 (tvN p r k ⟨10, ia, ib, ic⟩)) ∧ Below w.heap.size w w' := by
  have h3 := H.h3
  have h4 := H.h4
  have HEM : Hid (∀ a : Int, I64 (a % (p : Int))) := fun a => by have := emod_bounds a p H.h3; have := H.h4; unfold I64; omega
  have hbb := H.hI k hk
  rw [ho] at hbb
  obtain ⟨_, hia, hib, hic⟩ := hbb
  obtain ⟨W0, hW0⟩ : ∃ W0, W0 = w.alloc (.cells #[.int .i64 10, .int .i64 ia, .int .i64 ib, .int .i64 ic] 83) := ⟨_, rfl⟩
  have hb0 : Below w.heap.size w W0 := by rw [hW0]; exact (Below.refl _ _).alloc (Nat.le_refl _) _
  obtain ⟨d0, d1, d2, d3, d4, d5⟩ := hV.cells
  obtain ⟨gi, oi, hgi, hgl, j0, j1, j2, j3⟩ := hV.ins.row k hk
  subst hgi
  rw [ho] at j0 j1 j2 j3
  have lk : (k : Int) < (L.length : Int) := by omega
  have hk1 : I64 ((k : Int) + 1) := by have := H.hl; unfold I64; omega
  have hw : IntKind.i64.wrap ((k : Int) + 1) = (k : Int) + 1 := by rw [IntKind.wrap_i64]; have := H.hl; omega
  replace hV := hV.below hb0
  have HB0 := hid hb0
  clear hb0
  obtain ⟨c0, c1, c2, c3, c4, c5⟩ := hV.cells
  have QP : Hid (∀ nn, (W0.drewN nn).cell? ⟨V, 0, none⟩ = some (.int .i64 p)) := fun nn => c0
  have HE : Hid (tvN p r k ⟨10, ia, ib, ic⟩ = ia) := rfl
  obtain ⟨R, hR⟩ : ∃ R, R = tvN p r k ⟨10, ia, ib, ic⟩ := ⟨_, rfl⟩
  rw [← hR] at HE ⊢
  clear hR
  clear HEM H hV
  generalize L.length = nL at *
  subst hW0
  go_enter Tryd.func48, Tryd.ntmps48
  go_wp2_with fail
  go_ret
  exact ⟨by have h := HE.out; subst h; rfl, HB0.out⟩

set_option maxRecDepth 100000 in
set_option maxHeartbeats 2000000 in
theorem wnext_9 (p V : Nat) (L : List InsZ) (size out : Int) (r n : List Int) (aL : Option Addr) (cL : Nat) (ar : Option Addr) (cr : Nat) (an : Option Addr) (cn : Nat) (w : World) (H : VF p L size out r n) (hV : WW p V L size out r n aL cL ar cr an cn w) (k : Nat) (ia ib ic : Int) (hk : k < L.length) (ho : insat L k = ⟨9, ia, ib, ic⟩) :
    Calls Tryd.prog 48 #[.pointer (some ⟨V, 0, none⟩), .int .i64 (k : Int)] w fun e w' => e = .returned (.int .i64 (tvN p r k ⟨9, ia, ib, ic⟩)) ∧ Below w.heap.size w w' := by
  have h3 := H.h3
  have h4 := H.h4
  have HEM : Hid (∀ a : Int, I64 (a % (p : Int))) := fun a => by have := emod_bounds a p H.h3; have := H.h4; unfold I64; omega
  have hbb := H.hI k hk
  rw [ho] at hbb
  obtain ⟨_, hia, hib, hic⟩ := hbb
  obtain ⟨W0, hW0⟩ : ∃ W0, W0 = w.alloc (.cells #[.int .i64 9, .int .i64 ia, .int .i64 ib, .int .i64 ic] 83) := ⟨_, rfl⟩
  have hb0 : Below w.heap.size w W0 := by rw [hW0]; exact (Below.refl _ _).alloc (Nat.le_refl _) _
  obtain ⟨d0, d1, d2, d3, d4, d5⟩ := hV.cells
  obtain ⟨gi, oi, hgi, hgl, j0, j1, j2, j3⟩ := hV.ins.row k hk
  subst hgi
  rw [ho] at j0 j1 j2 j3
  have lk : (k : Int) < (L.length : Int) := by omega
  have hk1 : I64 ((k : Int) + 1) := by have := H.hl; unfold I64; omega
  have hw : IntKind.i64.wrap ((k : Int) + 1) = (k : Int) + 1 := by rw [IntKind.wrap_i64]; have := H.hl; omega
  replace hV := hV.below hb0
  have HB0 := hid hb0
  clear hb0
  obtain ⟨c0, c1, c2, c3, c4, c5⟩ := hV.cells
  have QP : Hid (∀ nn, (W0.drewN nn).cell? ⟨V, 0, none⟩ = some (.int .i64 p)) := fun nn => c0
  obtain ⟨br, orr, har, hrw⟩ := rowB_at hV.row H.hr
  subst har
  have r7 := hrw 7 (by omega)
  have i7 : I64 (zat r 7) := H.fr 7
  have l7 : (7 : Int) < (r.length : Int) := by have := H.hr; omega
  have r11 := hrw 11 (by omega)
  have i11 : I64 (zat r 11) := H.fr 11
  have l11 : (11 : Int) < (r.length : Int) := by have := H.hr; omega
  clear hrw
  have HE : Hid (tvN p r k ⟨9, ia, ib, ic⟩ = (((((((zat r 11) * (zat r 7)) % (p : Int)) * ((k : Int) + 1)) % (p : Int)) + (((((1 : Int) - (((zat r 11) * (zat r 7)) % (p : Int))) % (p : Int)) * ib) % (p : Int))) % (p : Int))) := by
    unfold Hid
    rw [show tvN p r k ⟨9, ia, ib, ic⟩ = ((1 - zat r 11 * zat r 7) * ib + zat r 11 * zat r 7 * ((k : Int) + 1)) % (p : Int) from rfl]
    simp only [em_add1, em_add2, em_mul1, em_sub2]
    rw [Int.add_comm]
  obtain ⟨R, hR⟩ : ∃ R, R = tvN p r k ⟨9, ia, ib, ic⟩ := ⟨_, rfl⟩
  rw [← hR] at HE ⊢
  clear hR
  have HC0 : Hid (∀ W : World, W.cell? ⟨V, 0, none⟩ = some (.int .i64 p) → Calls Tryd.prog 23 #[.pointer (some ⟨V, 0, none⟩), .int .i64 (zat r 11), .int .i64 (zat r 7)] W fun e w' => e = .returned (.int .i64 (((zat r 11) * (zat r 7)) % (p : Int))) ∧ w' = W) := fun W h => wmul_any p V _ _ W h3 h4 h i11 i7
  have HC1 : Hid (∀ W : World, W.cell? ⟨V, 0, none⟩ = some (.int .i64 p) → Calls Tryd.prog 24 #[.pointer (some ⟨V, 0, none⟩), .int .i64 (1 : Int), .int .i64 (((zat r 11) * (zat r 7)) % (p : Int))] W fun e w' => e = .returned (.int .i64 (((1 : Int) - (((zat r 11) * (zat r 7)) % (p : Int))) % (p : Int))) ∧ w' = W) := fun W h => wsub_any p V _ _ W h3 h4 h (show I64 (1 : Int) by unfold I64; decide) (HEM.out _)
  have HC2 : Hid (∀ W : World, W.cell? ⟨V, 0, none⟩ = some (.int .i64 p) → Calls Tryd.prog 23 #[.pointer (some ⟨V, 0, none⟩), .int .i64 (((1 : Int) - (((zat r 11) * (zat r 7)) % (p : Int))) % (p : Int)), .int .i64 ib] W fun e w' => e = .returned (.int .i64 (((((1 : Int) - (((zat r 11) * (zat r 7)) % (p : Int))) % (p : Int)) * ib) % (p : Int))) ∧ w' = W) := fun W h => wmul_any p V _ _ W h3 h4 h (HEM.out _) hib
  have HC3 : Hid (∀ W : World, W.cell? ⟨V, 0, none⟩ = some (.int .i64 p) → Calls Tryd.prog 23 #[.pointer (some ⟨V, 0, none⟩), .int .i64 (((zat r 11) * (zat r 7)) % (p : Int)), .int .i64 ((k : Int) + 1)] W fun e w' => e = .returned (.int .i64 (((((zat r 11) * (zat r 7)) % (p : Int)) * ((k : Int) + 1)) % (p : Int))) ∧ w' = W) := fun W h => wmul_any p V _ _ W h3 h4 h (HEM.out _) hk1
  have HC4 : Hid (∀ W : World, W.cell? ⟨V, 0, none⟩ = some (.int .i64 p) → Calls Tryd.prog 25 #[.pointer (some ⟨V, 0, none⟩), .int .i64 (((((zat r 11) * (zat r 7)) % (p : Int)) * ((k : Int) + 1)) % (p : Int)), .int .i64 (((((1 : Int) - (((zat r 11) * (zat r 7)) % (p : Int))) % (p : Int)) * ib) % (p : Int))] W fun e w' => e = .returned (.int .i64 (((((((zat r 11) * (zat r 7)) % (p : Int)) * ((k : Int) + 1)) % (p : Int)) + (((((1 : Int) - (((zat r 11) * (zat r 7)) % (p : Int))) % (p : Int)) * ib) % (p : Int))) % (p : Int))) ∧ w' = W) := fun W h => wadd_any p V _ _ W h3 h4 h (HEM.out _) (HEM.out _)
  clear i7 i11
  clear HEM H hV
  generalize (((((((zat r 11) * (zat r 7)) % (p : Int)) * ((k : Int) + 1)) % (p : Int)) + (((((1 : Int) - (((zat r 11) * (zat r 7)) % (p : Int))) % (p : Int)) * ib) % (p : Int))) % (p : Int)) = t5 at *
  generalize (((((zat r 11) * (zat r 7)) % (p : Int)) * ((k : Int) + 1)) % (p : Int)) = t4 at *
  generalize (((((1 : Int) - (((zat r 11) * (zat r 7)) % (p : Int))) % (p : Int)) * ib) % (p : Int)) = t3 at *
  generalize (((1 : Int) - (((zat r 11) * (zat r 7)) % (p : Int))) % (p : Int)) = t2 at *
  generalize (((zat r 11) * (zat r 7)) % (p : Int)) = t1 at *
  generalize zat r 7 = x7 at *
  generalize zat r 11 = x11 at *
  generalize r.length = lr at *
  generalize L.length = nL at *
  subst hW0
  go_enter Tryd.func48, Tryd.ntmps48
  go_wp2_with fail
  go_quiet (first
    | (go_at_call 23; first | with_reducible exact Calls.quiet_of_same (HC0.out _ (QP.out _))))
  go_wp2_with fail
  refine (HC1.out _ (QP.out _)).mono ?_
  rintro e w' ⟨rfl, hw'⟩
  have hw'' := hw'.symm
  subst hw''
  clear hw'
  go_wp2_with fail
  refine (HC2.out _ (QP.out _)).mono ?_
  rintro e w' ⟨rfl, hw'⟩
  have hw'' := hw'.symm
  subst hw''
  clear hw'
  go_wp2_with fail
  refine (HC3.out _ (QP.out _)).mono ?_
  rintro e w' ⟨rfl, hw'⟩
  have hw'' := hw'.symm
  subst hw''
  clear hw'
  go_wp2_with fail
  refine (HC4.out _ (QP.out _)).mono ?_
  rintro e w' ⟨rfl, hw'⟩
  have hw'' := hw'.symm
  subst hw''
  clear hw'
  go_wp2_with fail
  go_ret
  exact ⟨by have h := HE.out; subst h; rfl, below_drewN HB0.out _⟩

set_option maxRecDepth 100000 in
set_option maxHeartbeats 2000000 in
theorem wnext_11 (p V : Nat) (L : List InsZ) (size out : Int) (r n : List Int) (aL : Option Addr) (cL : Nat) (ar : Option Addr) (cr : Nat) (an : Option Addr) (cn : Nat) (w : World) (H : VF p L size out r n) (hV : WW p V L size out r n aL cL ar cr an cn w) (k : Nat) (ia ib ic : Int) (hk : k < L.length) (ho : insat L k = ⟨11, ia, ib, ic⟩) :
    Calls Tryd.prog 48 #[.pointer (some ⟨V, 0, none⟩), .int .i64 (k : Int)] w fun e w' => e = .returned (.int .i64 (tvN p r k ⟨11, ia, ib, ic⟩)) ∧ Below w.heap.size w w' := by
  have h3 := H.h3
  have h4 := H.h4
  have HEM : Hid (∀ a : Int, I64 (a % (p : Int))) := fun a => by have := emod_bounds a p H.h3; have := H.h4; unfold I64; omega
  have hbb := H.hI k hk
  rw [ho] at hbb
  obtain ⟨_, hia, hib, hic⟩ := hbb
  obtain ⟨W0, hW0⟩ : ∃ W0, W0 = w.alloc (.cells #[.int .i64 11, .int .i64 ia, .int .i64 ib, .int .i64 ic] 83) := ⟨_, rfl⟩
  have hb0 : Below w.heap.size w W0 := by rw [hW0]; exact (Below.refl _ _).alloc (Nat.le_refl _) _
  obtain ⟨d0, d1, d2, d3, d4, d5⟩ := hV.cells
  obtain ⟨gi, oi, hgi, hgl, j0, j1, j2, j3⟩ := hV.ins.row k hk
  subst hgi
  rw [ho] at j0 j1 j2 j3
  have lk : (k : Int) < (L.length : Int) := by omega
  have hk1 : I64 ((k : Int) + 1) := by have := H.hl; unfold I64; omega
  have hw : IntKind.i64.wrap ((k : Int) + 1) = (k : Int) + 1 := by rw [IntKind.wrap_i64]; have := H.hl; omega
  replace hV := hV.below hb0
  have HB0 := hid hb0
  clear hb0
  obtain ⟨c0, c1, c2, c3, c4, c5⟩ := hV.cells
  have QP : Hid (∀ nn, (W0.drewN nn).cell? ⟨V, 0, none⟩ = some (.int .i64 p)) := fun nn => c0
  obtain ⟨br, orr, har, hrw⟩ := rowB_at hV.row H.hr
  subst har
  have r8 := hrw 8 (by omega)
  have i8 : I64 (zat r 8) := H.fr 8
  have l8 : (8 : Int) < (r.length : Int) := by have := H.hr; omega
  clear hrw
  have HE : Hid (tvN p r k ⟨11, ia, ib, ic⟩ = (zat r 8)) := rfl
  obtain ⟨R, hR⟩ : ∃ R, R = tvN p r k ⟨11, ia, ib, ic⟩ := ⟨_, rfl⟩
  rw [← hR] at HE ⊢
  clear hR
  clear i8
  clear HEM H hV
  generalize zat r 8 = x8 at *
  generalize r.length = lr at *
  generalize L.length = nL at *
  subst hW0
  go_enter Tryd.func48, Tryd.ntmps48
  go_wp2_with fail
  go_ret
  exact ⟨by have h := HE.out; subst h; rfl, HB0.out⟩

set_option maxRecDepth 100000 in
set_option maxHeartbeats 2000000 in
theorem wnext_x (p V : Nat) (L : List InsZ) (size out : Int) (r n : List Int) (aL : Option Addr) (cL : Nat) (ar : Option Addr) (cr : Nat) (an : Option Addr) (cn : Nat) (w : World) (H : VF p L size out r n) (hV : WW p V L size out r n aL cL ar cr an cn w) (op : Int) (k : Nat) (ia ib ic : Int) (hk : k < L.length) (ho : insat L k = ⟨op, ia, ib, ic⟩) (hno : op ≠ 0 ∧ op ≠ 8 ∧ op ≠ 9 ∧ op ≠ 10 ∧ op ≠ 11) :
    Calls Tryd.prog 48 #[.pointer (some ⟨V, 0, none⟩), .int .i64 (k : Int)] w fun e w' => e = .returned (.int .i64 (tvN p r k ⟨op, ia, ib, ic⟩)) ∧ Below w.heap.size w w' := by
  have h3 := H.h3
  have h4 := H.h4
  have HEM : Hid (∀ a : Int, I64 (a % (p : Int))) := fun a => by have := emod_bounds a p H.h3; have := H.h4; unfold I64; omega
  have hbb := H.hI k hk
  rw [ho] at hbb
  obtain ⟨_, hia, hib, hic⟩ := hbb
  obtain ⟨W0, hW0⟩ : ∃ W0, W0 = w.alloc (.cells #[.int .i64 op, .int .i64 ia, .int .i64 ib, .int .i64 ic] 83) := ⟨_, rfl⟩
  have hb0 : Below w.heap.size w W0 := by rw [hW0]; exact (Below.refl _ _).alloc (Nat.le_refl _) _
  obtain ⟨d0, d1, d2, d3, d4, d5⟩ := hV.cells
  obtain ⟨gi, oi, hgi, hgl, j0, j1, j2, j3⟩ := hV.ins.row k hk
  subst hgi
  rw [ho] at j0 j1 j2 j3
  have lk : (k : Int) < (L.length : Int) := by omega
  have hk1 : I64 ((k : Int) + 1) := by have := H.hl; unfold I64; omega
  have hw : IntKind.i64.wrap ((k : Int) + 1) = (k : Int) + 1 := by rw [IntKind.wrap_i64]; have := H.hl; omega
  replace hV := hV.below hb0
  have HB0 := hid hb0
  clear hb0
  obtain ⟨c0, c1, c2, c3, c4, c5⟩ := hV.cells
  have QP : Hid (∀ nn, (W0.drewN nn).cell? ⟨V, 0, none⟩ = some (.int .i64 p)) := fun nn => c0
  have q0 : (op == 0) = false := by rw [beq_eq_false_iff_ne]; omega
  have q8 : (op == 8) = false := by rw [beq_eq_false_iff_ne]; omega
  have q9 : (op == 9) = false := by rw [beq_eq_false_iff_ne]; omega
  have q10 : (op == 10) = false := by rw [beq_eq_false_iff_ne]; omega
  have q11 : (op == 11) = false := by rw [beq_eq_false_iff_ne]; omega
  have HE : Hid (tvN p r k ⟨op, ia, ib, ic⟩ = ((k : Int) + 1)) := by unfold Hid; simp [tvN, hno]
  obtain ⟨R, hR⟩ : ∃ R, R = tvN p r k ⟨op, ia, ib, ic⟩ := ⟨_, rfl⟩
  rw [← hR] at HE ⊢
  clear hR
  clear HEM H hV
  generalize L.length = nL at *
  subst hW0
  go_enter Tryd.func48, Tryd.ntmps48
  go_wp2_with fail
  go_ret
  exact ⟨by have h := HE.out; subst h; rfl, HB0.out⟩

end Go.Proofs.YtaibngnabhmabajDoor

namespace Go.Proofs.YtaibngnabhmabajDoor
open Go.RowKit Go.Maps

set_option maxRecDepth 100000 in
set_option maxHeartbeats 2000000 in
theorem wreg0_10 (p V : Nat) (L : List InsZ) (size out : Int) (r n : List Int) (aL : Option Addr) (cL : Nat) (ar : Option Addr) (cr : Nat) (an : Option Addr) (cn : Nat) (w : World) (H : VF p L size out r n) (hV : WW p V L size out r n aL cL ar cr an cn w) (ia ib ic : Int) (hi : I64 ia ∧ I64 ib ∧ I64 ic) :
    Calls Tryd.prog 49 #[.pointer (some ⟨V, 0, none⟩), .agg #[.int .i64 10, .int .i64 ia, .int .i64 ib, .int .i64 ic], .int .i64 0] w fun e w' => e = .returned (.int .i64 (tvF p r ⟨10, ia, ib, ic⟩)) ∧ Below w.heap.size w w' := by
  have h3 := H.h3
  have h4 := H.h4
  have HEM : Hid (∀ a : Int, I64 (a % (p : Int))) := fun a => by have := emod_bounds a p H.h3; have := H.h4; unfold I64; omega
  obtain ⟨hia, hib, hic⟩ := hi
  obtain ⟨W0, hW0⟩ : ∃ W0, W0 = w.alloc (.cells #[.int .i64 10, .int .i64 ia, .int .i64 ib, .int .i64 ic] 83) := ⟨_, rfl⟩
  have hb0 : Below w.heap.size w W0 := by rw [hW0]; exact (Below.refl _ _).alloc (Nat.le_refl _) _
  replace hV := hV.below hb0
  have HB0 := hid hb0
  clear hb0
  obtain ⟨c0, c1, c2, c3, c4, c5⟩ := hV.cells
  have QP : Hid (∀ nn, (W0.drewN nn).cell? ⟨V, 0, none⟩ = some (.int .i64 p)) := fun nn => c0
  obtain ⟨br, orr, har, hrw⟩ := rowB_at hV.row H.hr
  subst har
  have r1 := hrw 1 (by omega)
  have i1 : I64 (zat r 1) := H.fr 1
  have l1 : (1 : Int) < (r.length : Int) := by have := H.hr; omega
  have l1' : 1 < r.length := by have := H.hr; omega
  clear hrw
  have HE : Hid (tvF p r ⟨10, ia, ib, ic⟩ = (((zat r 1) + (2 : Int)) % (p : Int))) := by
    unfold Hid
    rw [show tvF p r ⟨10, ia, ib, ic⟩ = (zat r 1 + 2) % (p : Int) from rfl]
  obtain ⟨R, hR⟩ : ∃ R, R = tvF p r ⟨10, ia, ib, ic⟩ := ⟨_, rfl⟩
  rw [← hR] at HE ⊢
  clear hR
  have HC0 : Hid (∀ W : World, W.cell? ⟨V, 0, none⟩ = some (.int .i64 p) → Calls Tryd.prog 25 #[.pointer (some ⟨V, 0, none⟩), .int .i64 (zat r 1), .int .i64 (2 : Int)] W fun e w' => e = .returned (.int .i64 (((zat r 1) + (2 : Int)) % (p : Int))) ∧ w' = W) := fun W h => wadd_any p V _ _ W h3 h4 h i1 (show I64 (2 : Int) by unfold I64; decide)
  clear i1
  clear HEM H hV
  generalize (((zat r 1) + (2 : Int)) % (p : Int)) = t1 at *
  generalize zat r 1 = x1 at *
  generalize r.length = lr at *
  generalize L.length = nL at *
  subst hW0
  go_enter Tryd.func49, Tryd.ntmps49
  go_wp2_with fail
  refine (HC0.out _ c0).mono ?_
  rintro e w' ⟨rfl, hw'⟩
  have hw'' := hw'.symm
  subst hw''
  clear hw'
  go_wp2_with fail
  go_ret
  exact ⟨by have h := HE.out; subst h; rfl, HB0.out⟩

set_option maxRecDepth 100000 in
set_option maxHeartbeats 2000000 in
theorem wreg0_11 (p V : Nat) (L : List InsZ) (size out : Int) (r n : List Int) (aL : Option Addr) (cL : Nat) (ar : Option Addr) (cr : Nat) (an : Option Addr) (cn : Nat) (w : World) (H : VF p L size out r n) (hV : WW p V L size out r n aL cL ar cr an cn w) (ia ib ic : Int) (hi : I64 ia ∧ I64 ib ∧ I64 ic) :
    Calls Tryd.prog 49 #[.pointer (some ⟨V, 0, none⟩), .agg #[.int .i64 11, .int .i64 ia, .int .i64 ib, .int .i64 ic], .int .i64 0] w fun e w' => e = .returned (.int .i64 (tvF p r ⟨11, ia, ib, ic⟩)) ∧ Below w.heap.size w w' := by
  have h3 := H.h3
  have h4 := H.h4
  have HEM : Hid (∀ a : Int, I64 (a % (p : Int))) := fun a => by have := emod_bounds a p H.h3; have := H.h4; unfold I64; omega
  obtain ⟨hia, hib, hic⟩ := hi
  obtain ⟨W0, hW0⟩ : ∃ W0, W0 = w.alloc (.cells #[.int .i64 11, .int .i64 ia, .int .i64 ib, .int .i64 ic] 83) := ⟨_, rfl⟩
  have hb0 : Below w.heap.size w W0 := by rw [hW0]; exact (Below.refl _ _).alloc (Nat.le_refl _) _
  replace hV := hV.below hb0
  have HB0 := hid hb0
  clear hb0
  obtain ⟨c0, c1, c2, c3, c4, c5⟩ := hV.cells
  have QP : Hid (∀ nn, (W0.drewN nn).cell? ⟨V, 0, none⟩ = some (.int .i64 p)) := fun nn => c0
  obtain ⟨br, orr, har, hrw⟩ := rowB_at hV.row H.hr
  subst har
  have r7 := hrw 7 (by omega)
  have i7 : I64 (zat r 7) := H.fr 7
  have l7 : (7 : Int) < (r.length : Int) := by have := H.hr; omega
  clear hrw
  have HE : Hid (tvF p r ⟨11, ia, ib, ic⟩ = (zat r 7)) := rfl
  obtain ⟨R, hR⟩ : ∃ R, R = tvF p r ⟨11, ia, ib, ic⟩ := ⟨_, rfl⟩
  rw [← hR] at HE ⊢
  clear hR
  clear i7
  clear HEM H hV
  generalize zat r 7 = x7 at *
  generalize r.length = lr at *
  generalize L.length = nL at *
  subst hW0
  go_enter Tryd.func49, Tryd.ntmps49
  go_wp2_with fail
  go_ret
  exact ⟨by have h := HE.out; subst h; rfl, HB0.out⟩

set_option maxRecDepth 100000 in
set_option maxHeartbeats 2000000 in
theorem wreg0_x (p V : Nat) (L : List InsZ) (size out : Int) (r n : List Int) (aL : Option Addr) (cL : Nat) (ar : Option Addr) (cr : Nat) (an : Option Addr) (cn : Nat) (w : World) (H : VF p L size out r n) (hV : WW p V L size out r n aL cL ar cr an cn w) (ia ib ic : Int) (hi : I64 ia ∧ I64 ib ∧ I64 ic) (op : Int) (hno : op ≠ 10 ∧ op ≠ 11) :
    Calls Tryd.prog 49 #[.pointer (some ⟨V, 0, none⟩), .agg #[.int .i64 op, .int .i64 ia, .int .i64 ib, .int .i64 ic], .int .i64 0] w fun e w' => e = .returned (.int .i64 (tvF p r ⟨op, ia, ib, ic⟩)) ∧ Below w.heap.size w w' := by
  have h3 := H.h3
  have h4 := H.h4
  have HEM : Hid (∀ a : Int, I64 (a % (p : Int))) := fun a => by have := emod_bounds a p H.h3; have := H.h4; unfold I64; omega
  obtain ⟨hia, hib, hic⟩ := hi
  obtain ⟨W0, hW0⟩ : ∃ W0, W0 = w.alloc (.cells #[.int .i64 op, .int .i64 ia, .int .i64 ib, .int .i64 ic] 83) := ⟨_, rfl⟩
  have hb0 : Below w.heap.size w W0 := by rw [hW0]; exact (Below.refl _ _).alloc (Nat.le_refl _) _
  replace hV := hV.below hb0
  have HB0 := hid hb0
  clear hb0
  obtain ⟨c0, c1, c2, c3, c4, c5⟩ := hV.cells
  have QP : Hid (∀ nn, (W0.drewN nn).cell? ⟨V, 0, none⟩ = some (.int .i64 p)) := fun nn => c0
  obtain ⟨br, orr, har, hrw⟩ := rowB_at hV.row H.hr
  subst har
  have r0 := hrw 0 (by omega)
  rw [Nat.add_zero] at r0
  have i0 : I64 (zat r 0) := H.fr 0
  have l0 : (0 : Int) < (r.length : Int) := by have := H.hr; omega
  have l0' : 0 < r.length := by have := H.hr; omega
  clear hrw
  have q10 : (op == 10) = false := by rw [beq_eq_false_iff_ne]; omega
  have q11 : (op == 11) = false := by rw [beq_eq_false_iff_ne]; omega
  have HE : Hid (tvF p r ⟨op, ia, ib, ic⟩ = (zat r 0)) := by unfold Hid; simp [tvF, hno]
  obtain ⟨R, hR⟩ : ∃ R, R = tvF p r ⟨op, ia, ib, ic⟩ := ⟨_, rfl⟩
  rw [← hR] at HE ⊢
  clear hR
  clear i0
  clear HEM H hV
  generalize zat r 0 = x0 at *
  generalize r.length = lr at *
  generalize L.length = nL at *
  subst hW0
  go_enter Tryd.func49, Tryd.ntmps49
  go_wp2_with fail
  go_ret
  exact ⟨by have h := HE.out; subst h; rfl, HB0.out⟩

set_option maxRecDepth 100000 in
set_option maxHeartbeats 2000000 in
theorem wreg1_10 (p V : Nat) (L : List InsZ) (size out : Int) (r n : List Int) (aL : Option Addr) (cL : Nat) (ar : Option Addr) (cr : Nat) (an : Option Addr) (cn : Nat) (w : World) (H : VF p L size out r n) (hV : WW p V L size out r n aL cL ar cr an cn w) (ia ib ic : Int) (hi : I64 ia ∧ I64 ib ∧ I64 ic) :
    Calls Tryd.prog 49 #[.pointer (some ⟨V, 0, none⟩), .agg #[.int .i64 10, .int .i64 ia, .int .i64 ib, .int .i64 ic], .int .i64 1] w fun e w' => e = .returned (.int .i64 (tvA p r ⟨10, ia, ib, ic⟩)) ∧ Below w.heap.size w w' := by
  have h3 := H.h3
  have h4 := H.h4
  have HEM : Hid (∀ a : Int, I64 (a % (p : Int))) := fun a => by have := emod_bounds a p H.h3; have := H.h4; unfold I64; omega
  obtain ⟨hia, hib, hic⟩ := hi
  obtain ⟨W0, hW0⟩ : ∃ W0, W0 = w.alloc (.cells #[.int .i64 10, .int .i64 ia, .int .i64 ib, .int .i64 ic] 83) := ⟨_, rfl⟩
  have hb0 : Below w.heap.size w W0 := by rw [hW0]; exact (Below.refl _ _).alloc (Nat.le_refl _) _
  replace hV := hV.below hb0
  have HB0 := hid hb0
  clear hb0
  obtain ⟨c0, c1, c2, c3, c4, c5⟩ := hV.cells
  have QP : Hid (∀ nn, (W0.drewN nn).cell? ⟨V, 0, none⟩ = some (.int .i64 p)) := fun nn => c0
  obtain ⟨br, orr, har, hrw⟩ := rowB_at hV.row H.hr
  subst har
  have r1 := hrw 1 (by omega)
  have i1 : I64 (zat r 1) := H.fr 1
  have l1 : (1 : Int) < (r.length : Int) := by have := H.hr; omega
  have l1' : 1 < r.length := by have := H.hr; omega
  clear hrw
  have HE : Hid (tvA p r ⟨10, ia, ib, ic⟩ = (((((zat r 1) + (2 : Int)) % (p : Int)) + ib) % (p : Int))) := by
    unfold Hid
    rw [show tvA p r ⟨10, ia, ib, ic⟩ = (zat r 1 + 2 + ib) % (p : Int) from rfl]
    simp only [em_add1]
  obtain ⟨R, hR⟩ : ∃ R, R = tvA p r ⟨10, ia, ib, ic⟩ := ⟨_, rfl⟩
  rw [← hR] at HE ⊢
  clear hR
  have HC0 : Hid (∀ W : World, W.cell? ⟨V, 0, none⟩ = some (.int .i64 p) → Calls Tryd.prog 25 #[.pointer (some ⟨V, 0, none⟩), .int .i64 (zat r 1), .int .i64 (2 : Int)] W fun e w' => e = .returned (.int .i64 (((zat r 1) + (2 : Int)) % (p : Int))) ∧ w' = W) := fun W h => wadd_any p V _ _ W h3 h4 h i1 (show I64 (2 : Int) by unfold I64; decide)
  have HC1 : Hid (∀ W : World, W.cell? ⟨V, 0, none⟩ = some (.int .i64 p) → Calls Tryd.prog 25 #[.pointer (some ⟨V, 0, none⟩), .int .i64 (((zat r 1) + (2 : Int)) % (p : Int)), .int .i64 ib] W fun e w' => e = .returned (.int .i64 (((((zat r 1) + (2 : Int)) % (p : Int)) + ib) % (p : Int))) ∧ w' = W) := fun W h => wadd_any p V _ _ W h3 h4 h (HEM.out _) hib
  clear i1
  clear HEM H hV
  generalize (((((zat r 1) + (2 : Int)) % (p : Int)) + ib) % (p : Int)) = t2 at *
  generalize (((zat r 1) + (2 : Int)) % (p : Int)) = t1 at *
  generalize zat r 1 = x1 at *
  generalize r.length = lr at *
  generalize L.length = nL at *
  subst hW0
  go_enter Tryd.func49, Tryd.ntmps49
  go_wp2_with fail
  refine (HC0.out _ c0).mono ?_
  rintro e w' ⟨rfl, hw'⟩
  have hw'' := hw'.symm
  subst hw''
  clear hw'
  go_wp2_with fail
  refine (HC1.out _ c0).mono ?_
  rintro e w' ⟨rfl, hw'⟩
  have hw'' := hw'.symm
  subst hw''
  clear hw'
  go_wp2_with fail
  go_ret
  exact ⟨by have h := HE.out; subst h; rfl, HB0.out⟩

set_option maxRecDepth 100000 in
set_option maxHeartbeats 2000000 in
theorem wreg1_11 (p V : Nat) (L : List InsZ) (size out : Int) (r n : List Int) (aL : Option Addr) (cL : Nat) (ar : Option Addr) (cr : Nat) (an : Option Addr) (cn : Nat) (w : World) (H : VF p L size out r n) (hV : WW p V L size out r n aL cL ar cr an cn w) (ia ib ic : Int) (hi : I64 ia ∧ I64 ib ∧ I64 ic) :
    Calls Tryd.prog 49 #[.pointer (some ⟨V, 0, none⟩), .agg #[.int .i64 11, .int .i64 ia, .int .i64 ib, .int .i64 ic], .int .i64 1] w fun e w' => e = .returned (.int .i64 (tvA p r ⟨11, ia, ib, ic⟩)) ∧ Below w.heap.size w w' := by
  have h3 := H.h3
  have h4 := H.h4
  have HEM : Hid (∀ a : Int, I64 (a % (p : Int))) := fun a => by have := emod_bounds a p H.h3; have := H.h4; unfold I64; omega
  obtain ⟨hia, hib, hic⟩ := hi
  obtain ⟨W0, hW0⟩ : ∃ W0, W0 = w.alloc (.cells #[.int .i64 11, .int .i64 ia, .int .i64 ib, .int .i64 ic] 83) := ⟨_, rfl⟩
  have hb0 : Below w.heap.size w W0 := by rw [hW0]; exact (Below.refl _ _).alloc (Nat.le_refl _) _
  replace hV := hV.below hb0
  have HB0 := hid hb0
  clear hb0
  obtain ⟨c0, c1, c2, c3, c4, c5⟩ := hV.cells
  have QP : Hid (∀ nn, (W0.drewN nn).cell? ⟨V, 0, none⟩ = some (.int .i64 p)) := fun nn => c0
  obtain ⟨br, orr, har, hrw⟩ := rowB_at hV.row H.hr
  subst har
  have r1 := hrw 1 (by omega)
  have i1 : I64 (zat r 1) := H.fr 1
  have l1 : (1 : Int) < (r.length : Int) := by have := H.hr; omega
  have l1' : 1 < r.length := by have := H.hr; omega
  clear hrw
  have HE : Hid (tvA p r ⟨11, ia, ib, ic⟩ = (zat r 1)) := rfl
  obtain ⟨R, hR⟩ : ∃ R, R = tvA p r ⟨11, ia, ib, ic⟩ := ⟨_, rfl⟩
  rw [← hR] at HE ⊢
  clear hR
  clear i1
  clear HEM H hV
  generalize zat r 1 = x1 at *
  generalize r.length = lr at *
  generalize L.length = nL at *
  subst hW0
  go_enter Tryd.func49, Tryd.ntmps49
  go_wp2_with fail
  go_ret
  exact ⟨by have h := HE.out; subst h; rfl, HB0.out⟩

set_option maxRecDepth 100000 in
set_option maxHeartbeats 2000000 in
theorem wreg1_x (p V : Nat) (L : List InsZ) (size out : Int) (r n : List Int) (aL : Option Addr) (cL : Nat) (ar : Option Addr) (cr : Nat) (an : Option Addr) (cn : Nat) (w : World) (H : VF p L size out r n) (hV : WW p V L size out r n aL cL ar cr an cn w) (ia ib ic : Int) (hi : I64 ia ∧ I64 ib ∧ I64 ic) (op : Int) (hno : op ≠ 10 ∧ op ≠ 11) :
    Calls Tryd.prog 49 #[.pointer (some ⟨V, 0, none⟩), .agg #[.int .i64 op, .int .i64 ia, .int .i64 ib, .int .i64 ic], .int .i64 1] w fun e w' => e = .returned (.int .i64 (tvA p r ⟨op, ia, ib, ic⟩)) ∧ Below w.heap.size w w' := by
  have h3 := H.h3
  have h4 := H.h4
  have HEM : Hid (∀ a : Int, I64 (a % (p : Int))) := fun a => by have := emod_bounds a p H.h3; have := H.h4; unfold I64; omega
  obtain ⟨hia, hib, hic⟩ := hi
  obtain ⟨W0, hW0⟩ : ∃ W0, W0 = w.alloc (.cells #[.int .i64 op, .int .i64 ia, .int .i64 ib, .int .i64 ic] 83) := ⟨_, rfl⟩
  have hb0 : Below w.heap.size w W0 := by rw [hW0]; exact (Below.refl _ _).alloc (Nat.le_refl _) _
  replace hV := hV.below hb0
  have HB0 := hid hb0
  clear hb0
  obtain ⟨c0, c1, c2, c3, c4, c5⟩ := hV.cells
  have QP : Hid (∀ nn, (W0.drewN nn).cell? ⟨V, 0, none⟩ = some (.int .i64 p)) := fun nn => c0
  obtain ⟨br, orr, har, hrw⟩ := rowB_at hV.row H.hr
  subst har
  have r1 := hrw 1 (by omega)
  have i1 : I64 (zat r 1) := H.fr 1
  have l1 : (1 : Int) < (r.length : Int) := by have := H.hr; omega
  have l1' : 1 < r.length := by have := H.hr; omega
  clear hrw
  have q10 : (op == 10) = false := by rw [beq_eq_false_iff_ne]; omega
  have q11 : (op == 11) = false := by rw [beq_eq_false_iff_ne]; omega
  have HE : Hid (tvA p r ⟨op, ia, ib, ic⟩ = (zat r 1)) := by unfold Hid; simp [tvA, hno]
  obtain ⟨R, hR⟩ : ∃ R, R = tvA p r ⟨op, ia, ib, ic⟩ := ⟨_, rfl⟩
  rw [← hR] at HE ⊢
  clear hR
  clear i1
  clear HEM H hV
  generalize zat r 1 = x1 at *
  generalize r.length = lr at *
  generalize L.length = nL at *
  subst hW0
  go_enter Tryd.func49, Tryd.ntmps49
  go_wp2_with fail
  go_ret
  exact ⟨by have h := HE.out; subst h; rfl, HB0.out⟩

set_option maxRecDepth 100000 in
set_option maxHeartbeats 2000000 in
theorem wreg2_11 (p V : Nat) (L : List InsZ) (size out : Int) (r n : List Int) (aL : Option Addr) (cL : Nat) (ar : Option Addr) (cr : Nat) (an : Option Addr) (cn : Nat) (w : World) (H : VF p L size out r n) (hV : WW p V L size out r n aL cL ar cr an cn w) (ia ib ic : Int) (hi : I64 ia ∧ I64 ib ∧ I64 ic) :
    Calls Tryd.prog 49 #[.pointer (some ⟨V, 0, none⟩), .agg #[.int .i64 11, .int .i64 ia, .int .i64 ib, .int .i64 ic], .int .i64 2] w fun e w' => e = .returned (.int .i64 (tvR r ⟨11, ia, ib, ic⟩)) ∧ Below w.heap.size w w' := by
  have h3 := H.h3
  have h4 := H.h4
  have HEM : Hid (∀ a : Int, I64 (a % (p : Int))) := fun a => by have := emod_bounds a p H.h3; have := H.h4; unfold I64; omega
  obtain ⟨hia, hib, hic⟩ := hi
  obtain ⟨W0, hW0⟩ : ∃ W0, W0 = w.alloc (.cells #[.int .i64 11, .int .i64 ia, .int .i64 ib, .int .i64 ic] 83) := ⟨_, rfl⟩
  have hb0 : Below w.heap.size w W0 := by rw [hW0]; exact (Below.refl _ _).alloc (Nat.le_refl _) _
  replace hV := hV.below hb0
  have HB0 := hid hb0
  clear hb0
  obtain ⟨c0, c1, c2, c3, c4, c5⟩ := hV.cells
  have QP : Hid (∀ nn, (W0.drewN nn).cell? ⟨V, 0, none⟩ = some (.int .i64 p)) := fun nn => c0
  obtain ⟨br, orr, har, hrw⟩ := rowB_at hV.row H.hr
  subst har
  have r9 := hrw 9 (by omega)
  have i9 : I64 (zat r 9) := H.fr 9
  have l9 : (9 : Int) < (r.length : Int) := by have := H.hr; omega
  clear hrw
  have HE : Hid (tvR r ⟨11, ia, ib, ic⟩ = (zat r 9)) := rfl
  obtain ⟨R, hR⟩ : ∃ R, R = tvR r ⟨11, ia, ib, ic⟩ := ⟨_, rfl⟩
  rw [← hR] at HE ⊢
  clear hR
  clear i9
  clear HEM H hV
  generalize zat r 9 = x9 at *
  generalize r.length = lr at *
  generalize L.length = nL at *
  subst hW0
  go_enter Tryd.func49, Tryd.ntmps49
  go_wp2_with fail
  go_ret
  exact ⟨by have h := HE.out; subst h; rfl, HB0.out⟩

set_option maxRecDepth 100000 in
set_option maxHeartbeats 2000000 in
theorem wreg2_10 (p V : Nat) (L : List InsZ) (size out : Int) (r n : List Int) (aL : Option Addr) (cL : Nat) (ar : Option Addr) (cr : Nat) (an : Option Addr) (cn : Nat) (w : World) (H : VF p L size out r n) (hV : WW p V L size out r n aL cL ar cr an cn w) (ia ib ic : Int) (hi : I64 ia ∧ I64 ib ∧ I64 ic) :
    Calls Tryd.prog 49 #[.pointer (some ⟨V, 0, none⟩), .agg #[.int .i64 10, .int .i64 ia, .int .i64 ib, .int .i64 ic], .int .i64 2] w fun e w' => e = .returned (.int .i64 (tvR r ⟨10, ia, ib, ic⟩)) ∧ Below w.heap.size w w' := by
  have h3 := H.h3
  have h4 := H.h4
  have HEM : Hid (∀ a : Int, I64 (a % (p : Int))) := fun a => by have := emod_bounds a p H.h3; have := H.h4; unfold I64; omega
  obtain ⟨hia, hib, hic⟩ := hi
  obtain ⟨W0, hW0⟩ : ∃ W0, W0 = w.alloc (.cells #[.int .i64 10, .int .i64 ia, .int .i64 ib, .int .i64 ic] 83) := ⟨_, rfl⟩
  have hb0 : Below w.heap.size w W0 := by rw [hW0]; exact (Below.refl _ _).alloc (Nat.le_refl _) _
  replace hV := hV.below hb0
  have HB0 := hid hb0
  clear hb0
  obtain ⟨c0, c1, c2, c3, c4, c5⟩ := hV.cells
  have QP : Hid (∀ nn, (W0.drewN nn).cell? ⟨V, 0, none⟩ = some (.int .i64 p)) := fun nn => c0
  obtain ⟨br, orr, har, hrw⟩ := rowB_at hV.row H.hr
  subst har
  have r2 := hrw 2 (by omega)
  have i2 : I64 (zat r 2) := H.fr 2
  have l2 : (2 : Int) < (r.length : Int) := by have := H.hr; omega
  clear hrw
  have HE : Hid (tvR r ⟨10, ia, ib, ic⟩ = (zat r 2)) := rfl
  obtain ⟨R, hR⟩ : ∃ R, R = tvR r ⟨10, ia, ib, ic⟩ := ⟨_, rfl⟩
  rw [← hR] at HE ⊢
  clear hR
  clear i2
  clear HEM H hV
  generalize zat r 2 = x2 at *
  generalize r.length = lr at *
  generalize L.length = nL at *
  subst hW0
  go_enter Tryd.func49, Tryd.ntmps49
  go_wp2_with fail
  go_ret
  exact ⟨by have h := HE.out; subst h; rfl, HB0.out⟩

set_option maxRecDepth 100000 in
set_option maxHeartbeats 2000000 in
theorem wreg2_x (p V : Nat) (L : List InsZ) (size out : Int) (r n : List Int) (aL : Option Addr) (cL : Nat) (ar : Option Addr) (cr : Nat) (an : Option Addr) (cn : Nat) (w : World) (H : VF p L size out r n) (hV : WW p V L size out r n aL cL ar cr an cn w) (ia ib ic : Int) (hi : I64 ia ∧ I64 ib ∧ I64 ic) (op : Int) (hno : op ≠ 10 ∧ op ≠ 11) :
    Calls Tryd.prog 49 #[.pointer (some ⟨V, 0, none⟩), .agg #[.int .i64 op, .int .i64 ia, .int .i64 ib, .int .i64 ic], .int .i64 2] w fun e w' => e = .returned (.int .i64 (tvR r ⟨op, ia, ib, ic⟩)) ∧ Below w.heap.size w w' := by
  have h3 := H.h3
  have h4 := H.h4
  have HEM : Hid (∀ a : Int, I64 (a % (p : Int))) := fun a => by have := emod_bounds a p H.h3; have := H.h4; unfold I64; omega
  obtain ⟨hia, hib, hic⟩ := hi
  obtain ⟨W0, hW0⟩ : ∃ W0, W0 = w.alloc (.cells #[.int .i64 op, .int .i64 ia, .int .i64 ib, .int .i64 ic] 83) := ⟨_, rfl⟩
  have hb0 : Below w.heap.size w W0 := by rw [hW0]; exact (Below.refl _ _).alloc (Nat.le_refl _) _
  replace hV := hV.below hb0
  have HB0 := hid hb0
  clear hb0
  obtain ⟨c0, c1, c2, c3, c4, c5⟩ := hV.cells
  have QP : Hid (∀ nn, (W0.drewN nn).cell? ⟨V, 0, none⟩ = some (.int .i64 p)) := fun nn => c0
  obtain ⟨br, orr, har, hrw⟩ := rowB_at hV.row H.hr
  subst har
  have r2 := hrw 2 (by omega)
  have i2 : I64 (zat r 2) := H.fr 2
  have l2 : (2 : Int) < (r.length : Int) := by have := H.hr; omega
  clear hrw
  have q10 : (op == 10) = false := by rw [beq_eq_false_iff_ne]; omega
  have q11 : (op == 11) = false := by rw [beq_eq_false_iff_ne]; omega
  have HE : Hid (tvR r ⟨op, ia, ib, ic⟩ = (zat r 2)) := by unfold Hid; simp [tvR, hno]
  obtain ⟨R, hR⟩ : ∃ R, R = tvR r ⟨op, ia, ib, ic⟩ := ⟨_, rfl⟩
  rw [← hR] at HE ⊢
  clear hR
  clear i2
  clear HEM H hV
  generalize zat r 2 = x2 at *
  generalize r.length = lr at *
  generalize L.length = nL at *
  subst hW0
  go_enter Tryd.func49, Tryd.ntmps49
  go_wp2_with fail
  go_ret
  exact ⟨by have h := HE.out; subst h; rfl, HB0.out⟩

end Go.Proofs.YtaibngnabhmabajDoor
