
import Derived.Test.YtjlngcmkgkiplaaGreatDoorWcBA
import Derived.Test.YtjlngcmkgkiplaaGreatDoorWcBB
import Derived.Test.YtjlngcmkgkiplaaGreatDoorWcBC
import Derived.Test.YtjlngcmkgkiplaaGreatDoorWcAT
set_option maxRecDepth 1000000
set_option maxHeartbeats 8000000
namespace Go.Proofs.YtjlngcmkgkiplaaGreatDoor
open Go.RowKit Go.Maps
theorem wreg0_10 (p V : Nat) (L : List InsZ) (size out : Int) (r n : List Int) (aL : Option Addr) (cL : Nat) (ar : Option Addr) (cr : Nat) (an : Option Addr) (cn : Nat) (w : World) (H : VF p L size out r n) (hV : WW p V L size out r n aL cL ar cr an cn w) (ia ib ic : Int) (hi : I64 ia /\ I64 ib /\ I64 ic) :
  Calls Tryz.prog 145 #[.pointer (some ⟨V, 0, none⟩), .agg #[.int .i64 10, .int .i64 ia, .int .i64 ib, .int .i64 ic], .int .i64 0] w fun e w' => e = .returned (.int .i64 (tvF p r ⟨10, ia, ib, ic⟩)) /\ Below w.heap.size w w' := by
 have h3 := H.h3
 have h4 := H.h4
 have HEM := hemL H
 obtain ⟨hia, hib, hic⟩ := hi
 obtain ⟨W0, hW0⟩ := exE (w.alloc (.cells #[.int .i64 10, .int .i64 ia, .int .i64 ib, .int .i64 ic] 180))
 have hb0 := blA hW0
 replace hV := hV.below hb0
 have HB0 := hid hb0
 clear hb0
 obtain ⟨c0, c1, c2, c3, c4, c5⟩ := hV.cells
 have QP := qpL c0
 obtain ⟨br, orr, har, hrw⟩ := rowB_at hV.row H.hr
 subst har
 have r1 := hrw 1 (by omega)
 have i1 := H.fr 1
 have l1 := llL H 1
 have l1' := llN H 1
 clear hrw
 have HE : Hid (tvF p r ⟨10, ia, ib, ic⟩ = (((zat r 1) + (2 : Int)) % (p : Int))) := by
  unfold Hid
  rw [show tvF p r ⟨10, ia, ib, ic⟩ = (zat r 1 + 2) % (p : Int) from rfl]
 obtain ⟨R, hR⟩ := exE (tvF p r ⟨10, ia, ib, ic⟩)
 rw [<- hR] at HE ⊢
 clear hR
 have HC0 := hid (fun W h => wadd_any p V (zat r 1) (2 : Int) W h3 h4 h i1 (show I64 (2 : Int) by unfold I64; decide))
 clear i1
 clear HEM H hV
 generalize (((zat r 1) + (2 : Int)) % (p : Int)) = t1 at *
 generalize zat r 1 = x1 at *
 generalize r.length = lr at *
 generalize L.length = nL at *
 subst hW0
 go_enter Tryz.func145, Tryz.ntmps145
 go_wp2_with fail
 refine (HC0.out _ c0).mono ?_
 rintro e w' ⟨rfl, hw'⟩
 have hw'' := hw'.symm
 subst hw''
 clear hw'
 go_wp2_with fail
 go_ret
 exact ⟨by have h := HE.out; subst h; rfl, HB0.out⟩
theorem wreg0_11 (p V : Nat) (L : List InsZ) (size out : Int) (r n : List Int) (aL : Option Addr) (cL : Nat) (ar : Option Addr) (cr : Nat) (an : Option Addr) (cn : Nat) (w : World) (H : VF p L size out r n) (hV : WW p V L size out r n aL cL ar cr an cn w) (ia ib ic : Int) (hi : I64 ia /\ I64 ib /\ I64 ic) :
  Calls Tryz.prog 145 #[.pointer (some ⟨V, 0, none⟩), .agg #[.int .i64 11, .int .i64 ia, .int .i64 ib, .int .i64 ic], .int .i64 0] w fun e w' => e = .returned (.int .i64 (tvF p r ⟨11, ia, ib, ic⟩)) /\ Below w.heap.size w w' := by
 have h3 := H.h3
 have h4 := H.h4
 have HEM := hemL H
 obtain ⟨hia, hib, hic⟩ := hi
 obtain ⟨W0, hW0⟩ := exE (w.alloc (.cells #[.int .i64 11, .int .i64 ia, .int .i64 ib, .int .i64 ic] 180))
 have hb0 := blA hW0
 replace hV := hV.below hb0
 have HB0 := hid hb0
 clear hb0
 obtain ⟨c0, c1, c2, c3, c4, c5⟩ := hV.cells
 have QP := qpL c0
 obtain ⟨br, orr, har, hrw⟩ := rowB_at hV.row H.hr
 subst har
 have r7 := hrw 7 (by omega)
 have i7 := H.fr 7
 have l7 := llL H 7
 clear hrw
 have HE : Hid (tvF p r ⟨11, ia, ib, ic⟩ = (zat r 7)) := rfl
 obtain ⟨R, hR⟩ := exE (tvF p r ⟨11, ia, ib, ic⟩)
 rw [<- hR] at HE ⊢
 clear hR
 clear i7
 clear HEM H hV
 generalize zat r 7 = x7 at *
 generalize r.length = lr at *
 generalize L.length = nL at *
 subst hW0
 go_enter Tryz.func145, Tryz.ntmps145
 go_wp2_with fail
 go_ret
 exact ⟨by have h := HE.out; subst h; rfl, HB0.out⟩
theorem wreg0_x (p V : Nat) (L : List InsZ) (size out : Int) (r n : List Int) (aL : Option Addr) (cL : Nat) (ar : Option Addr) (cr : Nat) (an : Option Addr) (cn : Nat) (w : World) (H : VF p L size out r n) (hV : WW p V L size out r n aL cL ar cr an cn w) (ia ib ic : Int) (hi : I64 ia /\ I64 ib /\ I64 ic) (op : Int) (hno : op ≠ 10 /\ op ≠ 11) :
  Calls Tryz.prog 145 #[.pointer (some ⟨V, 0, none⟩), .agg #[.int .i64 op, .int .i64 ia, .int .i64 ib, .int .i64 ic], .int .i64 0] w fun e w' => e = .returned (.int .i64 (tvF p r ⟨op, ia, ib, ic⟩)) /\ Below w.heap.size w w' := by
 have h3 := H.h3
 have h4 := H.h4
 have HEM := hemL H
 obtain ⟨hia, hib, hic⟩ := hi
 obtain ⟨W0, hW0⟩ := exE (w.alloc (.cells #[.int .i64 op, .int .i64 ia, .int .i64 ib, .int .i64 ic] 180))
 have hb0 := blA hW0
 replace hV := hV.below hb0
 have HB0 := hid hb0
 clear hb0
 obtain ⟨c0, c1, c2, c3, c4, c5⟩ := hV.cells
 have QP := qpL c0
 obtain ⟨br, orr, har, hrw⟩ := rowB_at hV.row H.hr
 subst har
 have r0 := hrw 0 (by omega)
 rw [Nat.add_zero] at r0
 have i0 := H.fr 0
 have l0 := llL H 0
 have l0' := llN H 0
 clear hrw
 have q10 : (op == 10) = false := by rw [beq_eq_false_iff_ne]; omega
 have q11 : (op == 11) = false := by rw [beq_eq_false_iff_ne]; omega
 have HE : Hid (tvF p r ⟨op, ia, ib, ic⟩ = (zat r 0)) := by unfold Hid; simp [tvF, hno]
 obtain ⟨R, hR⟩ := exE (tvF p r ⟨op, ia, ib, ic⟩)
 rw [<- hR] at HE ⊢
 clear hR
 clear i0
 clear HEM H hV
 generalize zat r 0 = x0 at *
 generalize r.length = lr at *
 generalize L.length = nL at *
 subst hW0
 go_enter Tryz.func145, Tryz.ntmps145
 go_wp2_with fail
 go_ret
 exact ⟨by have h := HE.out; subst h; rfl, HB0.out⟩
theorem wreg1_10 (p V : Nat) (L : List InsZ) (size out : Int) (r n : List Int) (aL : Option Addr) (cL : Nat) (ar : Option Addr) (cr : Nat) (an : Option Addr) (cn : Nat) (w : World) (H : VF p L size out r n) (hV : WW p V L size out r n aL cL ar cr an cn w) (ia ib ic : Int) (hi : I64 ia /\ I64 ib /\ I64 ic) :
  Calls Tryz.prog 145 #[.pointer (some ⟨V, 0, none⟩), .agg #[.int .i64 10, .int .i64 ia, .int .i64 ib, .int .i64 ic], .int .i64 1] w fun e w' => e = .returned (.int .i64 (tvA p r ⟨10, ia, ib, ic⟩)) /\ Below w.heap.size w w' := by
 have h3 := H.h3
 have h4 := H.h4
 have HEM := hemL H
 obtain ⟨hia, hib, hic⟩ := hi
 obtain ⟨W0, hW0⟩ := exE (w.alloc (.cells #[.int .i64 10, .int .i64 ia, .int .i64 ib, .int .i64 ic] 180))
 have hb0 := blA hW0
 replace hV := hV.below hb0
 have HB0 := hid hb0
 clear hb0
 obtain ⟨c0, c1, c2, c3, c4, c5⟩ := hV.cells
 have QP := qpL c0
 obtain ⟨br, orr, har, hrw⟩ := rowB_at hV.row H.hr
 subst har
 have r1 := hrw 1 (by omega)
 have i1 := H.fr 1
 have l1 := llL H 1
 have l1' := llN H 1
 clear hrw
 have HE : Hid (tvA p r ⟨10, ia, ib, ic⟩ = (((((zat r 1) + (2 : Int)) % (p : Int)) + ib) % (p : Int))) := by
  unfold Hid
  rw [show tvA p r ⟨10, ia, ib, ic⟩ = (zat r 1 + 2 + ib) % (p : Int) from rfl]
  simp only [em_add1]
 obtain ⟨R, hR⟩ := exE (tvA p r ⟨10, ia, ib, ic⟩)
 rw [<- hR] at HE ⊢
 clear hR
 have HC0 := hid (fun W h => wadd_any p V (zat r 1) (2 : Int) W h3 h4 h i1 (show I64 (2 : Int) by unfold I64; decide))
 have HC1 := hid (fun W h => wadd_any p V ((((zat r 1) + (2 : Int)) % (p : Int))) ib W h3 h4 h (HEM.out _) hib)
 clear i1
 clear HEM H hV
 generalize (((((zat r 1) + (2 : Int)) % (p : Int)) + ib) % (p : Int)) = t2 at *
 generalize (((zat r 1) + (2 : Int)) % (p : Int)) = t1 at *
 generalize zat r 1 = x1 at *
 generalize r.length = lr at *
 generalize L.length = nL at *
 subst hW0
 go_enter Tryz.func145, Tryz.ntmps145
 go_wp2_with fail
 refine (HC0.out _ c0).mono ?_
 rintro e w' ⟨rfl, hw'⟩
 have hw'' := hw'.symm
 subst hw''
 clear hw'
 go_wp2_with fail
 refine (HC1.out _ c0).mono ?_
 rintro e w' ⟨rfl, hw'⟩
 have hw'' := hw'.symm
 subst hw''
 clear hw'
 go_wp2_with fail
 go_ret
 exact ⟨by have h := HE.out; subst h; rfl, HB0.out⟩
theorem wreg1_11 (p V : Nat) (L : List InsZ) (size out : Int) (r n : List Int) (aL : Option Addr) (cL : Nat) (ar : Option Addr) (cr : Nat) (an : Option Addr) (cn : Nat) (w : World) (H : VF p L size out r n) (hV : WW p V L size out r n aL cL ar cr an cn w) (ia ib ic : Int) (hi : I64 ia /\ I64 ib /\ I64 ic) :
  Calls Tryz.prog 145 #[.pointer (some ⟨V, 0, none⟩), .agg #[.int .i64 11, .int .i64 ia, .int .i64 ib, .int .i64 ic], .int .i64 1] w fun e w' => e = .returned (.int .i64 (tvA p r ⟨11, ia, ib, ic⟩)) /\ Below w.heap.size w w' := by
 have h3 := H.h3
 have h4 := H.h4
 have HEM := hemL H
 obtain ⟨hia, hib, hic⟩ := hi
 obtain ⟨W0, hW0⟩ := exE (w.alloc (.cells #[.int .i64 11, .int .i64 ia, .int .i64 ib, .int .i64 ic] 180))
 have hb0 := blA hW0
 replace hV := hV.below hb0
 have HB0 := hid hb0
 clear hb0
 obtain ⟨c0, c1, c2, c3, c4, c5⟩ := hV.cells
 have QP := qpL c0
 obtain ⟨br, orr, har, hrw⟩ := rowB_at hV.row H.hr
 subst har
 have r1 := hrw 1 (by omega)
 have i1 := H.fr 1
 have l1 := llL H 1
 have l1' := llN H 1
 clear hrw
 have HE : Hid (tvA p r ⟨11, ia, ib, ic⟩ = (zat r 1)) := rfl
 obtain ⟨R, hR⟩ := exE (tvA p r ⟨11, ia, ib, ic⟩)
 rw [<- hR] at HE ⊢
 clear hR
 clear i1
 clear HEM H hV
 generalize zat r 1 = x1 at *
 generalize r.length = lr at *
 generalize L.length = nL at *
 subst hW0
 go_enter Tryz.func145, Tryz.ntmps145
 go_wp2_with fail
 go_ret
 exact ⟨by have h := HE.out; subst h; rfl, HB0.out⟩
theorem wreg1_x (p V : Nat) (L : List InsZ) (size out : Int) (r n : List Int) (aL : Option Addr) (cL : Nat) (ar : Option Addr) (cr : Nat) (an : Option Addr) (cn : Nat) (w : World) (H : VF p L size out r n) (hV : WW p V L size out r n aL cL ar cr an cn w) (ia ib ic : Int) (hi : I64 ia /\ I64 ib /\ I64 ic) (op : Int) (hno : op ≠ 10 /\ op ≠ 11) :
  Calls Tryz.prog 145 #[.pointer (some ⟨V, 0, none⟩), .agg #[.int .i64 op, .int .i64 ia, .int .i64 ib, .int .i64 ic], .int .i64 1] w fun e w' => e = .returned (.int .i64 (tvA p r ⟨op, ia, ib, ic⟩)) /\ Below w.heap.size w w' := by
 have h3 := H.h3
 have h4 := H.h4
 have HEM := hemL H
 obtain ⟨hia, hib, hic⟩ := hi
 obtain ⟨W0, hW0⟩ := exE (w.alloc (.cells #[.int .i64 op, .int .i64 ia, .int .i64 ib, .int .i64 ic] 180))
 have hb0 := blA hW0
 replace hV := hV.below hb0
 have HB0 := hid hb0
 clear hb0
 obtain ⟨c0, c1, c2, c3, c4, c5⟩ := hV.cells
 have QP := qpL c0
 obtain ⟨br, orr, har, hrw⟩ := rowB_at hV.row H.hr
 subst har
 have r1 := hrw 1 (by omega)
 have i1 := H.fr 1
 have l1 := llL H 1
 have l1' := llN H 1
 clear hrw
 have q10 : (op == 10) = false := by rw [beq_eq_false_iff_ne]; omega
 have q11 : (op == 11) = false := by rw [beq_eq_false_iff_ne]; omega
 have HE : Hid (tvA p r ⟨op, ia, ib, ic⟩ = (zat r 1)) := by unfold Hid; simp [tvA, hno]
 obtain ⟨R, hR⟩ := exE (tvA p r ⟨op, ia, ib, ic⟩)
 rw [<- hR] at HE ⊢
 clear hR
 clear i1
 clear HEM H hV
 generalize zat r 1 = x1 at *
 generalize r.length = lr at *
 generalize L.length = nL at *
 subst hW0
 go_enter Tryz.func145, Tryz.ntmps145
 go_wp2_with fail
 go_ret
 exact ⟨by have h := HE.out; subst h; rfl, HB0.out⟩
theorem wreg2_11 (p V : Nat) (L : List InsZ) (size out : Int) (r n : List Int) (aL : Option Addr) (cL : Nat) (ar : Option Addr) (cr : Nat) (an : Option Addr) (cn : Nat) (w : World) (H : VF p L size out r n) (hV : WW p V L size out r n aL cL ar cr an cn w) (ia ib ic : Int) (hi : I64 ia /\ I64 ib /\ I64 ic) :
  Calls Tryz.prog 145 #[.pointer (some ⟨V, 0, none⟩), .agg #[.int .i64 11, .int .i64 ia, .int .i64 ib, .int .i64 ic], .int .i64 2] w fun e w' => e = .returned (.int .i64 (tvR r ⟨11, ia, ib, ic⟩)) /\ Below w.heap.size w w' := by
 have h3 := H.h3
 have h4 := H.h4
 have HEM := hemL H
 obtain ⟨hia, hib, hic⟩ := hi
 obtain ⟨W0, hW0⟩ := exE (w.alloc (.cells #[.int .i64 11, .int .i64 ia, .int .i64 ib, .int .i64 ic] 180))
 have hb0 := blA hW0
 replace hV := hV.below hb0
 have HB0 := hid hb0
 clear hb0
 obtain ⟨c0, c1, c2, c3, c4, c5⟩ := hV.cells
 have QP := qpL c0
 obtain ⟨br, orr, har, hrw⟩ := rowB_at hV.row H.hr
 subst har
 have r9 := hrw 9 (by omega)
 have i9 := H.fr 9
 have l9 := llL H 9
 clear hrw
 have HE : Hid (tvR r ⟨11, ia, ib, ic⟩ = (zat r 9)) := rfl
 obtain ⟨R, hR⟩ := exE (tvR r ⟨11, ia, ib, ic⟩)
 rw [<- hR] at HE ⊢
 clear hR
 clear i9
 clear HEM H hV
 generalize zat r 9 = x9 at *
 generalize r.length = lr at *
 generalize L.length = nL at *
 subst hW0
 go_enter Tryz.func145, Tryz.ntmps145
 go_wp2_with fail
 go_ret
 exact ⟨by have h := HE.out; subst h; rfl, HB0.out⟩
theorem wreg2_10 (p V : Nat) (L : List InsZ) (size out : Int) (r n : List Int) (aL : Option Addr) (cL : Nat) (ar : Option Addr) (cr : Nat) (an : Option Addr) (cn : Nat) (w : World) (H : VF p L size out r n) (hV : WW p V L size out r n aL cL ar cr an cn w) (ia ib ic : Int) (hi : I64 ia /\ I64 ib /\ I64 ic) :
  Calls Tryz.prog 145 #[.pointer (some ⟨V, 0, none⟩), .agg #[.int .i64 10, .int .i64 ia, .int .i64 ib, .int .i64 ic], .int .i64 2] w fun e w' => e = .returned (.int .i64 (tvR r ⟨10, ia, ib, ic⟩)) /\ Below w.heap.size w w' := by
 have h3 := H.h3
 have h4 := H.h4
 have HEM := hemL H
 obtain ⟨hia, hib, hic⟩ := hi
 obtain ⟨W0, hW0⟩ := exE (w.alloc (.cells #[.int .i64 10, .int .i64 ia, .int .i64 ib, .int .i64 ic] 180))
 have hb0 := blA hW0
 replace hV := hV.below hb0
 have HB0 := hid hb0
 clear hb0
 obtain ⟨c0, c1, c2, c3, c4, c5⟩ := hV.cells
 have QP := qpL c0
 obtain ⟨br, orr, har, hrw⟩ := rowB_at hV.row H.hr
 subst har
 have r2 := hrw 2 (by omega)
 have i2 := H.fr 2
 have l2 := llL H 2
 clear hrw
 have HE : Hid (tvR r ⟨10, ia, ib, ic⟩ = (zat r 2)) := rfl
 obtain ⟨R, hR⟩ := exE (tvR r ⟨10, ia, ib, ic⟩)
 rw [<- hR] at HE ⊢
 clear hR
 clear i2
 clear HEM H hV
 generalize zat r 2 = x2 at *
 generalize r.length = lr at *
 generalize L.length = nL at *
 subst hW0
 go_enter Tryz.func145, Tryz.ntmps145
 go_wp2_with fail
 go_ret
 exact ⟨by have h := HE.out; subst h; rfl, HB0.out⟩
theorem wreg2_x (p V : Nat) (L : List InsZ) (size out : Int) (r n : List Int) (aL : Option Addr) (cL : Nat) (ar : Option Addr) (cr : Nat) (an : Option Addr) (cn : Nat) (w : World) (H : VF p L size out r n) (hV : WW p V L size out r n aL cL ar cr an cn w) (ia ib ic : Int) (hi : I64 ia /\ I64 ib /\ I64 ic) (op : Int) (hno : op ≠ 10 /\ op ≠ 11) :
  Calls Tryz.prog 145 #[.pointer (some ⟨V, 0, none⟩), .agg #[.int .i64 op, .int .i64 ia, .int .i64 ib, .int .i64 ic], .int .i64 2] w fun e w' => e = .returned (.int .i64 (tvR r ⟨op, ia, ib, ic⟩)) /\ Below w.heap.size w w' := by
 have h3 := H.h3
 have h4 := H.h4
 have HEM := hemL H
 obtain ⟨hia, hib, hic⟩ := hi
 obtain ⟨W0, hW0⟩ := exE (w.alloc (.cells #[.int .i64 op, .int .i64 ia, .int .i64 ib, .int .i64 ic] 180))
 have hb0 := blA hW0
 replace hV := hV.below hb0
 have HB0 := hid hb0
 clear hb0
 obtain ⟨c0, c1, c2, c3, c4, c5⟩ := hV.cells
 have QP := qpL c0
 obtain ⟨br, orr, har, hrw⟩ := rowB_at hV.row H.hr
 subst har
 have r2 := hrw 2 (by omega)
 have i2 := H.fr 2
 have l2 := llL H 2
 clear hrw
 have q10 : (op == 10) = false := by rw [beq_eq_false_iff_ne]; omega
 have q11 : (op == 11) = false := by rw [beq_eq_false_iff_ne]; omega
 have HE : Hid (tvR r ⟨op, ia, ib, ic⟩ = (zat r 2)) := by unfold Hid; simp [tvR, hno]
 obtain ⟨R, hR⟩ := exE (tvR r ⟨op, ia, ib, ic⟩)
 rw [<- hR] at HE ⊢
 clear hR
 clear i2
 clear HEM H hV
 generalize zat r 2 = x2 at *
 generalize r.length = lr at *
 generalize L.length = nL at *
 subst hW0
 go_enter Tryz.func145, Tryz.ntmps145
 go_wp2_with fail
 go_ret
 exact ⟨by have h := HE.out; subst h; rfl, HB0.out⟩
theorem wcell0_any (p V : Nat) (L : List InsZ) (size out : Int) (r n : List Int) (aL : Option Addr) (cL : Nat) (ar : Option Addr) (cr : Nat) (an : Option Addr) (cn : Nat) (w : World) (H : VF p L size out r n) (hV : WW p V L size out r n aL cL ar cr an cn w) (op ia ib ic : Int) (hi : I64 ia /\ I64 ib /\ I64 ic) :
  Calls Tryz.prog 141 #[.pointer (some ⟨V, 0, none⟩), .agg #[.int .i64 op, .int .i64 ia, .int .i64 ib, .int .i64 ic], .int .i64 0] w fun e w' => e = .returned (.int .i64 (tvC p r 0 ⟨op, ia, ib, ic⟩)) /\ Below w.heap.size w w' := by
 by_cases g0 : op = 0; · subst g0; exact wcell0_0 p V L size out r n aL cL ar cr an cn w H hV ia ib ic hi
 by_cases g1 : op = 1; · subst g1; exact wcell0_1 p V L size out r n aL cL ar cr an cn w H hV ia ib ic hi
 by_cases g2 : op = 2; · subst g2; exact wcell0_2 p V L size out r n aL cL ar cr an cn w H hV ia ib ic hi
 by_cases g3 : op = 3; · subst g3; exact wcell0_3 p V L size out r n aL cL ar cr an cn w H hV ia ib ic hi
 by_cases g4 : op = 4; · subst g4; exact wcell0_4 p V L size out r n aL cL ar cr an cn w H hV ia ib ic hi
 by_cases g5 : op = 5; · subst g5; exact wcell0_5 p V L size out r n aL cL ar cr an cn w H hV ia ib ic hi
 by_cases g6 : op = 6; · subst g6; exact wcell0_6 p V L size out r n aL cL ar cr an cn w H hV ia ib ic hi
 by_cases g7 : op = 7; · subst g7; exact wcell0_7 p V L size out r n aL cL ar cr an cn w H hV ia ib ic hi
 by_cases g8 : op = 8; · subst g8; exact wcell0_8 p V L size out r n aL cL ar cr an cn w H hV ia ib ic hi
 by_cases g9 : op = 9; · subst g9; exact wcell0_9 p V L size out r n aL cL ar cr an cn w H hV ia ib ic hi
 by_cases g10 : op = 10; · subst g10; exact wcell0_10 p V L size out r n aL cL ar cr an cn w H hV ia ib ic hi
 by_cases g11 : op = 11; · subst g11; exact wcell0_11 p V L size out r n aL cL ar cr an cn w H hV ia ib ic hi
 by_cases g12 : op = 12; · subst g12; exact wcell0_12 p V L size out r n aL cL ar cr an cn w H hV ia ib ic hi
 by_cases g13 : op = 13; · subst g13; exact wcell0_13 p V L size out r n aL cL ar cr an cn w H hV ia ib ic hi
 exact wcell0_x p V L size out r n aL cL ar cr an cn w H hV ia ib ic hi op ⟨g0, g1, g2, g3, g4, g5, g6, g7, g9, g10, g11, g12, g13⟩
theorem wcell1_any (p V : Nat) (L : List InsZ) (size out : Int) (r n : List Int) (aL : Option Addr) (cL : Nat) (ar : Option Addr) (cr : Nat) (an : Option Addr) (cn : Nat) (w : World) (H : VF p L size out r n) (hV : WW p V L size out r n aL cL ar cr an cn w) (op ia ib ic : Int) (hi : I64 ia /\ I64 ib /\ I64 ic) :
  Calls Tryz.prog 141 #[.pointer (some ⟨V, 0, none⟩), .agg #[.int .i64 op, .int .i64 ia, .int .i64 ib, .int .i64 ic], .int .i64 1] w fun e w' => e = .returned (.int .i64 (tvC p r 1 ⟨op, ia, ib, ic⟩)) /\ Below w.heap.size w w' := by
 by_cases g0 : op = 0; · subst g0; exact wcell1_0 p V L size out r n aL cL ar cr an cn w H hV ia ib ic hi
 by_cases g1 : op = 1; · subst g1; exact wcell1_1 p V L size out r n aL cL ar cr an cn w H hV ia ib ic hi
 by_cases g2 : op = 2; · subst g2; exact wcell1_2 p V L size out r n aL cL ar cr an cn w H hV ia ib ic hi
 by_cases g3 : op = 3; · subst g3; exact wcell1_3 p V L size out r n aL cL ar cr an cn w H hV ia ib ic hi
 by_cases g4 : op = 4; · subst g4; exact wcell1_4 p V L size out r n aL cL ar cr an cn w H hV ia ib ic hi
 by_cases g5 : op = 5; · subst g5; exact wcell1_5 p V L size out r n aL cL ar cr an cn w H hV ia ib ic hi
 by_cases g6 : op = 6; · subst g6; exact wcell1_6 p V L size out r n aL cL ar cr an cn w H hV ia ib ic hi
 by_cases g7 : op = 7; · subst g7; exact wcell1_7 p V L size out r n aL cL ar cr an cn w H hV ia ib ic hi
 by_cases g8 : op = 8; · subst g8; exact wcell1_8 p V L size out r n aL cL ar cr an cn w H hV ia ib ic hi
 by_cases g9 : op = 9; · subst g9; exact wcell1_9 p V L size out r n aL cL ar cr an cn w H hV ia ib ic hi
 by_cases g10 : op = 10; · subst g10; exact wcell1_10 p V L size out r n aL cL ar cr an cn w H hV ia ib ic hi
 by_cases g11 : op = 11; · subst g11; exact wcell1_11 p V L size out r n aL cL ar cr an cn w H hV ia ib ic hi
 by_cases g12 : op = 12; · subst g12; exact wcell1_12 p V L size out r n aL cL ar cr an cn w H hV ia ib ic hi
 by_cases g13 : op = 13; · subst g13; exact wcell1_13 p V L size out r n aL cL ar cr an cn w H hV ia ib ic hi
 exact wcell1_x p V L size out r n aL cL ar cr an cn w H hV ia ib ic hi op ⟨g0, g1, g2, g3, g4, g5, g6, g7, g9, g10, g11, g12, g13⟩
theorem wcell2_any (p V : Nat) (L : List InsZ) (size out : Int) (r n : List Int) (aL : Option Addr) (cL : Nat) (ar : Option Addr) (cr : Nat) (an : Option Addr) (cn : Nat) (w : World) (H : VF p L size out r n) (hV : WW p V L size out r n aL cL ar cr an cn w) (op ia ib ic : Int) (hi : I64 ia /\ I64 ib /\ I64 ic) :
  Calls Tryz.prog 141 #[.pointer (some ⟨V, 0, none⟩), .agg #[.int .i64 op, .int .i64 ia, .int .i64 ib, .int .i64 ic], .int .i64 2] w fun e w' => e = .returned (.int .i64 (tvC p r 2 ⟨op, ia, ib, ic⟩)) /\ Below w.heap.size w w' := by
 by_cases g0 : op = 0; · subst g0; exact wcell2_0 p V L size out r n aL cL ar cr an cn w H hV ia ib ic hi
 by_cases g1 : op = 1; · subst g1; exact wcell2_1 p V L size out r n aL cL ar cr an cn w H hV ia ib ic hi
 by_cases g2 : op = 2; · subst g2; exact wcell2_2 p V L size out r n aL cL ar cr an cn w H hV ia ib ic hi
 by_cases g3 : op = 3; · subst g3; exact wcell2_3 p V L size out r n aL cL ar cr an cn w H hV ia ib ic hi
 by_cases g4 : op = 4; · subst g4; exact wcell2_4 p V L size out r n aL cL ar cr an cn w H hV ia ib ic hi
 by_cases g5 : op = 5; · subst g5; exact wcell2_5 p V L size out r n aL cL ar cr an cn w H hV ia ib ic hi
 by_cases g6 : op = 6; · subst g6; exact wcell2_6 p V L size out r n aL cL ar cr an cn w H hV ia ib ic hi
 by_cases g7 : op = 7; · subst g7; exact wcell2_7 p V L size out r n aL cL ar cr an cn w H hV ia ib ic hi
 by_cases g8 : op = 8; · subst g8; exact wcell2_8 p V L size out r n aL cL ar cr an cn w H hV ia ib ic hi
 by_cases g9 : op = 9; · subst g9; exact wcell2_9 p V L size out r n aL cL ar cr an cn w H hV ia ib ic hi
 by_cases g10 : op = 10; · subst g10; exact wcell2_10 p V L size out r n aL cL ar cr an cn w H hV ia ib ic hi
 by_cases g11 : op = 11; · subst g11; exact wcell2_11 p V L size out r n aL cL ar cr an cn w H hV ia ib ic hi
 by_cases g12 : op = 12; · subst g12; exact wcell2_12 p V L size out r n aL cL ar cr an cn w H hV ia ib ic hi
 by_cases g13 : op = 13; · subst g13; exact wcell2_13 p V L size out r n aL cL ar cr an cn w H hV ia ib ic hi
 exact wcell2_x p V L size out r n aL cL ar cr an cn w H hV ia ib ic hi op ⟨g0, g1, g2, g3, g4, g5, g6, g7, g9, g10, g11, g12, g13⟩
theorem wdoes_any (p V : Nat) (L : List InsZ) (size out : Int) (r n : List Int) (aL : Option Addr) (cL : Nat) (ar : Option Addr) (cr : Nat) (an : Option Addr) (cn : Nat) (w : World) (H : VF p L size out r n) (hV : WW p V L size out r n aL cL ar cr an cn w) (op ia ib ic : Int) (hi : I64 ia /\ I64 ib /\ I64 ic) :
  Calls Tryz.prog 142 #[.pointer (some ⟨V, 0, none⟩), .agg #[.int .i64 op, .int .i64 ia, .int .i64 ib, .int .i64 ic]] w fun e w' => e = .returned (.int .i64 (tvW p r ⟨op, ia, ib, ic⟩)) /\ Below w.heap.size w w' := by
 by_cases g0 : op = 0; · subst g0; exact wdoes_0 p V L size out r n aL cL ar cr an cn w H hV ia ib ic hi
 by_cases g1 : op = 1; · subst g1; exact wdoes_1 p V L size out r n aL cL ar cr an cn w H hV ia ib ic hi
 by_cases g2 : op = 2; · subst g2; exact wdoes_2 p V L size out r n aL cL ar cr an cn w H hV ia ib ic hi
 by_cases g3 : op = 3; · subst g3; exact wdoes_3 p V L size out r n aL cL ar cr an cn w H hV ia ib ic hi
 by_cases g4 : op = 4; · subst g4; exact wdoes_4 p V L size out r n aL cL ar cr an cn w H hV ia ib ic hi
 by_cases g5 : op = 5; · subst g5; exact wdoes_5 p V L size out r n aL cL ar cr an cn w H hV ia ib ic hi
 by_cases g6 : op = 6; · subst g6; exact wdoes_6 p V L size out r n aL cL ar cr an cn w H hV ia ib ic hi
 by_cases g7 : op = 7; · subst g7; exact wdoes_7 p V L size out r n aL cL ar cr an cn w H hV ia ib ic hi
 by_cases g8 : op = 8; · subst g8; exact wdoes_8 p V L size out r n aL cL ar cr an cn w H hV ia ib ic hi
 by_cases g9 : op = 9; · subst g9; exact wdoes_9 p V L size out r n aL cL ar cr an cn w H hV ia ib ic hi
 by_cases g10 : op = 10; · subst g10; exact wdoes_10 p V L size out r n aL cL ar cr an cn w H hV ia ib ic hi
 by_cases g11 : op = 11; · subst g11; exact wdoes_11 p V L size out r n aL cL ar cr an cn w H hV ia ib ic hi
 by_cases g12 : op = 12; · subst g12; exact wdoes_12 p V L size out r n aL cL ar cr an cn w H hV ia ib ic hi
 by_cases g13 : op = 13; · subst g13; exact wdoes_13 p V L size out r n aL cL ar cr an cn w H hV ia ib ic hi
 exact wdoes_x p V L size out r n aL cL ar cr an cn w H hV ia ib ic hi op ⟨g0, g1, g2, g3, g4, g5, g6, g7, g8, g9, g10, g11, g12, g13⟩
theorem wreg0_any (p V : Nat) (L : List InsZ) (size out : Int) (r n : List Int) (aL : Option Addr) (cL : Nat) (ar : Option Addr) (cr : Nat) (an : Option Addr) (cn : Nat) (w : World) (H : VF p L size out r n) (hV : WW p V L size out r n aL cL ar cr an cn w) (op ia ib ic : Int) (hi : I64 ia /\ I64 ib /\ I64 ic) :
  Calls Tryz.prog 145 #[.pointer (some ⟨V, 0, none⟩), .agg #[.int .i64 op, .int .i64 ia, .int .i64 ib, .int .i64 ic], .int .i64 0] w fun e w' => e = .returned (.int .i64 (tvF p r ⟨op, ia, ib, ic⟩)) /\ Below w.heap.size w w' := by
 by_cases g10 : op = 10; · subst g10; exact wreg0_10 p V L size out r n aL cL ar cr an cn w H hV ia ib ic hi
 by_cases g11 : op = 11; · subst g11; exact wreg0_11 p V L size out r n aL cL ar cr an cn w H hV ia ib ic hi
 exact wreg0_x p V L size out r n aL cL ar cr an cn w H hV ia ib ic hi op ⟨g10, g11⟩
theorem wreg1_any (p V : Nat) (L : List InsZ) (size out : Int) (r n : List Int) (aL : Option Addr) (cL : Nat) (ar : Option Addr) (cr : Nat) (an : Option Addr) (cn : Nat) (w : World) (H : VF p L size out r n) (hV : WW p V L size out r n aL cL ar cr an cn w) (op ia ib ic : Int) (hi : I64 ia /\ I64 ib /\ I64 ic) :
  Calls Tryz.prog 145 #[.pointer (some ⟨V, 0, none⟩), .agg #[.int .i64 op, .int .i64 ia, .int .i64 ib, .int .i64 ic], .int .i64 1] w fun e w' => e = .returned (.int .i64 (tvA p r ⟨op, ia, ib, ic⟩)) /\ Below w.heap.size w w' := by
 by_cases g10 : op = 10; · subst g10; exact wreg1_10 p V L size out r n aL cL ar cr an cn w H hV ia ib ic hi
 by_cases g11 : op = 11; · subst g11; exact wreg1_11 p V L size out r n aL cL ar cr an cn w H hV ia ib ic hi
 exact wreg1_x p V L size out r n aL cL ar cr an cn w H hV ia ib ic hi op ⟨g10, g11⟩
theorem wreg2_any (p V : Nat) (L : List InsZ) (size out : Int) (r n : List Int) (aL : Option Addr) (cL : Nat) (ar : Option Addr) (cr : Nat) (an : Option Addr) (cn : Nat) (w : World) (H : VF p L size out r n) (hV : WW p V L size out r n aL cL ar cr an cn w) (op ia ib ic : Int) (hi : I64 ia /\ I64 ib /\ I64 ic) :
  Calls Tryz.prog 145 #[.pointer (some ⟨V, 0, none⟩), .agg #[.int .i64 op, .int .i64 ia, .int .i64 ib, .int .i64 ic], .int .i64 2] w fun e w' => e = .returned (.int .i64 (tvR r ⟨op, ia, ib, ic⟩)) /\ Below w.heap.size w w' := by
 by_cases g10 : op = 10; · subst g10; exact wreg2_10 p V L size out r n aL cL ar cr an cn w H hV ia ib ic hi
 by_cases g11 : op = 11; · subst g11; exact wreg2_11 p V L size out r n aL cL ar cr an cn w H hV ia ib ic hi
 exact wreg2_x p V L size out r n aL cL ar cr an cn w H hV ia ib ic hi op ⟨g10, g11⟩
theorem walso_any (p V : Nat) (L : List InsZ) (size out : Int) (r n : List Int) (aL : Option Addr) (cL : Nat) (ar : Option Addr) (cr : Nat) (an : Option Addr) (cn : Nat) (w : World) (H : VF p L size out r n) (hV : WW p V L size out r n aL cL ar cr an cn w) (k : Nat) (hk : k < L.length) :
  Calls Tryz.prog 143 #[.pointer (some ⟨V, 0, none⟩), .int .i64 (k : Int)] w fun e w' => e = .returned (.int .i64 (tvM p r k (insat L k))) /\ Below w.heap.size w w' := by
 obtain ⟨op, ia, ib, ic, ho⟩ : ∃ op ia ib ic, insat L k = ⟨op, ia, ib, ic⟩ := ⟨_, _, _, _, rfl⟩
 rw [ho]
 by_cases g4 : op = 4; · subst g4; exact walso_4 p V L size out r n aL cL ar cr an cn w H hV k ia ib ic hk ho
 by_cases g6 : op = 6; · subst g6; exact walso_6 p V L size out r n aL cL ar cr an cn w H hV k ia ib ic hk ho
 by_cases g10 : op = 10; · subst g10; exact walso_10 p V L size out r n aL cL ar cr an cn w H hV k ia ib ic hk ho
 exact walso_x p V L size out r n aL cL ar cr an cn w H hV op k ia ib ic hk ho ⟨g4, g6, g10⟩
theorem wnext_any (p V : Nat) (L : List InsZ) (size out : Int) (r n : List Int) (aL : Option Addr) (cL : Nat) (ar : Option Addr) (cr : Nat) (an : Option Addr) (cn : Nat) (w : World) (H : VF p L size out r n) (hV : WW p V L size out r n aL cL ar cr an cn w) (k : Nat) (hk : k < L.length) :
  Calls Tryz.prog 144 #[.pointer (some ⟨V, 0, none⟩), .int .i64 (k : Int)] w fun e w' => e = .returned (.int .i64 (tvN p r k (insat L k))) /\ Below w.heap.size w w' := by
 obtain ⟨op, ia, ib, ic, ho⟩ : ∃ op ia ib ic, insat L k = ⟨op, ia, ib, ic⟩ := ⟨_, _, _, _, rfl⟩
 rw [ho]
 by_cases g0 : op = 0; · subst g0; exact wnext_0 p V L size out r n aL cL ar cr an cn w H hV k ia ib ic hk ho
 by_cases g8 : op = 8; · subst g8; exact wnext_8 p V L size out r n aL cL ar cr an cn w H hV k ia ib ic hk ho
 by_cases g9 : op = 9; · subst g9; exact wnext_9 p V L size out r n aL cL ar cr an cn w H hV k ia ib ic hk ho
 by_cases g10 : op = 10; · subst g10; exact wnext_10 p V L size out r n aL cL ar cr an cn w H hV k ia ib ic hk ho
 by_cases g11 : op = 11; · subst g11; exact wnext_11 p V L size out r n aL cL ar cr an cn w H hV k ia ib ic hk ho
 exact wnext_x p V L size out r n aL cL ar cr an cn w H hV op k ia ib ic hk ho ⟨g0, g8, g9, g10, g11⟩
theorem wof_0 (p V : Nat) (L : List InsZ) (size out : Int) (r n : List Int) (aL : Option Addr) (cL : Nat) (ar : Option Addr) (cr : Nat) (an : Option Addr) (cn : Nat) (w : World) (H : VF p L size out r n) (hV : WW p V L size out r n aL cL ar cr an cn w) (k : Nat) (hk : k < L.length) :
  Calls Tryz.prog 122 #[.pointer (some ⟨V, 0, none⟩), .int .i64 0, .int .i64 (k : Int)] w fun e w' => e = .returned (.int .i64 (tvC p r 0 (insat L k))) /\ Below w.heap.size w w' := by
 have hbb := H.hI k hk
 obtain ⟨W0, hW0⟩ := exE (w.alloc (.cells #[.int .i64 (insat L k).op, .int .i64 (insat L k).a, .int .i64 (insat L k).b, .int .i64 (insat L k).c] 180))
 have hb0 := blA hW0
 obtain ⟨d0, d1, d2, d3, d4, d5⟩ := hV.cells
 obtain ⟨gi, oi, hgi, hgl, j0, j1, j2, j3⟩ := hV.ins.row k hk
 subst hgi
 have lk : (k : Int) < (L.length : Int) := by omega
 have hV0 := hV.below hb0
 have HB0 := hid hb0
 have HC := hid (wcell0_any p V L size out r n (some ⟨gi, oi, none⟩) cL ar cr an cn W0 H hV0 (insat L k).op _ _ _ ⟨hbb.2.1, hbb.2.2.1, hbb.2.2.2⟩)
 generalize tvC p r 0 (insat L k) = t at *
 generalize (insat L k).op = op at *
 generalize (insat L k).a = ia at *
 generalize (insat L k).b = ib at *
 generalize (insat L k).c = ic at *
 generalize L.length = nL at *
 clear H hV hV0 hb0 hbb
 go_enter Tryz.func122, Tryz.ntmps122
 go_wp2_with fail
 rw [<- hW0]
 clear hW0
 refine HC.out.mono ?_
 rintro e w1 ⟨rfl, hb1⟩
 have HB1 := hid (HB0.out.trans (hb1.mono HB0.out.size))
 clear hb1 HC
 go_wp2_with fail
 go_ret
 exact ⟨rfl, HB1.out⟩
theorem wof_1 (p V : Nat) (L : List InsZ) (size out : Int) (r n : List Int) (aL : Option Addr) (cL : Nat) (ar : Option Addr) (cr : Nat) (an : Option Addr) (cn : Nat) (w : World) (H : VF p L size out r n) (hV : WW p V L size out r n aL cL ar cr an cn w) (k : Nat) (hk : k < L.length) :
  Calls Tryz.prog 122 #[.pointer (some ⟨V, 0, none⟩), .int .i64 1, .int .i64 (k : Int)] w fun e w' => e = .returned (.int .i64 (tvC p r 1 (insat L k))) /\ Below w.heap.size w w' := by
 have hbb := H.hI k hk
 obtain ⟨W0, hW0⟩ := exE (w.alloc (.cells #[.int .i64 (insat L k).op, .int .i64 (insat L k).a, .int .i64 (insat L k).b, .int .i64 (insat L k).c] 180))
 have hb0 := blA hW0
 obtain ⟨d0, d1, d2, d3, d4, d5⟩ := hV.cells
 obtain ⟨gi, oi, hgi, hgl, j0, j1, j2, j3⟩ := hV.ins.row k hk
 subst hgi
 have lk : (k : Int) < (L.length : Int) := by omega
 have hV0 := hV.below hb0
 have HB0 := hid hb0
 have HC := hid (wcell1_any p V L size out r n (some ⟨gi, oi, none⟩) cL ar cr an cn W0 H hV0 (insat L k).op _ _ _ ⟨hbb.2.1, hbb.2.2.1, hbb.2.2.2⟩)
 generalize tvC p r 1 (insat L k) = t at *
 generalize (insat L k).op = op at *
 generalize (insat L k).a = ia at *
 generalize (insat L k).b = ib at *
 generalize (insat L k).c = ic at *
 generalize L.length = nL at *
 clear H hV hV0 hb0 hbb
 go_enter Tryz.func122, Tryz.ntmps122
 go_wp2_with fail
 rw [<- hW0]
 clear hW0
 refine HC.out.mono ?_
 rintro e w1 ⟨rfl, hb1⟩
 have HB1 := hid (HB0.out.trans (hb1.mono HB0.out.size))
 clear hb1 HC
 go_wp2_with fail
 go_ret
 exact ⟨rfl, HB1.out⟩
theorem wof_2 (p V : Nat) (L : List InsZ) (size out : Int) (r n : List Int) (aL : Option Addr) (cL : Nat) (ar : Option Addr) (cr : Nat) (an : Option Addr) (cn : Nat) (w : World) (H : VF p L size out r n) (hV : WW p V L size out r n aL cL ar cr an cn w) (k : Nat) (hk : k < L.length) :
  Calls Tryz.prog 122 #[.pointer (some ⟨V, 0, none⟩), .int .i64 2, .int .i64 (k : Int)] w fun e w' => e = .returned (.int .i64 (tvC p r 2 (insat L k))) /\ Below w.heap.size w w' := by
 have hbb := H.hI k hk
 obtain ⟨W0, hW0⟩ := exE (w.alloc (.cells #[.int .i64 (insat L k).op, .int .i64 (insat L k).a, .int .i64 (insat L k).b, .int .i64 (insat L k).c] 180))
 have hb0 := blA hW0
 obtain ⟨d0, d1, d2, d3, d4, d5⟩ := hV.cells
 obtain ⟨gi, oi, hgi, hgl, j0, j1, j2, j3⟩ := hV.ins.row k hk
 subst hgi
 have lk : (k : Int) < (L.length : Int) := by omega
 have hV0 := hV.below hb0
 have HB0 := hid hb0
 have HC := hid (wcell2_any p V L size out r n (some ⟨gi, oi, none⟩) cL ar cr an cn W0 H hV0 (insat L k).op _ _ _ ⟨hbb.2.1, hbb.2.2.1, hbb.2.2.2⟩)
 generalize tvC p r 2 (insat L k) = t at *
 generalize (insat L k).op = op at *
 generalize (insat L k).a = ia at *
 generalize (insat L k).b = ib at *
 generalize (insat L k).c = ic at *
 generalize L.length = nL at *
 clear H hV hV0 hb0 hbb
 go_enter Tryz.func122, Tryz.ntmps122
 go_wp2_with fail
 rw [<- hW0]
 clear hW0
 refine HC.out.mono ?_
 rintro e w1 ⟨rfl, hb1⟩
 have HB1 := hid (HB0.out.trans (hb1.mono HB0.out.size))
 clear hb1 HC
 go_wp2_with fail
 go_ret
 exact ⟨rfl, HB1.out⟩
theorem wof_3 (p V : Nat) (L : List InsZ) (size out : Int) (r n : List Int) (aL : Option Addr) (cL : Nat) (ar : Option Addr) (cr : Nat) (an : Option Addr) (cn : Nat) (w : World) (H : VF p L size out r n) (hV : WW p V L size out r n aL cL ar cr an cn w) (k : Nat) (hk : k < L.length) :
  Calls Tryz.prog 122 #[.pointer (some ⟨V, 0, none⟩), .int .i64 3, .int .i64 (k : Int)] w fun e w' => e = .returned (.int .i64 (tvW p r (insat L k))) /\ Below w.heap.size w w' := by
 have hbb := H.hI k hk
 obtain ⟨W0, hW0⟩ := exE (w.alloc (.cells #[.int .i64 (insat L k).op, .int .i64 (insat L k).a, .int .i64 (insat L k).b, .int .i64 (insat L k).c] 180))
 have hb0 := blA hW0
 obtain ⟨d0, d1, d2, d3, d4, d5⟩ := hV.cells
 obtain ⟨gi, oi, hgi, hgl, j0, j1, j2, j3⟩ := hV.ins.row k hk
 subst hgi
 have lk : (k : Int) < (L.length : Int) := by omega
 have hV0 := hV.below hb0
 have HB0 := hid hb0
 have HC := hid (wdoes_any p V L size out r n (some ⟨gi, oi, none⟩) cL ar cr an cn W0 H hV0 (insat L k).op _ _ _ ⟨hbb.2.1, hbb.2.2.1, hbb.2.2.2⟩)
 generalize tvW p r (insat L k) = t at *
 generalize (insat L k).op = op at *
 generalize (insat L k).a = ia at *
 generalize (insat L k).b = ib at *
 generalize (insat L k).c = ic at *
 generalize L.length = nL at *
 clear H hV hV0 hb0 hbb
 go_enter Tryz.func122, Tryz.ntmps122
 go_wp2_with fail
 rw [<- hW0]
 clear hW0
 refine HC.out.mono ?_
 rintro e w1 ⟨rfl, hb1⟩
 have HB1 := hid (HB0.out.trans (hb1.mono HB0.out.size))
 clear hb1 HC
 go_wp2_with fail
 go_ret
 exact ⟨rfl, HB1.out⟩
theorem wof_4 (p V : Nat) (L : List InsZ) (size out : Int) (r n : List Int) (aL : Option Addr) (cL : Nat) (ar : Option Addr) (cr : Nat) (an : Option Addr) (cn : Nat) (w : World) (H : VF p L size out r n) (hV : WW p V L size out r n aL cL ar cr an cn w) (k : Nat) (hk : k < L.length) :
  Calls Tryz.prog 122 #[.pointer (some ⟨V, 0, none⟩), .int .i64 4, .int .i64 (k : Int)] w fun e w' => e = .returned (.int .i64 (tvM p r k (insat L k))) /\ Below w.heap.size w w' := by
 have hbb := H.hI k hk
 obtain ⟨W0, hW0⟩ := exE (w.alloc (.cells #[.int .i64 (insat L k).op, .int .i64 (insat L k).a, .int .i64 (insat L k).b, .int .i64 (insat L k).c] 180))
 have hb0 := blA hW0
 obtain ⟨d0, d1, d2, d3, d4, d5⟩ := hV.cells
 obtain ⟨gi, oi, hgi, hgl, j0, j1, j2, j3⟩ := hV.ins.row k hk
 subst hgi
 have lk : (k : Int) < (L.length : Int) := by omega
 have hV0 := hV.below hb0
 have HB0 := hid hb0
 have HC := hid (walso_any p V L size out r n (some ⟨gi, oi, none⟩) cL ar cr an cn W0 H hV0 k hk)
 generalize tvM p r k (insat L k) = t at *
 generalize (insat L k).op = op at *
 generalize (insat L k).a = ia at *
 generalize (insat L k).b = ib at *
 generalize (insat L k).c = ic at *
 generalize L.length = nL at *
 clear H hV hV0 hb0 hbb
 go_enter Tryz.func122, Tryz.ntmps122
 go_wp2_with fail
 rw [<- hW0]
 clear hW0
 refine HC.out.mono ?_
 rintro e w1 ⟨rfl, hb1⟩
 have HB1 := hid (HB0.out.trans (hb1.mono HB0.out.size))
 clear hb1 HC
 go_wp2_with fail
 go_ret
 exact ⟨rfl, HB1.out⟩
theorem wof_5 (p V : Nat) (L : List InsZ) (size out : Int) (r n : List Int) (aL : Option Addr) (cL : Nat) (ar : Option Addr) (cr : Nat) (an : Option Addr) (cn : Nat) (w : World) (H : VF p L size out r n) (hV : WW p V L size out r n aL cL ar cr an cn w) (k : Nat) (hk : k < L.length) :
  Calls Tryz.prog 122 #[.pointer (some ⟨V, 0, none⟩), .int .i64 5, .int .i64 (k : Int)] w fun e w' => e = .returned (.int .i64 (tvN p r k (insat L k))) /\ Below w.heap.size w w' := by
 have hbb := H.hI k hk
 obtain ⟨W0, hW0⟩ := exE (w.alloc (.cells #[.int .i64 (insat L k).op, .int .i64 (insat L k).a, .int .i64 (insat L k).b, .int .i64 (insat L k).c] 180))
 have hb0 := blA hW0
 obtain ⟨d0, d1, d2, d3, d4, d5⟩ := hV.cells
 obtain ⟨gi, oi, hgi, hgl, j0, j1, j2, j3⟩ := hV.ins.row k hk
 subst hgi
 have lk : (k : Int) < (L.length : Int) := by omega
 have hV0 := hV.below hb0
 have HB0 := hid hb0
 have HC := hid (wnext_any p V L size out r n (some ⟨gi, oi, none⟩) cL ar cr an cn W0 H hV0 k hk)
 generalize tvN p r k (insat L k) = t at *
 generalize (insat L k).op = op at *
 generalize (insat L k).a = ia at *
 generalize (insat L k).b = ib at *
 generalize (insat L k).c = ic at *
 generalize L.length = nL at *
 clear H hV hV0 hb0 hbb
 go_enter Tryz.func122, Tryz.ntmps122
 go_wp2_with fail
 rw [<- hW0]
 clear hW0
 refine HC.out.mono ?_
 rintro e w1 ⟨rfl, hb1⟩
 have HB1 := hid (HB0.out.trans (hb1.mono HB0.out.size))
 clear hb1 HC
 go_wp2_with fail
 go_ret
 exact ⟨rfl, HB1.out⟩
theorem wof_6 (p V : Nat) (L : List InsZ) (size out : Int) (r n : List Int) (aL : Option Addr) (cL : Nat) (ar : Option Addr) (cr : Nat) (an : Option Addr) (cn : Nat) (w : World) (H : VF p L size out r n) (hV : WW p V L size out r n aL cL ar cr an cn w) (k : Nat) (hk : k < L.length) :
  Calls Tryz.prog 122 #[.pointer (some ⟨V, 0, none⟩), .int .i64 6, .int .i64 (k : Int)] w fun e w' => e = .returned (.int .i64 (tvF p r (insat L k))) /\ Below w.heap.size w w' := by
 have hbb := H.hI k hk
 obtain ⟨W0, hW0⟩ := exE (w.alloc (.cells #[.int .i64 (insat L k).op, .int .i64 (insat L k).a, .int .i64 (insat L k).b, .int .i64 (insat L k).c] 180))
 have hb0 := blA hW0
 obtain ⟨d0, d1, d2, d3, d4, d5⟩ := hV.cells
 obtain ⟨gi, oi, hgi, hgl, j0, j1, j2, j3⟩ := hV.ins.row k hk
 subst hgi
 have lk : (k : Int) < (L.length : Int) := by omega
 have hV0 := hV.below hb0
 have HB0 := hid hb0
 have HC := hid (wreg0_any p V L size out r n (some ⟨gi, oi, none⟩) cL ar cr an cn W0 H hV0 (insat L k).op _ _ _ ⟨hbb.2.1, hbb.2.2.1, hbb.2.2.2⟩)
 generalize tvF p r (insat L k) = t at *
 generalize (insat L k).op = op at *
 generalize (insat L k).a = ia at *
 generalize (insat L k).b = ib at *
 generalize (insat L k).c = ic at *
 generalize L.length = nL at *
 clear H hV hV0 hb0 hbb
 go_enter Tryz.func122, Tryz.ntmps122
 go_wp2_with fail
 rw [<- hW0]
 clear hW0
 refine HC.out.mono ?_
 rintro e w1 ⟨rfl, hb1⟩
 have HB1 := hid (HB0.out.trans (hb1.mono HB0.out.size))
 clear hb1 HC
 go_wp2_with fail
 go_ret
 exact ⟨rfl, HB1.out⟩
theorem wof_7 (p V : Nat) (L : List InsZ) (size out : Int) (r n : List Int) (aL : Option Addr) (cL : Nat) (ar : Option Addr) (cr : Nat) (an : Option Addr) (cn : Nat) (w : World) (H : VF p L size out r n) (hV : WW p V L size out r n aL cL ar cr an cn w) (k : Nat) (hk : k < L.length) :
  Calls Tryz.prog 122 #[.pointer (some ⟨V, 0, none⟩), .int .i64 7, .int .i64 (k : Int)] w fun e w' => e = .returned (.int .i64 (tvA p r (insat L k))) /\ Below w.heap.size w w' := by
 have hbb := H.hI k hk
 obtain ⟨W0, hW0⟩ := exE (w.alloc (.cells #[.int .i64 (insat L k).op, .int .i64 (insat L k).a, .int .i64 (insat L k).b, .int .i64 (insat L k).c] 180))
 have hb0 := blA hW0
 obtain ⟨d0, d1, d2, d3, d4, d5⟩ := hV.cells
 obtain ⟨gi, oi, hgi, hgl, j0, j1, j2, j3⟩ := hV.ins.row k hk
 subst hgi
 have lk : (k : Int) < (L.length : Int) := by omega
 have hV0 := hV.below hb0
 have HB0 := hid hb0
 have HC := hid (wreg1_any p V L size out r n (some ⟨gi, oi, none⟩) cL ar cr an cn W0 H hV0 (insat L k).op _ _ _ ⟨hbb.2.1, hbb.2.2.1, hbb.2.2.2⟩)
 generalize tvA p r (insat L k) = t at *
 generalize (insat L k).op = op at *
 generalize (insat L k).a = ia at *
 generalize (insat L k).b = ib at *
 generalize (insat L k).c = ic at *
 generalize L.length = nL at *
 clear H hV hV0 hb0 hbb
 go_enter Tryz.func122, Tryz.ntmps122
 go_wp2_with fail
 rw [<- hW0]
 clear hW0
 refine HC.out.mono ?_
 rintro e w1 ⟨rfl, hb1⟩
 have HB1 := hid (HB0.out.trans (hb1.mono HB0.out.size))
 clear hb1 HC
 go_wp2_with fail
 go_ret
 exact ⟨rfl, HB1.out⟩
theorem wof_8 (p V : Nat) (L : List InsZ) (size out : Int) (r n : List Int) (aL : Option Addr) (cL : Nat) (ar : Option Addr) (cr : Nat) (an : Option Addr) (cn : Nat) (w : World) (H : VF p L size out r n) (hV : WW p V L size out r n aL cL ar cr an cn w) (k : Nat) (hk : k < L.length) :
  Calls Tryz.prog 122 #[.pointer (some ⟨V, 0, none⟩), .int .i64 8, .int .i64 (k : Int)] w fun e w' => e = .returned (.int .i64 (tvR r (insat L k))) /\ Below w.heap.size w w' := by
 have hbb := H.hI k hk
 obtain ⟨W0, hW0⟩ := exE (w.alloc (.cells #[.int .i64 (insat L k).op, .int .i64 (insat L k).a, .int .i64 (insat L k).b, .int .i64 (insat L k).c] 180))
 have hb0 := blA hW0
 obtain ⟨d0, d1, d2, d3, d4, d5⟩ := hV.cells
 obtain ⟨gi, oi, hgi, hgl, j0, j1, j2, j3⟩ := hV.ins.row k hk
 subst hgi
 have lk : (k : Int) < (L.length : Int) := by omega
 have hV0 := hV.below hb0
 have HB0 := hid hb0
 have HC := hid (wreg2_any p V L size out r n (some ⟨gi, oi, none⟩) cL ar cr an cn W0 H hV0 (insat L k).op _ _ _ ⟨hbb.2.1, hbb.2.2.1, hbb.2.2.2⟩)
 generalize tvR r (insat L k) = t at *
 generalize (insat L k).op = op at *
 generalize (insat L k).a = ia at *
 generalize (insat L k).b = ib at *
 generalize (insat L k).c = ic at *
 generalize L.length = nL at *
 clear H hV hV0 hb0 hbb
 go_enter Tryz.func122, Tryz.ntmps122
 go_wp2_with fail
 rw [<- hW0]
 clear hW0
 refine HC.out.mono ?_
 rintro e w1 ⟨rfl, hb1⟩
 have HB1 := hid (HB0.out.trans (hb1.mono HB0.out.size))
 clear hb1 HC
 go_wp2_with fail
 go_ret
 exact ⟨rfl, HB1.out⟩
theorem wof9_0 (p V : Nat) (L : List InsZ) (size out : Int) (r n : List Int) (aL : Option Addr) (cL : Nat) (ar : Option Addr) (cr : Nat) (an : Option Addr) (cn : Nat) (w : World) (H : VF p L size out r n) (hV : WW p V L size out r n aL cL ar cr an cn w) (k : Nat) (ia ib ic : Int) (hk : k < L.length) (ho : insat L k = ⟨0, ia, ib, ic⟩) :
  Calls Tryz.prog 122 #[.pointer (some ⟨V, 0, none⟩), .int .i64 9, .int .i64 (k : Int)] w fun e w' => e = .returned (.int .i64 (tvH ⟨0, ia, ib, ic⟩)) /\ Below w.heap.size w w' := by
 have h3 := H.h3
 have h4 := H.h4
 have HEM := hemL H
 have hbb := H.hI k hk
 rw [ho] at hbb
 obtain ⟨_, hia, hib, hic⟩ := hbb
 obtain ⟨W0, hW0⟩ := exE (w.alloc (.cells #[.int .i64 0, .int .i64 ia, .int .i64 ib, .int .i64 ic] 180))
 have hb0 := blA hW0
 obtain ⟨d0, d1, d2, d3, d4, d5⟩ := hV.cells
 obtain ⟨gi, oi, hgi, hgl, j0, j1, j2, j3⟩ := hV.ins.row k hk
 subst hgi
 rw [ho] at j0 j1 j2 j3
 have lk : (k : Int) < (L.length : Int) := by omega
 have hk1 : I64 ((k : Int) + 1) := by have := H.hl; unfold I64; omega
 have hw : IntKind.i64.wrap ((k : Int) + 1) = (k : Int) + 1 := by rw [IntKind.wrap_i64]; have := H.hl; omega
 replace hV := hV.below hb0
 have HB0 := hid hb0
 clear hb0
 obtain ⟨c0, c1, c2, c3, c4, c5⟩ := hV.cells
 have QP := qpL c0
 have HE : Hid (tvH ⟨0, ia, ib, ic⟩ = 1) := rfl
 obtain ⟨R, hR⟩ := exE (tvH ⟨0, ia, ib, ic⟩)
 rw [<- hR] at HE ⊢
 clear hR
 clear HEM H hV
 generalize L.length = nL at *
 subst hW0
 go_enter Tryz.func122, Tryz.ntmps122
 go_wp2_with fail
 go_ret
 exact ⟨by have h := HE.out; subst h; rfl, HB0.out⟩
theorem wof9_x (p V : Nat) (L : List InsZ) (size out : Int) (r n : List Int) (aL : Option Addr) (cL : Nat) (ar : Option Addr) (cr : Nat) (an : Option Addr) (cn : Nat) (w : World) (H : VF p L size out r n) (hV : WW p V L size out r n aL cL ar cr an cn w) (op : Int) (k : Nat) (ia ib ic : Int) (hk : k < L.length) (ho : insat L k = ⟨op, ia, ib, ic⟩) (hno : op ≠ 0) :
  Calls Tryz.prog 122 #[.pointer (some ⟨V, 0, none⟩), .int .i64 9, .int .i64 (k : Int)] w fun e w' => e = .returned (.int .i64 (tvH ⟨op, ia, ib, ic⟩)) /\ Below w.heap.size w w' := by
 have h3 := H.h3
 have h4 := H.h4
 have HEM := hemL H
 have hbb := H.hI k hk
 rw [ho] at hbb
 obtain ⟨_, hia, hib, hic⟩ := hbb
 obtain ⟨W0, hW0⟩ := exE (w.alloc (.cells #[.int .i64 op, .int .i64 ia, .int .i64 ib, .int .i64 ic] 180))
 have hb0 := blA hW0
 obtain ⟨d0, d1, d2, d3, d4, d5⟩ := hV.cells
 obtain ⟨gi, oi, hgi, hgl, j0, j1, j2, j3⟩ := hV.ins.row k hk
 subst hgi
 rw [ho] at j0 j1 j2 j3
 have lk : (k : Int) < (L.length : Int) := by omega
 have hk1 : I64 ((k : Int) + 1) := by have := H.hl; unfold I64; omega
 have hw : IntKind.i64.wrap ((k : Int) + 1) = (k : Int) + 1 := by rw [IntKind.wrap_i64]; have := H.hl; omega
 replace hV := hV.below hb0
 have HB0 := hid hb0
 clear hb0
 obtain ⟨c0, c1, c2, c3, c4, c5⟩ := hV.cells
 have QP := qpL c0
 have q0 : (op == 0) = false := by rw [beq_eq_false_iff_ne]; omega
 have HE : Hid (tvH ⟨op, ia, ib, ic⟩ = 0) := by unfold Hid; simp [tvH, hno]
 obtain ⟨R, hR⟩ := exE (tvH ⟨op, ia, ib, ic⟩)
 rw [<- hR] at HE ⊢
 clear hR
 clear HEM H hV
 generalize L.length = nL at *
 subst hW0
 go_enter Tryz.func122, Tryz.ntmps122
 go_wp2_with fail
 go_ret
 exact ⟨by have h := HE.out; subst h; rfl, HB0.out⟩
theorem wof_9 (p V : Nat) (L : List InsZ) (size out : Int) (r n : List Int) (aL : Option Addr) (cL : Nat) (ar : Option Addr) (cr : Nat) (an : Option Addr) (cn : Nat) (w : World) (H : VF p L size out r n) (hV : WW p V L size out r n aL cL ar cr an cn w) (k : Nat) (hk : k < L.length) :
  Calls Tryz.prog 122 #[.pointer (some ⟨V, 0, none⟩), .int .i64 9, .int .i64 (k : Int)] w fun e w' => e = .returned (.int .i64 (tvH (insat L k))) /\ Below w.heap.size w w' := by
 obtain ⟨op, ia, ib, ic, ho⟩ : ∃ op ia ib ic, insat L k = ⟨op, ia, ib, ic⟩ := ⟨_, _, _, _, rfl⟩
 rw [ho]
 by_cases g0 : op = 0
 ·subst g0; exact wof9_0 p V L size out r n aL cL ar cr an cn w H hV k ia ib ic hk ho
 ·exact wof9_x p V L size out r n aL cL ar cr an cn w H hV op k ia ib ic hk ho g0
def rft (p : Nat) (r : List Int) (kind k : Nat) (o : InsZ) : Int :=
 if kind = 0 then tvC p r 0 o else if kind = 1 then tvC p r 1 o else if kind = 2 then tvC p r 2 o else if kind = 3 then tvW p r o else if kind = 4 then tvM p r k o else if kind = 5 then tvN p r k o else if kind = 6 then tvF p r o else if kind = 7 then tvA p r o else if kind = 8 then tvR r o else tvH o
theorem wof_any (p V : Nat) (L : List InsZ) (size out : Int) (r n : List Int) (aL : Option Addr) (cL : Nat) (ar : Option Addr) (cr : Nat) (an : Option Addr) (cn : Nat) (w : World) (H : VF p L size out r n) (hV : WW p V L size out r n aL cL ar cr an cn w) (kind k : Nat) (hkd : kind < 10) (hk : k < L.length) :
  Calls Tryz.prog 122 #[.pointer (some ⟨V, 0, none⟩), .int .i64 (kind : Int), .int .i64 (k : Int)] w fun e w' => e = .returned (.int .i64 (rft p r kind k (insat L k))) /\ Below w.heap.size w w' := by
 have : kind = 0 ∨ kind = 1 ∨ kind = 2 ∨ kind = 3 ∨ kind = 4 ∨ kind = 5 ∨ kind = 6 ∨ kind = 7 ∨ kind = 8 ∨ kind = 9 := by omega
 rcases this with rfl | rfl | rfl | rfl | rfl | rfl | rfl | rfl | rfl | rfl
 ·exact wof_0 p V L size out r n aL cL ar cr an cn w H hV k hk
 ·exact wof_1 p V L size out r n aL cL ar cr an cn w H hV k hk
 ·exact wof_2 p V L size out r n aL cL ar cr an cn w H hV k hk
 ·exact wof_3 p V L size out r n aL cL ar cr an cn w H hV k hk
 ·exact wof_4 p V L size out r n aL cL ar cr an cn w H hV k hk
 ·exact wof_5 p V L size out r n aL cL ar cr an cn w H hV k hk
 ·exact wof_6 p V L size out r n aL cL ar cr an cn w H hV k hk
 ·exact wof_7 p V L size out r n aL cL ar cr an cn w H hV k hk
 ·exact wof_8 p V L size out r n aL cL ar cr an cn w H hV k hk
 ·exact wof_9 p V L size out r n aL cL ar cr an cn w H hV k hk
theorem rft_I64 {p : Nat} {L : List InsZ} {size out : Int} {r n : List Int} (H : VF p L size out r n) (kind k : Nat) (hk : k < L.length) : I64 (rft p r kind k (insat L k)) := by
 have e := em_I64 H.h3 H.h4
 have z : I64 0 := I64_small 0
 have u : I64 1 := I64_small 1
 have hl := H.hl
 have hi := H.hI k hk
 unfold rft
 refine ite_I64 (cel3_I64 e _ _ _ _ _ _ _) (ite_I64 (cel3_I64 e _ _ _ _ _ _ _) (ite_I64 (cel3_I64 e _ _ _ _ _ _ _) (ite_I64 ?_ (ite_I64 ?_ (ite_I64 ?_ (ite_I64 ?_ (ite_I64 ?_ (ite_I64 ?_ ?_))))))))
 ·unfold tvW; exact ite_I64 (e _) (ite_I64 (e _) (ite_I64 (e _) (ite_I64 (e _) (ite_I64 (e _) (ite_I64 (e _) (ite_I64 (e _) (ite_I64 (e _) (ite_I64 (e _) (ite_I64 (e _) (ite_I64 z u))))))))))
 ·unfold tvM; exact ite_I64 (e _) (ite_I64 (e _) (ite_I64 (e _) z))
 ·unfold tvN; exact ite_I64 (I64_small _) (ite_I64 hi.2.1 (ite_I64 (e _) (ite_I64 (H.fr _) (I64_small _))))
 ·unfold tvF; exact ite_I64 (e _) (ite_I64 (H.fr _) (H.fr _))
 ·unfold tvA; exact ite_I64 (e _) (H.fr _)
 ·unfold tvR; exact ite_I64 (H.fr _) (H.fr _)
 ·unfold tvH; exact ite_I64 u z
theorem wsum_any (p V : Nat) (L : List InsZ) (size out : Int) (r n : List Int) (aL : Option Addr) (cL : Nat) (ar : Option Addr) (cr : Nat) (an : Option Addr) (cn : Nat) (w : World) (H : VF p L size out r n) (hV : WW p V L size out r n aL cL ar cr an cn w) (kind : Nat) (hkd : kind < 10) :
  Calls Tryz.prog 101 #[.pointer (some ⟨V, 0, none⟩), .int .i64 (kind : Int)] w fun e w' => e = .returned (.int .i64 (smt p L r (rft p r kind))) /\ Below w.heap.size w w' := by
 have h3 := H.h3
 have h4 := H.h4
 have hl := H.hl
 obtain ⟨br, orr, har, hrw⟩ := rowB_at hV.row H.hr
 subst har
 obtain ⟨nL, hnL⟩ := exE (L.length)
 have HNL := hid hnL
 have HV := hid hV
 have HH := hid H
 have HRW := hid hrw
 have HE : Hid (smt p L r (rft p r kind) = smz p (sel r) (fun k => rft p r kind k (insat L k)) nL) := by unfold Hid; rw [hnL]; rfl
 obtain ⟨R, hR⟩ := exE (smt p L r (rft p r kind))
 rw [<- hR] at HE ⊢
 have HLR : Hid ((r.length : Int) = 20 + (nL : Int)) := by have := H.hr; unfold Hid; omega
 have HXC : Hid (∀ W, Below w.heap.size w W -> W.cell? ⟨V, 0, none⟩ = some (.int .i64 p) /\ W.cell? ⟨V, 2, none⟩ = some (.slice aL nL cL) /\ W.cell? ⟨V, 4, none⟩ = some (.slice (some ⟨br, orr, none⟩) r.length cr)) := fun W h => by
  have hc := (hV.below h).cells
  rw [hnL]
  exact ⟨hc.1, hc.2.2.1, hc.2.2.2.2.1⟩
 rw [<- hnL] at hl
 obtain ⟨lr, hlr⟩ := exE (r.length)
 rw [<- hlr] at HLR HXC
 clear hnL hrw hR hV H hlr
 go_enter Tryz.func101, Tryz.ntmps101
 go_wp2_with fail
 go_loopw [5, 6, 7] (fun ov iv _ wr => ∃ k : Nat, k <= nL /\ iv = .int .i64 k /\ ov = .int .i64 (smz p (sel r) (fun k => rft p r kind k (insat L k)) k) /\ Hid (Below w.heap.size w wr)) (fun _ iv _ _ => nL - (intOf iv).toNat)
 case atStart => exact ⟨0, Nat.zero_le _, rfl, rfl, Below.refl _ _⟩
 case round =>
  obtain ⟨k, hk, rfl, rfl, HBw⟩ := hrel
  obtain ⟨c0, c2, c4⟩ := HXC.out wr HBw.out
  by_cases hlt : k < nL
  ·have hlt2 : (k : Int) < (nL : Int) := by omega
   have hks : IntKind.i64.wrap ((k : Int) + 1) = (k : Int) + 1 := by rw [IntKind.wrap_i64]; omega
   obtain ⟨m, hm⟩ := exE (20 + k)
   have em : 20 + (k : Int) = (m : Int) := by omega
   have wm : IntKind.i64.wrap (m : Int) = (m : Int) := by rw [IntKind.wrap_i64]; omega
   have lm : (m : Int) < (lr : Int) := by have := HLR.out; omega
   have HOF := hid (wof_any p V L size out r n aL cL _ cr an cn wr HH.out (HV.out.below HBw.out) kind k hkd (by have := HNL.out; omega))
   have HRM : Hid (∀ W, Below w.heap.size w W -> W.cell? ⟨br, orr + m, none⟩ = some (.int .i64 (zat r m))) := fun W h => (h.cell (p := ⟨br, orr + m, none⟩) (World.block_lt_of_cell? _ _ (HRW.out m (by have := HNL.out; omega)))).trans (HRW.out m (by have := HNL.out; omega))
   have hfi := rft_I64 HH.out kind k (by have := HNL.out; omega)
   have hfm := HH.out.fr m
   have bs0 := smz_bd h3 (sel r) (fun k => rft p r kind k (insat L k)) k
   have hbs : I64 (smz p (sel r) (fun k => rft p r kind k (insat L k)) k) := by unfold I64; omega
   have hem := em_I64 h3 h4 (rft p r kind k (insat L k) * zat r m)
   have HML := hid (fun W h => wmul_any p V ((rft p r kind k (insat L k))) (zat r m) W h3 h4 h hfi hfm)
   have HAD : Hid (∀ W : World, W.cell? ⟨V, 0, none⟩ = some (.int .i64 p) -> Calls Tryz.prog 100 #[.pointer (some ⟨V, 0, none⟩), .int .i64 (smz p (sel r) (fun k => rft p r kind k (insat L k)) k), .int .i64 (rft p r kind k (insat L k) * zat r m % (p : Int))] W fun e w' => e = .returned (.int .i64 (smz p (sel r) (fun k => rft p r kind k (insat L k)) (k + 1))) /\ w' = W) := fun W h => by
    rw [smz, show sel r k = zat r m by rw [hm]; rfl, Int.mul_comm (zat r m), <- em_add2]
    exact wadd_any p V _ _ W h3 h4 h hbs hem
   obtain ⟨t2, ht2⟩ : ∃ t, t = smz p (sel r) (fun k => rft p r kind k (insat L k)) (k + 1) := ⟨_, rfl⟩
   have HT2 := hid ht2
   rw [<- ht2] at HAD
   generalize rft p r kind k (insat L k) * zat r m % (p : Int) = t1 at *
   generalize smz p (sel r) (fun k => rft p r kind k (insat L k)) k = t0 at *
   generalize rft p r kind k (insat L k) = fk at *
   generalize zat r m = sm at *
   clear hfi hfm bs0 hbs hem ht2 hm
   go_wp2_with fail
   refine HOF.out.mono ?_
   rintro e w1 ⟨rfl, hb1⟩
   have HB1 := hid (HBw.out.trans (hb1.mono HBw.out.size))
   clear hb1 HOF c0 c2 c4
   obtain ⟨c0, c2, c4⟩ := HXC.out w1 HB1.out
   have cm := HRM.out w1 HB1.out
   go_wp2_with fail
   refine (HML.out _ c0).mono ?_
   rintro e w2 ⟨rfl, hw⟩
   have hw2 := hw.symm
   subst hw2
   clear hw
   go_wp2_with fail
   refine (HAD.out _ c0).mono ?_
   rintro e w2 ⟨rfl, hw⟩
   have hw2 := hw.symm
   subst hw2
   clear hw
   go_wp2_with fail
   go_roundw
   case rel => exact ⟨k + 1, by omega, by go_num, by rw [HT2.out], HB1⟩
   case measure => simp [intOf]; omega
  ·have hlt2 : ¬ (k : Int) < (nL : Int) := by omega
   obtain rfl : k = nL := by omega
   go_wp2_with fail
   go_ret
   exact ⟨by rw [HE.out]; rfl, HBw.out⟩
theorem worder_false (p V : Nat) (a v b u : Int) (w : World) (h3 : 3 <= p) (h4 : p <= 2147483647) (hp : w.cell? ⟨V, 0, none⟩ = some (.int .i64 p)) (ha : I64 a) (hv : I64 v) (hb : I64 b) (hu : I64 u) :
  Calls Tryz.prog 102 #[.pointer (some ⟨V, 0, none⟩), .int .i64 a, .int .i64 v, .int .i64 b, .int .i64 u, .bool false] w fun e w' => e = .returned (.int .i64 (ord1 p a b)) /\ w' = w := by
 have e := em_I64 h3 h4
 have HC0 := hid (wsub_any p V b a w h3 h4 hp hb ha)
 have HC1 := hid (wsub_any p V u v w h3 h4 hp hu hv)
 have HC2 : Hid (Calls Tryz.prog 99 #[.pointer (some ⟨V, 0, none⟩), .int .i64 ((b - a) % (p : Int)), .int .i64 1] w fun e w' => e = .returned (.int .i64 ((b - a - 1) % (p : Int))) /\ w' = w) := by
  unfold Hid
  rw [show (b - a - 1) % (p : Int) = ((b - a) % (p : Int) - 1) % (p : Int) from (em_sub1 _ _ _).symm]
  exact wsub_any p V _ _ w h3 h4 hp (e _) (show I64 1 from I64_small 1)
 have HC3 : Hid (Calls Tryz.prog 98 #[.pointer (some ⟨V, 0, none⟩), .int .i64 ((b - a) % (p : Int)), .int .i64 ((b - a - 1) % (p : Int))] w fun e w' => e = .returned (.int .i64 (ord1 p a b)) /\ w' = w) := by
  unfold Hid
  rw [ord1, <- em_mul1, <- em_mul2]
  exact wmul_any p V _ _ w h3 h4 hp (e _) (e _)
 clear e ha hv hb hu
 generalize ord1 p a b = t4 at *
 generalize (b - a - 1) % (p : Int) = t3 at *
 generalize (b - a) % (p : Int) = t1 at *
 generalize (u - v) % (p : Int) = t2 at *
 go_enter Tryz.func102, Tryz.ntmps102
 go_wp2_with fail
 refine HC0.out.mono ?_
 rintro e w1 ⟨rfl, hw⟩
 have hw1 := hw.symm
 subst hw1
 clear hw
 go_wp2_with fail
 refine HC1.out.mono ?_
 rintro e w1 ⟨rfl, hw⟩
 have hw1 := hw.symm
 subst hw1
 clear hw
 go_wp2_with fail
 refine HC2.out.mono ?_
 rintro e w1 ⟨rfl, hw⟩
 have hw1 := hw.symm
 subst hw1
 clear hw
 go_wp2_with fail
 refine HC3.out.mono ?_
 rintro e w1 ⟨rfl, hw⟩
 have hw1 := hw.symm
 subst hw1
 clear hw
 go_wp2_with fail
 go_ret
 exact ⟨rfl, rfl⟩
theorem worder_true (p V : Nat) (a v b u : Int) (w : World) (h3 : 3 <= p) (h4 : p <= 2147483647) (hp : w.cell? ⟨V, 0, none⟩ = some (.int .i64 p)) (ha : I64 a) (hv : I64 v) (hb : I64 b) (hu : I64 u) :
  Calls Tryz.prog 102 #[.pointer (some ⟨V, 0, none⟩), .int .i64 a, .int .i64 v, .int .i64 b, .int .i64 u, .bool true] w fun e w' => e = .returned (.int .i64 (ord2 p a v b u)) /\ w' = w := by
 have e := em_I64 h3 h4
 have HC0 := hid (wsub_any p V b a w h3 h4 hp hb ha)
 have HC1 := hid (wsub_any p V u v w h3 h4 hp hu hv)
 have HC2 : Hid (Calls Tryz.prog 99 #[.pointer (some ⟨V, 0, none⟩), .int .i64 ((b - a) % (p : Int)), .int .i64 1] w fun e w' => e = .returned (.int .i64 ((b - a - 1) % (p : Int))) /\ w' = w) := by
  unfold Hid
  rw [show (b - a - 1) % (p : Int) = ((b - a) % (p : Int) - 1) % (p : Int) from (em_sub1 _ _ _).symm]
  exact wsub_any p V _ _ w h3 h4 hp (e _) (show I64 1 from I64_small 1)
 have HC3 : Hid (Calls Tryz.prog 98 #[.pointer (some ⟨V, 0, none⟩), .int .i64 ((b - a - 1) % (p : Int)), .int .i64 ((u - v) % (p : Int))] w fun e w' => e = .returned (.int .i64 (ord2 p a v b u)) /\ w' = w) := by
  unfold Hid
  rw [ord2, <- em_mul1, <- em_mul2]
  exact wmul_any p V _ _ w h3 h4 hp (e _) (e _)
 clear e ha hv hb hu
 generalize ord2 p a v b u = t4 at *
 generalize (b - a - 1) % (p : Int) = t3 at *
 generalize (b - a) % (p : Int) = t1 at *
 generalize (u - v) % (p : Int) = t2 at *
 go_enter Tryz.func102, Tryz.ntmps102
 go_wp2_with fail
 refine HC0.out.mono ?_
 rintro e w1 ⟨rfl, hw⟩
 have hw1 := hw.symm
 subst hw1
 clear hw
 go_wp2_with fail
 refine HC1.out.mono ?_
 rintro e w1 ⟨rfl, hw⟩
 have hw1 := hw.symm
 subst hw1
 clear hw
 go_wp2_with fail
 refine HC2.out.mono ?_
 rintro e w1 ⟨rfl, hw⟩
 have hw1 := hw.symm
 subst hw1
 clear hw
 go_wp2_with fail
 refine HC3.out.mono ?_
 rintro e w1 ⟨rfl, hw⟩
 have hw1 := hw.symm
 subst hw1
 clear hw
 go_wp2_with fail
 go_ret
 exact ⟨rfl, rfl⟩
end Go.Proofs.YtjlngcmkgkiplaaGreatDoor
